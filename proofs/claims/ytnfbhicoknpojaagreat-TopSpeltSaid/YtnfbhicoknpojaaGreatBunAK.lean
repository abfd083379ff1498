/-
  AN append ONTO A ROW OF THE CALL's OWN, and what it leaves of that row: its first cells. For a region that draws its order and makes and grows several rows. Over any program.
  A REGION WALKED OVER A FRAME THAT IS A VARIABLE: what its slots hold is said by facts alone. Over any program.
  A BLOCK, OR A BRANCHING, TAKEN OUT OF A FUNCTION'S TEXT, so that it can be walked in a declaration of its own. Over any program.
  A STATEMENT THAT IS A REGION, TAKEN OUT OF A FUNCTION'S TEXT, so that it can be walked in a declaration of its own. Over any program.
  ONE MORE ELEMENT AT THE END OF A COPY (append(append([]T{}, l...), x)): what the steps of such a region leave. Over any element.
  HOW MANY CORRECTIONS, as one number: as many back, and none just if the letters are the same.
  STRINGS, plain: two with the same bytes are the same; what a byte parts.
  Fills of the program, for any shelf, form and letter.
  THE SHELF OF THE EXAMPLES: what is so of it, by computation.
  WHAT A BYTE PARTS: Split of the reference.
  THE WORDS, PARTS, SHELF AND MARKS of the examples, as the statements make them.
  ANY MARKS FOR A LETTER, by turns, and the letter that it becomes: Aloud of the statements.
  WHAT THE SMALL FUNCTIONS OF THE REFERENCE RETURN: whether a list comes before another one, whether two lists are the same, what is settled.
  WHAT THE SMALL FUNCTIONS OF THE REFERENCE RETURN: whether two lists are the same, whether one has fewer, whether a list has a number, ascending numbers, bits.
  WHAT THE SMALL FUNCTIONS OF THE REFERENCE RETURN: whether a list has a number, ascending numbers, the bits of so many sounds.
  WHAT THE SMALL FUNCTIONS OF THE REFERENCE RETURN: a bit of some bits; the first index of a string; whether a string is a name; whether a name is fresh.
  WHAT Name AND Fresh OF THE REFERENCE RETURN, for any string: the same as that of ear.
  ERRORS OF THE REFERENCE: Roomy, part, Check, form and letter return what the program's do.
-/
import Derived.Test.YtnfbhicoknpojaaGreatBunAJ
import Derived.Laws.OwnMore
import Derived.Test.YtnfbhicoknpojaaGreatBunAH
import Derived.Test.YtnfbhicoknpojaaGreatBunAA
import Derived.Test.YtnfbhicoknpojaaGreatBunAI
import Derived.Test.YtnfbhicoknpojaaGreatBunAD
import Derived.Test.YtnfbhicoknpojaaGreatBunAB
import Derived.RegionTactic
import Derived.BigRegion
import Derived.Deep.CutBlock
import Derived.Deep.DeepCutAuto
namespace Go.Proofs.YtnfbhicoknpojaaGreat
set_option linter.unusedSimpArgs false
set_option linter.unusedVariables false
open Go.RowKit
set_option linter.unusedVariables false
namespace Facts.App
variable {P : Program} {ops : Array Oper}

/-- a later world in which new rows, from a block on, may have been written behind their first n cells -/
structure Grew (n0 n : Nat) (w w' : World) : Prop where
  os : w'.os = w.os
  tape : w'.tape = w.tape
  output : w'.output = w.output
  size : w.heap.size ≤ w'.heap.size
  block : ∀ k, k < w.heap.size → w'.heap[k]? = w.heap[k]? ∨ (n0 ≤ k ∧ ∃ cur cur' e, w.heap[k]? = some (.cells cur e (0, 0)) ∧ w'.heap[k]? = some (.cells cur' e (0, 0)) ∧ cur'.size = cur.size ∧ cur'.toList.take n = cur.toList.take n)
theorem Grew.of_ext {n0 n : Nat} {w w' : World} (h : Ext w w') : Grew n0 n w w' := ⟨Below.os h, Below.tape h, Below.output h, Below.size h, fun k hk => .inl (Below.block h k hk)⟩
theorem Grew.trans {n0 n : Nat} {a b c : World} (h : Grew n0 n a b) (k : Grew n0 n b c) : Grew n0 n a c :=
  ⟨k.os.trans h.os, k.tape.trans h.tape, k.output.trans h.output, Nat.le_trans h.size k.size, fun i hi => by
    rcases h.block i hi with h1 | ⟨h0, c1, c2, e, g1, g2, g3, g4⟩
    · rcases k.block i (Nat.lt_of_lt_of_le hi h.size) with h2 | ⟨h0, c1, c2, e, g1, g2, g3, g4⟩
      · exact .inl (h2.trans h1)
      · exact .inr ⟨h0, c1, c2, e, by rw [← h1]; exact g1, g2, g3, g4⟩
    · rcases k.block i (Nat.lt_of_lt_of_le hi h.size) with h2 | ⟨-, c3, c4, e', f1, f2, f3, f4⟩
      · exact .inr ⟨h0, c1, c2, e, g1, by rw [h2]; exact g2, g3, g4⟩
      · rw [g2] at f1
        simp only [Option.some.injEq, Obj.cells.injEq, and_true] at f1
        obtain ⟨rfl, rfl⟩ := f1
        exact .inr ⟨h0, c1, c4, e, g1, f2, f3.trans g3, f4.trans g4⟩⟩
theorem Grew.below {n0 n : Nat} {w w' : World} (h : Grew n0 n w w') {u : World} (hu : u.heap.size = n0) (hx : Ext u w) : Ext u w' := by
  subst hu
  exact ⟨h.os.trans (Below.os hx), h.tape.trans (Below.tape hx), h.output.trans (Below.output hx), Nat.le_trans (Below.size hx) h.size, fun k hk => by
    rcases h.block k (Nat.lt_of_lt_of_le hk (Below.size hx)) with h1 | ⟨h0, -⟩
    · exact h1.trans (Below.block hx k hk)
    · omega⟩
theorem two_grew (n0 n : Nat) : Piv.Two Ext (Grew n0 n) :=
  ⟨fun _ _ h => Grew.of_ext h, fun _ _ _ h k => h.trans k, fun _ _ _ h k => Grew.trans h k, fun _ => Ext.refl _, fun w => ext_drew w⟩
/-- a row of so many cells at most is kept -/
theorem Grew.owns {n0 n : Nat} {w w' : World} (h : Grew n0 n w w') {base size m : Nat} {e : TypeId} {v : Value} {xs : List Value} (ho : w.ownsRow base e size v m xs) (hm : m * size ≤ n) : w'.ownsRow base e size v m xs := by
  refine ⟨ho.1, ?_⟩
  rcases ho.2 with h1 | ⟨g, cap, cur, rfl, hb, hg, hnc, hcm, hcs, htake⟩
  · exact .inl h1
  · have hlt : g < w.heap.size := (Array.getElem?_eq_some_iff.1 hg).1
    rcases h.block g hlt with h1 | ⟨-, c1, c2, e', g1, g2, g3, g4⟩
    · exact .inr ⟨g, cap, cur, rfl, hb, by rw [h1]; exact hg, hnc, hcm, hcs, htake⟩
    · rw [hg] at g1
      simp only [Option.some.injEq, Obj.cells.injEq, and_true] at g1
      obtain ⟨rfl, rfl⟩ := g1
      refine .inr ⟨g, cap, c2, rfl, hb, g2, hnc, hcm, g3.trans hcs, ?_⟩
      have := congrArg (List.take (m * size)) g4
      rw [List.take_take, List.take_take, Nat.min_eq_left hm] at this
      rw [this]; exact htake
theorem Grew.cell {n0 n : Nat} {w w' : World} (h : Grew n0 n w w') {B j : Nat} {v : Value} (hc : w.cell? ⟨B, j, none⟩ = some v) (hj : j < n) : w'.cell? ⟨B, j, none⟩ = some v := by
  have hlt : B < w.heap.size := cell_lt hc
  rcases h.block B hlt with h1 | ⟨-, c1, c2, e', g1, g2, g3, g4⟩
  · rw [World.cell?_of_block (a := ⟨B, j, none⟩) h1]; exact hc
  · unfold World.cell? at hc ⊢
    simp only [g1] at hc
    simp only [g2]
    have e1 : c1[j]? = some v := by simpa using hc
    have e2 : c2[j]? = c1[j]? := by
      have a1 : c2.toList[j]? = (c2.toList.take n)[j]? := by rw [List.getElem?_take_of_lt hj]
      have a2 : c1.toList[j]? = (c1.toList.take n)[j]? := by rw [List.getElem?_take_of_lt hj]
      rw [← Array.getElem?_toList, ← Array.getElem?_toList, a1, a2, g4]
    simpa [e2] using e1
theorem run_append_grew {w : World} (base : Nat) (t ty e : TypeId) (i : TypeInfo) (z : Value) (size bytes : Nat) (ht : P.underlying t = some (.slice e)) (hi : P.info? e = some i) (hz : i.zero = some z)
    (hsize : i.size = size) (hby : i.bytes = bytes) (hzs : z.cells.size = size) (hsz : 0 < size)
    (v : Value) (n : Nat) (xs : List Value) (hown : w.ownsRow base e size v n xs)
    (a : Addr) (m c : Nat) (news : List Value) (hl : news.length = m * size) (hnews : ∀ j u, news[j]? = some u → w.cell? (a.add j) = some u) (h1 : ∀ u ∈ news, u.oneCell' = true)
    (h63 : n + m ≤ maxLen) (hbytes : (n + m) * bytes ≤ 140737488355328) (hbase : base ≤ w.heap.size) :
    ∃ v' w', (Builtin.append_ #[t, t] ty #[v, .slice (some a) m c]).run P w = .ok v' w' ∧ w'.ownsRow base e size v' (n + m) (xs ++ news) ∧ Grew base (n * size) w w' ∧
      ((∀ g cap, v = .slice (some ⟨g, 0, none⟩) n cap → cap < n + m) → Ext w w') := by
  obtain ⟨v', w', hr, ho, hg, -, -⟩ := run_append_own_at (P := P) w base t ty e i z size bytes ht hi hz hsize hby hzs hsz v n xs hown a m c news hl hnews h1 h63 hbytes hbase
  refine ⟨v', w', hr, ho, ?_⟩
  rcases hown.2 with ⟨rfl, rfl⟩ | ⟨g, cap, cur, rfl, hbg, hg0, hnc, hcm, hcs, htake⟩
  · have hx : Ext w w' := ⟨hg.os, hg.tape, hg.output, hg.size, fun k hk => hg.block k hk (by simp [Value.ownBlock])⟩
    exact ⟨Grew.of_ext hx, fun _ => hx⟩
  · by_cases hroom : n + m ≤ cap
    · obtain ⟨w2, hr2, ho2, hg2⟩ := run_append_fits (P := P) (w := w) base t ty e i size ht hi hsize g n cap xs hown a m c news hl hnews h1 hroom
      rw [hr] at hr2
      simp only [Result.ok.injEq] at hr2
      obtain ⟨rfl, rfl⟩ := hr2
      refine ⟨⟨hg2.os, hg2.tape, hg2.output, hg2.size, fun k hk => ?_⟩, fun hf => by have := hf g cap rfl; omega⟩
      by_cases hkg : k = g
      · subst hkg
        right
        refine ⟨hbg, ?_⟩
        rcases ho2.2 with ⟨he, -⟩ | ⟨g', cap', cur', he, -, hg', -, -, hcs', ht'⟩
        · simp at he
        · simp only [Value.slice.injEq, Option.some.injEq, Addr.mk.injEq, and_true, true_and] at he
          obtain ⟨rfl, rfl⟩ := he
          refine ⟨cur, cur', e, hg0, hg', by rw [hcs, hcs'], ?_⟩
          have e1 := congrArg (List.take (n * size)) ht'
          rw [List.take_take, Nat.min_eq_left (Nat.mul_le_mul_right _ (Nat.le_add_right _ _)), ← hown.1, List.take_left] at e1
          rw [← hown.1, e1, hown.1]; exact htake.symm
      · exact .inl (hg2.block k hk (by simpa using hkg))
    · have hb2 : (n + m) * i.bytes ≤ 140737488355328 := by rw [hby]; exact hbytes
      have hr2 := run_append_grow (P := P) w t ty e i z ht hi hz ⟨g, 0, none⟩ n cap xs (by rw [hsize]; exact hown.1) (hown.cells (g := g) rfl) a m c news (by rw [hsize]; exact hl) hnews (by omega) (by simp only [maxLen] at h63; omega) (growslice_fits (by omega) hb2)
      rw [hr] at hr2
      simp only [Result.ok.injEq] at hr2
      obtain ⟨rfl, rfl⟩ := hr2
      have hx : Ext w (w.drew.alloc (.cells (xs.toArray ++ news.toArray ++ Builtin.zeroCells z.cells (grownCap w (n + m) cap e - (n + m))) e)) := (ext_drew w).alloc _
      exact ⟨Grew.of_ext hx, fun _ => hx⟩
theorem stepG_append_grew {o : Oper} {a : Act} {w : World} {S : Value → World → Prop} (hgd : o.guard = none) (s x : Operand) (t : TypeId)
    (ho : o.op = .call { callee := .builtin .append, args := #[s, x], argTypes := #[t, t] })
    (base : Nat) (e : TypeId) (i : TypeInfo) (z : Value) (size bytes : Nat) (ht : P.underlying t = some (.slice e)) (hi : P.info? e = some i) (hz : i.zero = some z)
    (hsize : i.size = size) (hby : i.bytes = bytes) (hzs : z.cells.size = size) (hsz : 0 < size)
    (v : Value) (n : Nat) (xs : List Value) (hs : a.eval s = v) (hown : w.ownsRow base e size v n xs)
    (ad : Addr) (m c : Nat) (news : List Value) (hx : a.eval x = .slice (some ad) m c) (hl : news.length = m * size) (hnews : ∀ j u, news[j]? = some u → w.cell? (ad.add j) = some u) (h1 : ∀ u ∈ news, u.oneCell' = true)
    (h63 : n + m ≤ maxLen) (hbytes : (n + m) * bytes ≤ 140737488355328) (hbase : base ≤ w.heap.size)
    (h : ∀ v' w', w'.ownsRow base e size v' (n + m) (xs ++ news) → Grew base (n * size) w w' → ((∀ g cap, v = .slice (some ⟨g, 0, none⟩) n cap → cap < n + m) → Ext w w') → S v' w') : stepG P ops o a w S := by
  obtain ⟨v', w', hr, h2, h3, h4⟩ := run_append_grew (P := P) base t o.type e i z size bytes ht hi hz hsize hby hzs hsz v n xs hown ad m c news hl hnews h1 h63 hbytes hbase
  unfold stepG
  have hw : Region.wanted o (yielded ops a.tmps) = true := by unfold Region.wanted; rw [hgd]
  rw [if_pos hw]
  unfold execOp
  simp only [ho, resolve, invoke, builtin, Sem.run_bind, Sem.run_pure, Result.andThen_ok, List.map_toArray, List.map_cons, List.map_nil, hs, hx, hr]
  exact h v' w' h2 h3 h4
/-- onto a row, of nothing -/
theorem stepG_append_none {o : Oper} {a : Act} {w : World} {S : Value → World → Prop} (hgd : o.guard = none) (s x : Operand) (t : TypeId)
    (ho : o.op = .call { callee := .builtin .append, args := #[s, x], argTypes := #[t, t] })
    (base : Nat) (e : TypeId) (i : TypeInfo) (size : Nat) (ht : P.underlying t = some (.slice e)) (hi : P.info? e = some i)
    (v : Value) (n : Nat) (xs : List Value) (hs : a.eval s = v) (hown : w.ownsRow base e size v n xs) (hx : a.eval x = .slice none 0 0)
    (h : S v w) : stepG P ops o a w S := by
  have hrun := run_append_owned_none (P := P) (w := w) base t o.type e i size ht hi v n xs hown
  unfold stepG
  have hw : Region.wanted o (yielded ops a.tmps) = true := by unfold Region.wanted; rw [hgd]
  rw [if_pos hw]
  unfold execOp
  simp only [ho, resolve, invoke, builtin, Sem.run_bind, Sem.run_pure, Result.andThen_ok, List.map_toArray, List.map_cons, List.map_nil, hs, hx, hrun]
  exact h
end Facts.App
end Go.Proofs.YtnfbhicoknpojaaGreat

namespace Go.Proofs.YtnfbhicoknpojaaGreat
set_option linter.unusedSimpArgs false
set_option linter.unusedVariables false
open Go.RowKit
namespace Facts
theorem wp_frame {P : Program} {c : Code} {Q : Exit → Act → World → Prop} {a : Act} {w : World} (h : ∀ A : Act, A = a → Code.wp P c Q A w) : Code.wp P c Q a w := h a rfl
theorem eval_put_same (a : Act) (t : Nat) (v : Value) (h : t < a.tmps.size) : (a.put (some t) v).eval (.tmp t) = v := by
  simp only [Act.put, Act.eval]
  rw [Array.getD_eq_getD_getElem?, Array.getElem?_setIfInBounds_self, if_pos h]; rfl
theorem eval_put_other (a : Act) (d t : Nat) (v : Value) (h : d ≠ t) : (a.put (some d) v).eval (.tmp t) = a.eval (.tmp t) := by
  simp only [Act.put, Act.eval]
  rw [Array.getD_eq_getD_getElem?, Array.getD_eq_getD_getElem?, Array.getElem?_setIfInBounds_ne h]
theorem eval_put_none (a : Act) (v : Value) (o : Operand) : (a.put none v).eval o = a.eval o := rfl
theorem eval_const (a : Act) (v : Value) : a.eval (.const v) = v := rfl
theorem eval_func (a : Act) (f : FuncId) : a.eval (.func f) = .func (.func f) #[] #[] := rfl
theorem size_put (a : Act) (d : Option Tmp) (v : Value) : (a.put d v).tmps.size = a.tmps.size := put_size a d v
end Facts
end Go.Proofs.YtnfbhicoknpojaaGreat

namespace Go.Proofs.YtnfbhicoknpojaaGreat
set_option linter.unusedSimpArgs false
set_option linter.unusedVariables false
open Go.RowKit
def findBlock (n : Nat) : Code → Option Code
  | .block i c => if i = n then some (.block i c) else findBlock n c
  | .seq a b => match findBlock n a with
    | some c => some c
    | none => findBlock n b
  | .loop c => findBlock n c
  | .scope c => findBlock n c
  | .cond _ a b => match findBlock n a with
    | some c => some c
    | none => findBlock n b
  | _ => none
def findCond (t : Nat) : Code → Option Code
  | .cond (.tmp i) a b => if i = t then some (.cond (.tmp i) a b) else match findCond t a with
    | some c => some c
    | none => findCond t b
  | .seq a b => match findCond t a with
    | some c => some c
    | none => findCond t b
  | .loop c => findCond t c
  | .scope c => findCond t c
  | .block _ c => findCond t c
  | _ => none
noncomputable def blockOf (f : Func) (n : Nat) : Code := ((f.body.bind (findBlock n)).getD .skip)
noncomputable def condOf (f : Func) (n : Nat) : Code := ((f.body.bind (findCond n)).getD .skip)
end Go.Proofs.YtnfbhicoknpojaaGreat

namespace Go.Proofs.YtnfbhicoknpojaaGreat
set_option linter.unusedSimpArgs false
set_option linter.unusedVariables false
open Go.RowKit
def findRegion (n : Nat) : Code → Option Code
  | .region i ops d => if i = n then some (.region i ops d) else none
  | .block _ c => findRegion n c
  | .seq a b => match findRegion n a with
    | some c => some c
    | none => findRegion n b
  | .loop c => findRegion n c
  | .scope c => findRegion n c
  | .cond _ a b => match findRegion n a with
    | some c => some c
    | none => findRegion n b
  | _ => none
noncomputable def regionOf (f : Func) (n : Nat) : Code := ((f.body.bind (findRegion n)).getD .skip)
end Go.Proofs.YtnfbhicoknpojaaGreat

namespace Go.Proofs.YtnfbhicoknpojaaGreat
set_option linter.unusedSimpArgs false
set_option linter.unusedVariables false
open Go.RowKit
set_option linter.unusedVariables false

theorem no_falseE {X : Bool} (h : X = false) (h2 : X = true) : False := by rw [h] at h2; cases h2
/-- a row of one's own -/
def OwnR (base : Nat) (e : TypeId) (sz n : Nat) (cs : List Value) (u : Value) (w : World) : Prop := w.ownsRow base e sz u n cs
theorem OwnR.ext {base : Nat} {e : TypeId} {sz n : Nat} {cs : List Value} {u : Value} {w w' : World} (h : OwnR base e sz n cs u w) (hx : Ext w w') : OwnR base e sz n cs u w' := Ext.owns h hx
theorem OwnR.grew {base : Nat} {e : TypeId} {sz n : Nat} {cs : List Value} {u : Value} {n0 k : Nat} {w w' : World} (h : OwnR base e sz n cs u w) (hn : n * sz ≤ k) (hx : Facts.App.Grew n0 k w w') : OwnR base e sz n cs u w' := hx.owns h hn
/-- a row of nothing, with no room -/
def EmptyR (base : Nat) (e : TypeId) (sz : Nat) (u : Value) (w : World) : Prop := ∃ B, u = .slice (some ⟨B, 0, none⟩) 0 0 ∧ OwnR base e sz 0 [] u w
theorem EmptyR.ext {base : Nat} {e : TypeId} {sz : Nat} {u : Value} {w w' : World} (h : EmptyR base e sz u w) (hx : Ext w w') : EmptyR base e sz u w' := by
  obtain ⟨B, e, h1⟩ := h; exact ⟨B, e, h1.ext hx⟩
theorem EmptyR.grew {base : Nat} {e : TypeId} {sz : Nat} {u : Value} {n0 n : Nat} {w w' : World} (h : EmptyR base e sz u w) (hx : Facts.App.Grew n0 n w w') : EmptyR base e sz u w' := by
  obtain ⟨B, e, h1⟩ := h; exact ⟨B, e, h1.grew (by omega) hx⟩
theorem EmptyR.row {base : Nat} {e : TypeId} {sz : Nat} {u : Value} {w : World} (h : EmptyR base e sz u w) : w.ownsRow base e sz u 0 [] := by
  obtain ⟨B, e, h1⟩ := h; exact h1
theorem EmptyR.full {base : Nat} {e : TypeId} {sz : Nat} {u : Value} {w : World} (h : EmptyR base e sz u w) (m : Nat) (hm : 0 < m) : ∀ g cap, u = .slice (some ⟨g, 0, none⟩) 0 cap → cap < 0 + m := by
  obtain ⟨B, e, -⟩ := h
  intro g cap e2
  rw [e] at e2
  have := (Value.slice.inj e2).2.2
  omega
/-- new elements, in a block of their own -/
def NewR (n : Nat) (cs : List Value) (u : Value) (w : World) : Prop := ∃ B, u = .slice (some ⟨B, 0, none⟩) n n ∧ ∀ j v, cs[j]? = some v → w.cell? ((⟨B, 0, none⟩ : Addr).add j) = some v
noncomputable def NewR.B {n : Nat} {cs : List Value} {u : Value} {w : World} (h : NewR n cs u w) : Nat := Exists.choose h
theorem NewR.spec {n : Nat} {cs : List Value} {u : Value} {w : World} (h : NewR n cs u w) : u = .slice (some ⟨h.B, 0, none⟩) n n ∧ ∀ j v, cs[j]? = some v → w.cell? ((⟨h.B, 0, none⟩ : Addr).add j) = some v := Exists.choose_spec h
theorem NewR.ext {n : Nat} {cs : List Value} {u : Value} {w w' : World} (h : NewR n cs u w) (hx : Ext w w') : NewR n cs u w' := by
  obtain ⟨B, h1, h2⟩ := h; exact ⟨B, h1, fun j v e => hx.cell (h2 j v e)⟩
theorem NewR.grew {n : Nat} {cs : List Value} {u : Value} {n0 k : Nat} {w w' : World} (h : NewR n cs u w) (hn : cs.length ≤ k) (hx : Facts.App.Grew n0 k w w') : NewR n cs u w' := by
  obtain ⟨B, h1, h2⟩ := h
  refine ⟨B, h1, fun j v e => ?_⟩
  have hj : j < cs.length := by
    rcases Nat.lt_or_ge j cs.length with h | h
    · exact h
    · rw [List.getElem?_eq_none h] at e; cases e
  have := h2 j v e
  rw [show (⟨B, 0, none⟩ : Addr).add j = ⟨B, 0 + j, none⟩ by unfold Addr.add; split <;> simp_all] at this ⊢
  exact hx.cell this (by omega)
theorem NewR.made (w : World) (n : Nat) (cs : List Value) (t : TypeId) : NewR n cs (.slice (some ⟨w.heap.size, 0, none⟩) n n) (w.alloc (.cells cs.toArray t)) := by
  refine ⟨_, rfl, fun j v e => ?_⟩
  rw [show (⟨w.heap.size, 0, none⟩ : Addr).add j = ⟨w.heap.size, 0 + j, none⟩ by unfold Addr.add; split <;> simp_all]
  simpa [go_sem] using e
theorem marks_new {w : World} {ad : Addr} {n c : Nat} {l : List Mark} (h : MarksAt w (.slice (some ad) n c) l) : ∀ j u, (cellsK l)[j]? = some u → w.cell? (ad.add j) = some u := by
  intro j u hu
  have hlen : (cellsK l).length = l.length * 2 := cellsK_len l
  have hj : j < l.length * 2 := by
    rcases Nat.lt_or_ge j (l.length * 2) with h1 | h1
    · exact h1
    · rw [List.getElem?_eq_none (by omega)] at hu; cases hu
  have hi : j / 2 < l.length := by omega
  obtain ⟨b, o, e2, r0, r1, -⟩ := h.get hi
  obtain rfl := Option.some.inj e2
  obtain ⟨c0, c1⟩ := cellsK_get l (j / 2) hi
  rw [show (⟨b, o, none⟩ : Addr).add j = ⟨b, o + j, none⟩ by unfold Addr.add; split <;> simp_all]
  rcases Nat.mod_two_eq_zero_or_one j with h0 | h0
  · rw [show j = j / 2 * 2 from by omega] at hu ⊢
    rw [c0] at hu
    obtain rfl := Option.some.inj hu
    exact r0
  · rw [show j = j / 2 * 2 + 1 from by omega] at hu ⊢
    rw [c1] at hu
    obtain rfl := Option.some.inj hu
    exact r1
theorem marks_one (l : List Mark) : ∀ u ∈ cellsK l, u.oneCell' = true := fun u hu => by
  simp only [cellsK, List.mem_flatMap] at hu
  obtain ⟨x, -, hx⟩ := hu
  simp at hx
  rcases hx with rfl | rfl <;> simp [Value.oneCell']
end Go.Proofs.YtnfbhicoknpojaaGreat

namespace Go.Proofs.YtnfbhicoknpojaaGreat
set_option linter.unusedSimpArgs false
set_option linter.unusedVariables false
set_option linter.unusedVariables false

theorem pick3 (a b c : Ch) : (pickC ([a, b, c] ++ [])).2 = min a.2 (min b.2 c.2) := by
  simp only [pickC, pickB, List.append_nil, List.foldl_cons, List.foldl_nil, fewCh]
  simp
  split <;> split <;> (try simp only []) <;> omega
def sameW (x s : ByteArray) : Bool := x.toList == s.toList
def farM : Nat → List ByteArray → List ByteArray → Nat
  | 0, _, _ => 0
  | _ + 1, [], b => b.length
  | _ + 1, a, [] => a.length
  | n + 1, x :: a, s :: b => min (if sameW x s then farM n a b else 1 + farM n a b) (min (1 + farM n a (s :: b)) (1 + farM n (x :: a) b))
theorem cost_put_all : ∀ b : List ByteArray, (costM [] (givenM b)).2 = b.length
  | [] => rfl
  | s :: b => by
    have e : givenM (s :: b) = ⟨s, false⟩ :: givenM b := rfl
    rw [e, costM_put]
    show (pickC [(3, 1 + (costM [] (givenM b)).2)]).2 = _
    have : (pickC [(3, 1 + (costM [] (givenM b)).2)]).2 = 1 + (costM [] (givenM b)).2 := rfl
    rw [this, cost_put_all b, List.length_cons, Nat.add_comm]
theorem cost_drop_all : ∀ a : List ByteArray, (costM a []).2 = a.length
  | [] => rfl
  | x :: a => by
    rw [costM_drop]
    have : (pickC [(2, 1 + (costM a []).2)]).2 = 1 + (costM a []).2 := rfl
    rw [this, cost_drop_all a, List.length_cons, Nat.add_comm]
theorem cost_far : ∀ (n : Nat) (a b : List ByteArray), a.length + b.length < n → (∀ s ∈ b, wordM s = true) → (costM a (givenM b)).2 = farM n a b
  | 0, a, b, h, _ => by omega
  | n + 1, [], b, h, _ => by rw [cost_put_all, farM]
  | n + 1, x :: a, [], h, _ => by
    show (costM (x :: a) []).2 = _
    rw [cost_drop_all]; rfl
  | n + 1, x :: a, s :: b, h, hw => by
    have e : givenM (s :: b) = ⟨s, false⟩ :: givenM b := rfl
    simp only [List.length_cons] at h
    have hwb : ∀ s ∈ b, wordM s = true := fun y hy => hw y (List.mem_cons_of_mem _ hy)
    have i1 := cost_far n a b (by omega) hwb
    have i2 := cost_far n a (s :: b) (by simp only [List.length_cons]; omega) hw
    have i3 := cost_far n (x :: a) b (by simp only [List.length_cons]; omega) hwb
    rw [e] at i2 ⊢
    rw [costM_all]
    have ht : takesM ⟨s, false⟩ x = sameW x s := by
      simp only [takesM, toList_ne (hw s List.mem_cons_self), Bool.false_or, sameW]
      exact Bool.beq_comm
    rw [ht, farM, show (if (⟨s, false⟩ : Slot).free = true then [((4 : Nat), (costM (x :: a) (givenM b)).2)] else []) = [] from rfl, pick3, i1, i2, i3]
    cases sameW x s <;> rfl
theorem sameW_comm (x s : ByteArray) : sameW x s = sameW s x := by
  unfold sameW
  exact Bool.beq_comm
theorem far_comm : ∀ (n : Nat) (a b : List ByteArray), farM n a b = farM n b a
  | 0, _, _ => rfl
  | n + 1, [], [] => rfl
  | n + 1, [], s :: b => rfl
  | n + 1, x :: a, [] => rfl
  | n + 1, x :: a, s :: b => by
    rw [farM, farM, sameW_comm x s, far_comm n a b, far_comm n a (s :: b), far_comm n (x :: a) b]
    congr 1
    exact Nat.min_comm _ _
theorem far_zero : ∀ (n : Nat) (a b : List ByteArray), a.length + b.length < n → (farM n a b = 0 ↔ a = b)
  | 0, a, b, h => by omega
  | n + 1, [], b, h => by
    rw [farM]
    cases b <;> simp
  | n + 1, x :: a, [], h => by simp [farM]
  | n + 1, x :: a, s :: b, h => by
    simp only [List.length_cons] at h
    have ih := far_zero n a b (by omega)
    rw [farM]
    have e : sameW x s = true ↔ x = s := ⟨fun h => toList_inj (eq_of_beq h), fun h => by subst h; simp [sameW]⟩
    cases hs : sameW x s
    · have : ¬ x = s := fun h => by rw [e.2 h] at hs; cases hs
      simp [this]
    · have hx := e.1 hs
      subst hx
      simp only [if_true]
      constructor
      · intro h2
        have : farM n a b = 0 := by omega
        rw [ih.1 this]
      · intro h2
        have := ih.2 (List.cons.inj h2).2
        omega
/-- as many back, and none just if they are the same -/
theorem cost_comm {a b : List ByteArray} (ha : ∀ s ∈ a, wordM s = true) (hb : ∀ s ∈ b, wordM s = true) : (costM a (givenM b)).2 = (costM b (givenM a)).2 := by
  rw [cost_far (a.length + b.length + 1) a b (by omega) hb, cost_far (a.length + b.length + 1) b a (by omega) ha, far_comm]
theorem cost_zero {a b : List ByteArray} (hb : ∀ s ∈ b, wordM s = true) : (costM a (givenM b)).2 = 0 ↔ a = b := by
  rw [cost_far (a.length + b.length + 1) a b (by omega) hb]
  exact far_zero _ _ _ (by omega)
end Go.Proofs.YtnfbhicoknpojaaGreat

namespace Go.Proofs.YtnfbhicoknpojaaGreat
set_option linter.unusedSimpArgs false
set_option linter.unusedVariables false
set_option linter.unusedVariables false

theorem toList_run (bs : ByteArray) : ∀ (n i : Nat) (r : List UInt8), bs.size - i = n → ByteArray.toList.loop bs i r = r.reverse ++ bs.data.toList.drop i
  | 0, i, r, h => by
    rw [ByteArray.toList.loop, if_neg (by omega), List.drop_of_length_le (by have : bs.size = bs.data.toList.length := rfl; omega), List.append_nil]
  | n + 1, i, r, h => by
    have hi : i < bs.data.toList.length := by have : bs.size = bs.data.toList.length := rfl; omega
    rw [ByteArray.toList.loop, if_pos (by omega), toList_run bs n (i + 1) _ (by omega), List.drop_eq_getElem_cons hi, List.reverse_cons, List.append_assoc]
    have hi2 : i < bs.data.size := by simpa using hi
    have e : bs.get! i = bs.data.toList[i] := by
      show bs.data[i]! = _
      rw [getElem!_pos bs.data i hi2]
      simp
    rw [e]
    rfl
theorem str_inj {a b : ByteArray} (h : a.toList = b.toList) : a = b := by
  have e : ∀ bs : ByteArray, bs.toList = bs.data.toList := fun bs => by
    unfold ByteArray.toList
    have := toList_run bs _ 0 [] rfl
    simpa using this
  rw [e, e] at h
  obtain ⟨x⟩ := a
  obtain ⟨y⟩ := b
  exact congrArg _ (Array.toList_inj.1 h)
theorem beq_str {x y : ByteArray} : (x.toList == y.toList) = decide (x = y) := by
  by_cases h : x = y
  · subst h; simp
  · rw [decide_eq_false h]
    exact beq_eq_false_iff_ne.2 fun e => h (str_inj e)
def splitB (c : UInt8) : List UInt8 → List UInt8 → List (List UInt8)
  | [], cur => [cur]
  | x :: r, cur => if x = c then cur :: splitB c r [] else splitB c r (cur ++ [x])
def splitM (c : UInt8) (s : ByteArray) : List ByteArray := (splitB c s.data.toList []).map fun l => ⟨l.toArray⟩
end Go.Proofs.YtnfbhicoknpojaaGreat

namespace Go.Proofs.YtnfbhicoknpojaaGreat
set_option linter.unusedSimpArgs false
set_option linter.unusedVariables false
open Go.RowKit
set_option linter.unusedVariables false

def dropN (d : Nat → Int) : Nat → Nat → List ByteArray → List ByteArray
  | _, 0, l => l
  | k, m + 1, l => dropN d (k + 1) m (l.drop (d k).toNat)
theorem dropN_last (d : Nat → Int) : ∀ (m k : Nat) (l : List ByteArray), dropN d k (m + 1) l = (dropN d k m l).drop (d (k + m)).toNat
  | 0, k, l => rfl
  | m + 1, k, l => by
    show dropN d (k + 1) (m + 1) (l.drop (d k).toNat) = (dropN d (k + 1) m (l.drop (d k).toNat)).drop (d (k + (m + 1))).toNat
    rw [dropN_last d m (k + 1), show k + 1 + m = k + (m + 1) from by omega]
theorem ways_fits : ∀ (ss : List (List Slot)) (k : Nat) (left : List ByteArray) (c d : Nat → Int), d ∈ waysF ss k left c → ∀ m, m < ss.length → 0 ≤ d (k + m) ∧ (d (k + m)).toNat ≤ (dropN d k m left).length
  | [], k, left, c, d, h, m, hm => by simp at hm
  | sl :: r, k, left, c, d, h, m, hm => by
    unfold waysF at h
    obtain ⟨n, hn, hs, hd⟩ := waysTo_mem h
    have dk : d k = (n : Int) := by
      rw [(waysF_fine r (k + 1) _ _ d hd).1 k (by omega)]
      simp [updC]
    cases m with
    | zero =>
      show 0 ≤ d k ∧ (d k).toNat ≤ left.length
      rw [dk]
      have := sizeOk_le hs
      exact ⟨by omega, by omega⟩
    | succ m =>
      have := ways_fits r (k + 1) (left.drop n) _ d hd m (by simpa using hm)
      show 0 ≤ d (k + (m + 1)) ∧ (d (k + (m + 1))).toNat ≤ (dropN d (k + 1) m (left.drop (d k).toNat)).length
      rw [dk, Int.toNat_natCast, show k + (m + 1) = k + 1 + m from by omega]
      exact this
theorem fillsTo_drop (ps : List Part) (d : Nat → Int) (l : List ByteArray) : ∀ k, (fillsTo ps d l k).2 = dropN d 0 k l
  | 0 => rfl
  | k + 1 => by
    rw [dropN_last, ← fillsTo_drop ps d l k, Nat.zero_add]
    rfl
/-- the counts of a way fit -/
theorem ways_FitsC {ps : List Part} {l : List ByteArray} {d : Nat → Int} (h : d ∈ formWays ps l) : FitsC ps d l := fun k hk => by
  have := ways_fits _ 0 l _ d h k (by simpa using hk)
  rw [Nat.zero_add] at this
  rw [fillsTo_drop]
  exact this
theorem firstWay_fits {ps : List Part} {l : List ByteArray} (h : (formWays ps l).length ≠ 0) : FitsC ps (firstWayM ps l) l := by
  rcases pickB_mem beforeM zeroC (formWays ps l) with ⟨-, e⟩ | e
  · rw [e] at h; exact absurd rfl h
  · exact ways_FitsC e
structure FillR where
  fills : List (List ByteArray)
  many : Nat
  err : Int
def fillRes (s : Shelf) (n : Int) (l : List ByteArray) : FillR :=
  if openForErrM s n l ≠ 0 then ⟨[], 0, openForErrM s n l⟩ else
  match s.forms[n.toNat]? with
  | none => ⟨[], 0, 0⟩
  | some f => if (formWays f.parts l).length = 0 then ⟨[], 0, 9⟩ else ⟨fillsM f.parts (firstWayM f.parts l) l, (formWays f.parts l).length, 0⟩
set_option maxRecDepth 100000 in
set_option maxHeartbeats 1500000 in
theorem Fills_any (sv v : Value) (s : Shelf) (n : Int) (hn : I64 n) (l : List ByteArray) (w : World) (hs : ShelfAt w sv s) (hl : StrsAt w v l) :
    Calls Tryz.prog 36 #[sv, .int .i64 n, v] w fun e w' => ∃ u, e = .returned (.tuple #[u, .int .i64 (fillRes s n l).many, .int .i64 (fillRes s n l).err]) ∧ FillsAt w' u (fillRes s n l).fills ∧ Ext w w' := by
  have hs0 := hs
  obtain ⟨a, c, rfl, hw, hc1, hc2, hf⟩ := hs.open
  obtain ⟨la, lc, rfl, -⟩ := hl.shape
  clear hf
  obtain ⟨R, hR⟩ : ∃ R, fillRes s n l = R := ⟨_, rfl⟩
  obtain ⟨F, mn, ee⟩ := R
  rw [hR]
  have HR := Lib.hid hR
  clear hR
  simp only
  go_enter Tryz.func36, Tryz.ntmps36
  go_wp2_with fail
  refine (openForH_any _ _ s n hn l w _ (by first | (with_reducible exact Ext.refl _) | (with_reducible assumption) | (show Below _ _ _; go_grown; done)) hs0 (hl.ext (by first | (with_reducible exact Ext.refl _) | (with_reducible assumption) | (show Below _ _ _; go_grown; done)))).mono ?_
  rintro e w1 ⟨uu, rfl, ⟨nm, pa, pn, pc, rfl, h1⟩, hx1⟩
  have x1 : Ext w w1 := Ext.trans (by first | (with_reducible exact Ext.refl _) | (with_reducible assumption) | (show Below _ _ _; go_grown; done)) hx1
  obtain ⟨er, herr⟩ : ∃ er, openForErrM s n l = er := ⟨_, rfl⟩
  rw [herr] at h1 ⊢
  clear hx1
  by_cases h0 : er = 0
  · subst h0
    obtain ⟨ho, hL⟩ := openFor_ok herr
    obtain ⟨i, hi, rfl, hF⟩ := h1 rfl
    have hV : ValidForm s.forms[i] := (openErr_ok ho).1.forms _ (List.getElem_mem hi)
    obtain ⟨h15, hwd⟩ := lettErr_ok hL
    have hm : fillRes s i l = if (formWays s.forms[i].parts l).length = 0 then ⟨[], 0, 9⟩ else ⟨fillsM s.forms[i].parts (firstWayM s.forms[i].parts l) l, (formWays s.forms[i].parts l).length, 0⟩ := by
      unfold fillRes
      rw [if_neg (by rw [herr]; simp)]
      simp [hi]
    have Hm := Lib.hid (HR.out.symm.trans hm)
    clear herr hm h1 HR
    generalize s.forms[i] = f at *
    have hfw := fun w' (hx : Ext w w') => firstWay_any (.agg #[.string nm, .slice pa pn pc]) (.slice la l.length lc) f l hV h15 w' (hx.form hF) (hl.ext hx)
    have hfi := fun w' (hx : Ext w w') hc => fills_any (.agg #[.string nm, .slice pa pn pc]) (.slice la l.length lc) f l (firstWayM f.parts l) hV h15 hc w' (hx.form hF) (hl.ext hx)
    have hff := fun h => firstWay_fits (ps := f.parts) (l := l) h
    have hlen := formWays_len hV.parts hV.n l
    generalize (formWays f.parts l).length = N at *
    generalize fillsM f.parts (firstWayM f.parts l) l = fl at *
    generalize firstWayM f.parts l = fw at *
    unfold countsV at hfw hfi
    go_wp2_with fail
    refine (hfw _ (x1.alloc _)).mono ?_
    rintro e w2 ⟨rfl, hx2⟩
    have x2 : Ext w w2 := Ext.trans (x1.alloc _) hx2
    have q0 : w2.cell? ⟨w1.heap.size, 0, none⟩ = some (.string nm) := hx2.cell (by simp [go_sem])
    have q1 : w2.cell? ⟨w1.heap.size, 1, none⟩ = some (.slice pa pn pc) := hx2.cell (by simp [go_sem])
    have zq := cell_lt q0
    clear hx2 hfw
    by_cases hz : N = 0
    · subst hz
      have hm2 := Hm.out
      rw [if_pos rfl] at hm2
      obtain ⟨rfl, rfl, rfl⟩ := FillR.mk.inj hm2
      clear hff hfi Hm hm2
      go_wp2_with fail
      go_ret3
      exact ⟨_, rfl, SliceAt.nil, x2.alloc _⟩
    · have hzb : ((N : Int) == 0) = false := by simpa using hz
      have hfi2 := fun w' hx => hfi w' hx (hff hz)
      have hm2 := Hm.out
      rw [if_neg hz] at hm2
      obtain ⟨rfl, rfl, rfl⟩ := FillR.mk.inj hm2
      clear hff hfi hz Hm hm2
      go_wp2_with fail
      refine (hfi2 _ (x2.alloc _)).mono ?_
      rintro e w3 ⟨u, rfl, hfl, hx3⟩
      go_wp2
      go_ret3
      exact ⟨u, rfl, hfl, (x2.alloc _).trans hx3⟩
  · have h0' : (er != 0) = true := by simpa using h0
    have hm : fillRes s n l = ⟨[], 0, er⟩ := by unfold fillRes; rw [if_pos (by rw [herr]; exact h0), herr]
    obtain ⟨rfl, rfl, rfl⟩ := FillR.mk.inj (HR.out.symm.trans hm)
    clear h0 h1 hm herr HR
    go_wp2_with fail
    go_ret3
    exact ⟨_, rfl, SliceAt.nil, x1.alloc _⟩
end Go.Proofs.YtnfbhicoknpojaaGreat

namespace Go.Proofs.YtnfbhicoknpojaaGreat
set_option linter.unusedSimpArgs false
set_option linter.unusedVariables false
set_option linter.unusedVariables false
set_option maxRecDepth 100000

def wTo : ByteArray := ⟨#[116, 111]⟩
def wThe : ByteArray := ⟨#[116, 104, 101]⟩
def wI : ByteArray := ⟨#[105]⟩
def wAsk : ByteArray := ⟨#[97, 115, 107]⟩
def wJudge : ByteArray := ⟨#[106, 117, 100, 103, 101]⟩
def wMercy : ByteArray := ⟨#[109, 101, 114, 99, 121]⟩
def wFor : ByteArray := ⟨#[102, 111, 114]⟩
def wA : ByteArray := ⟨#[97]⟩
def wB : ByteArray := ⟨#[98]⟩
def wC : ByteArray := ⟨#[99]⟩
def roomP (lo hi : Int) : Part := ⟨[], lo, hi⟩
def givenP (l : List ByteArray) : Part := ⟨l, 0, 0⟩
def shelfE : Shelf := ⟨12, [⟨⟨#[112, 108, 101, 97]⟩, [givenP [wTo, wThe], roomP 1 2, givenP [wI, wAsk], roomP 1 3]⟩, ⟨⟨#[110, 111, 116, 101]⟩, [roomP 1 2, givenP [wI, wAsk], roomP 0 2]⟩, ⟨⟨#[108, 105, 115, 116]⟩, [roomP 1 2, roomP 1 2]⟩]⟩
def letA : List ByteArray := [wTo, wThe, wJudge, wI, wAsk, wMercy]
def letB : List ByteArray := [wTo, wJudge, wI, wAsk, wFor, wMercy]
def letC : List ByteArray := [wA, wB, wC]
def letN : List ByteArray := [wTo, wThe, wI, wAsk, wI, wAsk]
def noW : ByteArray := ⟨#[]⟩
def marksE : List Mark := [⟨0, noW⟩, ⟨2, noW⟩, ⟨0, noW⟩, ⟨0, noW⟩, ⟨0, noW⟩, ⟨3, wFor⟩, ⟨0, noW⟩]
def textA : ByteArray := ⟨#[116, 111, 32, 116, 104, 101, 32, 106, 117, 100, 103, 101, 10, 105, 32, 97, 115, 107, 32, 109, 101, 114, 99, 121, 10]⟩
def textB : ByteArray := ⟨#[116, 111, 32, 116, 104, 101, 10]⟩
def textW : ByteArray := ⟨#[116, 111, 32, 116, 104, 101, 32, 106, 117, 100, 103, 101, 32, 105, 10, 97, 115, 107, 32, 109, 101, 114, 99, 121, 10]⟩

theorem e_make : makeErrM shelfE 0 [[wJudge], [wMercy]] = 0 := by kernel_rfl
theorem e_built : builtM (formOf shelfE 0).parts [[wJudge], [wMercy]] = letA := by kernel_rfl
theorem e_ofC : ofM shelfE letC = [2] := by kernel_rfl
theorem e_errC : shelfErrM shelfE letC = 0 := by kernel_rfl
theorem e_fillC : fillRes shelfE 2 letC = ⟨[[wA], [wB, wC]], 2, 0⟩ := by kernel_rfl
theorem e_errA : shelfErrM shelfE letA = 0 := by kernel_rfl
theorem e_textA : writeM shelfE letA = textA := by kernel_rfl
theorem e_readA : readM shelfE textA = (letA, 0) := by kernel_rfl
theorem e_fewE : fewErrM letA letB = 0 := by kernel_rfl
theorem e_fewM : fewMarksM letA letB = marksE := by kernel_rfl
theorem e_fewN : fewManyM letA letB = 2 := by kernel_rfl
theorem e_apply : applyM marksE letA = ⟨letB, 0⟩ := by kernel_rfl
theorem e_mend2 : mendM shelfE 2 letA = 2 := by kernel_rfl
theorem e_mendE2 : openForErrM shelfE 2 letA = 0 := by kernel_rfl
theorem e_near : nearV shelfE letA = (0, 0) := by kernel_rfl
theorem e_nearE : nearErrM shelfE letA = 0 := by kernel_rfl
theorem e_readB : (readM shelfE textB).2 = 0 := by kernel_rfl
theorem e_readW : (readM shelfE textW).2 = 6 := by kernel_rfl
theorem e_mendE3 : openForErrM shelfE 3 letA = 4 := by kernel_rfl
theorem e_ofA : ofM shelfE letA = [0] := by kernel_rfl
theorem e_ofN : ofM shelfE letN = [1] := by kernel_rfl
theorem e_errN : shelfErrM shelfE letN = 0 := by kernel_rfl
theorem e_fillA : fillRes shelfE 0 letA = ⟨[[wJudge], [wMercy]], 1, 0⟩ := by kernel_rfl
theorem e_mend0 : mendM shelfE 0 letA = 0 := by kernel_rfl
theorem e_mend1 : mendM shelfE 1 letA = 1 := by kernel_rfl
theorem e_mendE0 : openForErrM shelfE 0 letA = 0 := by kernel_rfl
theorem e_mendE1 : openForErrM shelfE 1 letA = 0 := by kernel_rfl

/-! ### what a byte parts -/
theorem e_splitA : splitM 32 ⟨#[116, 111, 32, 116, 104, 101, 32, 106, 117, 100, 103, 101, 32, 105, 32, 97, 115, 107, 32, 109, 101, 114, 99, 121]⟩ = letA := by kernel_rfl
theorem e_splitB : splitM 32 ⟨#[116, 111, 32, 106, 117, 100, 103, 101, 32, 105, 32, 97, 115, 107, 32, 102, 111, 114, 32, 109, 101, 114, 99, 121]⟩ = letB := by kernel_rfl
theorem e_splitC : splitM 32 ⟨#[97, 32, 98, 32, 99]⟩ = letC := by kernel_rfl
end Go.Proofs.YtnfbhicoknpojaaGreat

namespace Go.Proofs.YtnfbhicoknpojaaGreat
set_option linter.unusedSimpArgs false
set_option linter.unusedVariables false
open Go.RowKit
set_option linter.unusedVariables false

theorem split_hit {c : UInt8} {l : List UInt8} {L : List (List UInt8)} {b k : Nat} (hk : k < l.length) (hc : l[k] = c) (h : splitB c l [] = L ++ splitB c (l.drop k) ((l.drop b).take (k - b))) :
    splitB c l [] = (L ++ [(l.drop b).take (k - b)]) ++ splitB c (l.drop (k + 1)) ((l.drop (k + 1)).take (k + 1 - (k + 1))) := by
  rw [h, List.drop_eq_getElem_cons hk, splitB, if_pos hc, Nat.sub_self, List.take_zero, List.append_assoc]
  rfl
theorem split_miss {c : UInt8} {l : List UInt8} {L : List (List UInt8)} {b k : Nat} (hk : k < l.length) (hb : b ≤ k) (hc : l[k] ≠ c) (h : splitB c l [] = L ++ splitB c (l.drop k) ((l.drop b).take (k - b))) :
    splitB c l [] = L ++ splitB c (l.drop (k + 1)) ((l.drop b).take (k + 1 - b)) := by
  rw [h, List.drop_eq_getElem_cons hk, splitB, if_neg hc]
  congr 2
  rw [show k + 1 - b = (k - b) + 1 from by omega, List.take_succ_eq_append_getElem (by rw [List.length_drop]; omega), List.getElem_drop]
  congr 3
  omega
theorem extract_part (s : ByteArray) (b k : Nat) : s.extract b k = ⟨((s.data.toList.drop b).take (k - b)).toArray⟩ := by
  apply ByteArray.ext
  rw [ByteArray.data_extract]
  apply Array.toList_inj.1
  rw [Array.toList_extract, List.extract_eq_take_drop]
theorem StrsAt.oneAt {w : World} {s : ByteArray} {t : TypeId} {B : Nat} (hB : w.heap.size = B) (h : s.size ≤ 9223372036854775807) : StrsAt (w.alloc (.cells #[.string s] t)) (.slice (some ⟨B, 0, none⟩) 1 1) [s] := by
  subst hB
  refine ⟨_, _, rfl, Nat.le_refl _, by omega, fun i hi => ?_⟩
  obtain rfl : i = 0 := by simpa using hi
  exact ⟨_, _, rfl, by simp [go_sem], h⟩
set_option maxHeartbeats 1000000 in
set_option maxRecDepth 100000 in
theorem split_any (c : UInt8) (s : ByteArray) (hs : s.size ≤ 1000000) (w : World) :
    Calls Tryz.prog 77 #[.string s, .int .u8 (c.toNat : Nat)] w fun e w' => ∃ u, e = .returned u ∧ RowW w.heap.size (splitM c s) u w' ∧ Ext w w' := by
  obtain ⟨i0, hi, hz0, hz1, hz2⟩ := info_parts infoString
  go_enter Tryz.func77, Tryz.ntmps77
  go_wp2_with fail
  go_loopw [5, 6, 7] (fun u b i wr => ∃ (k n : Nat) (L : List (List UInt8)), k ≤ s.size ∧ n ≤ k ∧ L.length ≤ k ∧ b = .int .i64 n ∧ i = .int .i64 k ∧ Ext w wr ∧ RowW w.heap.size (L.map fun l => ⟨l.toArray⟩) u wr ∧ splitB c s.data.toList [] = L ++ splitB c (s.data.toList.drop k) ((s.data.toList.drop n).take (k - n))) (fun _ _ i _ => s.size - (intOf i).toNat)
  case atStart => exact ⟨0, 0, [], Nat.zero_le _, Nat.zero_le _, Nat.zero_le _, rfl, rfl, Ext.refl _, RowW.nil, by simp⟩
  case round =>
    obtain ⟨k, n, L, hk, hn, hL, rfl, rfl, hxr, hown, hsp⟩ := hrel
    have hsz : s.data.toList.length = s.size := rfl
    by_cases hlt : k < s.size
    · have k1 : (k : Int) < (s.size : Int) := by omega
      have hit := split_hit (c := c) (L := L) (b := n) (k := k) (show k < s.data.toList.length from hlt)
      have miss := split_miss (c := c) (L := L) (b := n) (k := k) (show k < s.data.toList.length from hlt) hn
      have hge : s.data.toList[k]'hlt = s[k]'hlt := rfl
      rw [hge] at hit miss
      have Hit := Lib.hid hit
      have Miss := Lib.hid miss
      have Hsp := Lib.hid hsp
      clear hit miss hsp hge
      by_cases h0 : s[k]'hlt = c
      · have h1 : (((s[k]'hlt).toNat : Int) == (c.toNat : Int)) = true := by rw [h0]; simp
        have H0 := Lib.hid h0
        have hone := fun (x : ByteArray) (hx : x.size ≤ 9223372036854775807) => StrsAt.oneAt (w := wr) (s := x) (t := 9) rfl hx
        have hmap : (L.map fun l => (⟨l.toArray⟩ : ByteArray)).length = L.length := List.length_map ..
        have hxe : (s.extract n k).size ≤ 9223372036854775807 := by rw [ByteArray.size_extract]; omega
        have hw1 := hone _ hxe
        have own1 := RowW.ext hown (ext_alloc wr (.cells #[.string (s.extract n k)] 9))
        have hzr := hxr.size
        clear h0 hone hmap hown
        go_wp2_with ((at_builtin; go_loud (refine wpList_append_strs rfl _ _ 48 rfl w.heap.size i0 Tryz.underlying48 hi hz0 hz1 hz2 u5 _ rfl own1 (.slice (some ⟨wr.heap.size, 0, none⟩) 1 1) rfl [s.extract n k] hw1 (by simp only [List.length_map, List.length_cons, List.length_nil]; omega) (by simp; omega) ?_; intro v' w2 hown' hgrow _)))
        have hx3 : Ext w w2 := Ext.grown (hxr.alloc _) hgrow fun k hk => (World.ownsRow.lt own1 k hk).1
        go_roundw
        case rel => exact ⟨k + 1, k + 1, L ++ [(s.data.toList.drop n).take (k - n)], by omega, Nat.le_refl _, by simp; omega, by go_num, by go_num, hx3, by rw [List.map_append, List.map_singleton, ← extract_part]; exact hown', Hit.out H0.out Hsp.out⟩
        case measure => simp [intOf]; omega
      · have h1 : (((s[k]'hlt).toNat : Int) == (c.toNat : Int)) = false := by
          rw [beq_eq_false_iff_ne]
          intro e
          exact h0 (UInt8.toNat_inj.1 (by omega))
        have H0 := Lib.hid h0
        clear h0
        go_wp2
        go_roundw
        case rel => exact ⟨k + 1, n, L, by omega, by omega, by omega, rfl, by go_num, hxr, hown, Miss.out H0.out Hsp.out⟩
        case measure => simp [intOf]; omega
    · obtain rfl : k = s.size := by omega
      have k1 : ¬ (s.size : Int) < (s.size : Int) := by omega
      have hall : splitM c s = (L.map fun l => (⟨l.toArray⟩ : ByteArray)) ++ [s.extract n s.size] := by
        unfold splitM
        rw [hsp, List.drop_of_length_le (by omega), splitB, List.map_append, List.map_singleton, extract_part]
      have Hall := Lib.hid hall
      clear hall hsp
      have hxe : (s.extract n s.size).size ≤ 9223372036854775807 := by rw [ByteArray.size_extract]; omega
      have hw1 := StrsAt.oneAt (w := wr) (s := s.extract n s.size) (t := 9) rfl hxe
      have own1 := RowW.ext hown (ext_alloc wr (.cells #[.string (s.extract n s.size)] 9))
      have hzr := hxr.size
      clear hown
      go_wp2_with ((at_builtin; go_loud (refine wpList_append_strs rfl _ _ 48 rfl w.heap.size i0 Tryz.underlying48 hi hz0 hz1 hz2 u5 _ rfl own1 (.slice (some ⟨wr.heap.size, 0, none⟩) 1 1) rfl [s.extract n s.size] hw1 (by simp only [List.length_map, List.length_cons, List.length_nil]; omega) (by simp; omega) ?_; intro v' w2 hown' hgrow _)))
      have hx3 : Ext w w2 := Ext.grown (hxr.alloc _) hgrow fun k hk => (World.ownsRow.lt own1 k hk).1
      go_ret
      exact ⟨_, rfl, by rw [Hall.out]; exact hown', hx3⟩
end Go.Proofs.YtnfbhicoknpojaaGreat

namespace Go.Proofs.YtnfbhicoknpojaaGreat
set_option linter.unusedSimpArgs false
set_option linter.unusedVariables false
open Go.RowKit
set_option linter.unusedVariables false
set_option linter.unusedSimpArgs false

theorem splitB_size (c : UInt8) : ∀ (l cur : List UInt8), ∀ x ∈ splitB c l cur, x.length ≤ cur.length + l.length
  | [], cur => by simp [splitB]
  | y :: r, cur => by
    intro x hx
    rw [splitB] at hx
    split at hx
    · rcases List.mem_cons.1 hx with rfl | hx
      · simp
      · have := splitB_size c r [] x hx
        simp at this ⊢; omega
    · have := splitB_size c r _ x hx
      simp at this ⊢; omega
theorem splitM_size (c : UInt8) (s : ByteArray) : ∀ x ∈ splitM c s, x.size ≤ s.size := by
  intro x hx
  unfold splitM at hx
  obtain ⟨l, hl, rfl⟩ := List.mem_map.1 hx
  have h := splitB_size c _ _ l hl
  have : s.data.toList.length = s.size := rfl
  show l.toArray.size ≤ _
  simp at h ⊢; omega
theorem RowW.new {base : Nat} {l : List ByteArray} {u : Value} {w : World} (h : RowW base l u w) : ∀ a n c, u = .slice a n c → ∀ ad, a = some ad → base ≤ ad.block := by
  intro a n c hu ad ha
  rcases h.2 with ⟨rfl, hn⟩ | ⟨g, cap, cur, rfl, hb, -⟩
  · cases hu; cases ha
  · cases hu; cases ha; exact hb
theorem StrsAt.set {w : World} {a : Option Addr} {n c : Nat} {l : List ByteArray} {p : Addr} (h : StrsAt w (.slice a n c) l) (hne : ∀ ad, a = some ad → ad.block ≠ p.block) (v : Value) : StrsAt (w.setCell p v) (.slice a n c) l := by
  obtain ⟨a', c', e, h2, h3, h4⟩ := h
  obtain ⟨rfl, rfl, rfl⟩ := Value.slice.inj e
  refine ⟨_, _, rfl, h2, h3, fun i hi => ?_⟩
  obtain ⟨b, o, rfl, r1, r2⟩ := h4 i hi
  exact ⟨b, o, rfl, set_other r1 (.inl (hne _ rfl).symm) v, r2⟩
theorem words_any (s : ByteArray) (l : List ByteArray) (hl : splitM 32 s = l) (hs : s.size ≤ 1000000) (w : World) :
    Calls Tryz.prog 34 #[.string s] w fun e w' => (∃ a c, e = .returned (.slice a l.length c) ∧ StrsAt w' (.slice a l.length c) l ∧ ∀ ad, a = some ad → w.heap.size ≤ ad.block) ∧ Ext w w' := by
  have hsp := split_any 32 s hs
  rw [show ((32 : UInt8).toNat : Int) = 32 from rfl] at hsp
  have hsz := splitM_size 32 s
  rw [hl] at hsp hsz
  go_enter Tryz.func34, Tryz.ntmps34
  go_wp2_with fail
  refine (hsp _).mono ?_
  rintro e w1 ⟨u, rfl, hrow, hx⟩
  have hat := hrow.at_ fun x hx => Nat.le_trans (hsz x hx) (by omega)
  have hnew := hrow.new
  obtain ⟨a, c, rfl, -⟩ := hat.shape
  go_wp2
  go_ret
  exact ⟨⟨_, _, rfl, hat, hnew a _ _ rfl⟩, hx⟩
theorem span_any (lo hi : Int) (w : World) : Calls Tryz.prog 87 #[.int .i64 lo, .int .i64 hi] w fun e w' => e = .returned (.agg #[.int .i64 lo, .int .i64 hi]) ∧ Ext w w' := by
  go_enter Tryz.func87, Tryz.ntmps87
  go_wp2
  refine bodyPost_ret (v := .agg #[.int .i64 lo, .int .i64 hi]) (by simp [results, Tryz.results87, go_sem]) rfl ⟨rfl, ?_⟩
  exact ext_alloc _ _
theorem room_any (lo hi : Int) (w : World) : Calls Tryz.prog 44 #[.int .i64 lo, .int .i64 hi] w fun e w' => e = .returned (.agg #[.slice none 0 0, .int .i64 lo, .int .i64 hi]) ∧ Ext w w' := by
  go_enter Tryz.func44, Tryz.ntmps44
  go_wp2_with fail
  refine (span_any _ _ _).mono ?_
  rintro e w1 ⟨rfl, hx⟩
  have q0 : w1.cell? ⟨w.heap.size, 0, none⟩ = some (.slice none 0 0) := hx.cell (by simp [go_sem])
  have q1 : w1.cell? ⟨w.heap.size, 1, none⟩ = some (.int .i64 0) := hx.cell (by simp [go_sem])
  have q2 : w1.cell? ⟨w.heap.size, 2, none⟩ = some (.int .i64 0) := hx.cell (by simp [go_sem])
  have z1 := cell_lt q0
  have fz : ∀ o, w1.frozen? ⟨w.heap.size, o, none⟩ = false := fun o => by rw [hx.frozen (by simp)]; simp [go_sem]
  have x1 : Ext w w1 := hx.of_alloc
  clear hx
  go_wp2
  have r := three_cells q0 q1 q2 (.slice none 0 0) (.int .i64 lo) (.int .i64 hi)
  refine bodyPost_ret (v := .agg #[.slice none 0 0, .int .i64 lo, .int .i64 hi]) (by simp [results, Tryz.results44, go_sem, r.1, r.2.1, r.2.2]) rfl ⟨rfl, ?_⟩
  exact ((x1.setCell (Nat.le_refl _) _).setCell (Nat.le_refl _) _).setCell (Nat.le_refl _) _
theorem lawGiven_any (s : ByteArray) (l : List ByteArray) (hl : splitM 32 s = l) (hs : s.size ≤ 1000000) (w : World) :
    Calls Tryz.prog 43 #[.string s] w fun e w' => (∃ a c, e = .returned (.agg #[.slice a l.length c, .int .i64 0, .int .i64 0]) ∧ StrsAt w' (.slice a l.length c) l ∧ ∀ ad, a = some ad → w.heap.size < ad.block) ∧ Ext w w' := by
  go_enter Tryz.func43, Tryz.ntmps43
  go_wp2_with fail
  refine (words_any s l hl hs _).mono ?_
  rintro e w1 ⟨⟨a, c, rfl, hat, hnew⟩, hx⟩
  have q0 : w1.cell? ⟨w.heap.size, 0, none⟩ = some (.slice none 0 0) := hx.cell (by simp [go_sem])
  have q1 : w1.cell? ⟨w.heap.size, 1, none⟩ = some (.int .i64 0) := hx.cell (by simp [go_sem])
  have q2 : w1.cell? ⟨w.heap.size, 2, none⟩ = some (.int .i64 0) := hx.cell (by simp [go_sem])
  have z1 := cell_lt q0
  have fz : ∀ o, w1.frozen? ⟨w.heap.size, o, none⟩ = false := fun o => by rw [hx.frozen (by simp)]; simp [go_sem]
  have x1 : Ext w w1 := hx.of_alloc
  clear hx
  go_wp2
  have r := three_cells q0 q1 q2 (.slice a l.length c) (.int .i64 0) (.int .i64 0)
  refine bodyPost_ret (v := .agg #[.slice a l.length c, .int .i64 0, .int .i64 0]) (by simp [results, Tryz.results43, go_sem, r.1, r.2.1, r.2.2]) rfl ⟨⟨_, _, rfl, ?_, fun ad e => by have := hnew ad e; simp at this; omega⟩, ?_⟩
  · have hne : ∀ ad, a = some ad → ad.block ≠ w.heap.size := fun ad e h => by
      have := hnew ad e
      simp at this
      omega
    exact ((hat.set hne _).set hne _).set hne _
  · exact ((x1.setCell (Nat.le_refl _) _).setCell (Nat.le_refl _) _).setCell (Nat.le_refl _) _
/-- parts that lie behind a block -/
def partN (B : Nat) (w : World) (b o : Nat) (p : Part) : Prop := B < b ∧ (∃ a n c, w.cell? ⟨b, o, none⟩ = some (.slice a n c) ∧ StrsAt w (.slice a n c) p.words ∧ ∀ ad, a = some ad → B < ad.block) ∧ w.cell? ⟨b, o + 1, none⟩ = some (.int .i64 p.lo) ∧ w.cell? ⟨b, o + 2, none⟩ = some (.int .i64 p.hi) ∧ I64 p.lo ∧ I64 p.hi
theorem partN.keeps (B : Nat) : Keeps (partN B) := fun _ _ _ _ _ hx h => by
  obtain ⟨h0, ⟨a, n, c, h1, h2, h3⟩, h4, h5, h6⟩ := h
  exact ⟨h0, ⟨a, n, c, hx.cell h1, h2.ext hx, h3⟩, hx.cell h4, hx.cell h5, h6⟩
abbrev PartsN (B : Nat) : World → Value → List Part → Prop := SliceAt 3 (partN B)
theorem PartsN.ext {B : Nat} {w w' : World} {v : Value} {l : List Part} (h : PartsN B w v l) (hx : Ext w w') : PartsN B w' v l := SliceAt.ext (partN.keeps B) h hx
theorem PartsN.at_ {B : Nat} {w : World} {v : Value} {l : List Part} (h : PartsN B w v l) : PartsAt w v l := by
  obtain ⟨a, c, e, h2, h3, h4⟩ := h
  refine ⟨a, c, e, h2, h3, fun i hi => ?_⟩
  obtain ⟨b, o, e, h0, ⟨a, n, c, r1, r2, -⟩, r⟩ := h4 i hi
  exact ⟨b, o, e, ⟨_, r1, r2⟩, r⟩
theorem PartsN.set {B o : Nat} {w : World} {v : Value} {l : List Part} (h : PartsN B w v l) (x : Value) : PartsN B (w.setCell ⟨B, o, none⟩ x) v l := by
  obtain ⟨a, c, e, h2, h3, h4⟩ := h
  refine ⟨a, c, e, h2, h3, fun i hi => ?_⟩
  obtain ⟨b, o, e, h0, ⟨a, n, c, r1, r2, r3⟩, r4, r5, r6⟩ := h4 i hi
  have hb : B ≠ b := by omega
  refine ⟨b, o, e, h0, ⟨a, n, c, set_other r1 (.inl hb) _, r2.set (fun ad e => ?_) _, r3⟩, set_other r4 (.inl hb) _, set_other r5 (.inl hb) _, r6⟩
  have := r3 ad e
  show ad.block ≠ B
  omega
def parts1 : List Part := [givenP [wTo, wThe], roomP 1 2, givenP [wI, wAsk], roomP 1 3]
def parts2 : List Part := [roomP 1 2, givenP [wI, wAsk], roomP 0 2]
def parts3 : List Part := [roomP 1 2, roomP 1 2]
set_option maxRecDepth 100000 in
set_option maxHeartbeats 2000000 in
theorem Shelf_any (w : World) : Calls Tryz.prog 8 #[] w fun e w' => ∃ v, e = .returned v ∧ ShelfAt w' v shelfE ∧ Ext w w' := by
  go_enter Tryz.func8, Tryz.ntmps8
  go_wp2_with fail
  refine (lawGiven_any _ [wTo, wThe] (by kernel_rfl) (by decide) _).mono ?_
  rintro e w1 ⟨⟨a1, c1, rfl, h1, n1⟩, x1⟩
  go_wp2_with fail
  refine (room_any _ _ _).mono ?_
  rintro e w2 ⟨rfl, x2⟩
  go_wp2_with fail
  refine (lawGiven_any _ [wI, wAsk] (by kernel_rfl) (by decide) _).mono ?_
  rintro e w3 ⟨⟨a3, c3, rfl, h3, n3⟩, x3⟩
  go_wp2_with fail
  refine (room_any _ _ _).mono ?_
  rintro e w4 ⟨rfl, x4⟩
  have hr : ∀ lo hi : Int, 0 ≤ lo ∧ lo ≤ 3 ∧ 0 ≤ hi ∧ hi ≤ 3 → I64 lo ∧ I64 hi := fun lo hi h => ⟨⟨by omega, by omega⟩, by constructor <;> omega⟩
  have b1 := x1.size
  have b2 := x2.size
  have b3 := x3.size
  have b4 := x4.size
  simp only [World.size_alloc] at b1 n1
  have p1 : PartsN w.heap.size (w4.alloc (.cells #[.slice a1 2 c1, .int .i64 0, .int .i64 0, .slice none 0 0, .int .i64 1, .int .i64 2, .slice a3 2 c3, .int .i64 0, .int .i64 0, .slice none 0 0, .int .i64 1, .int .i64 3] 98)) (.slice (some ⟨w4.heap.size, 0, none⟩) 4 4) parts1 := ⟨_, _, rfl, by decide, by decide, fun i hi => by
    have : i = 0 ∨ i = 1 ∨ i = 2 ∨ i = 3 := by simp [parts1] at hi; omega
    refine ⟨_, _, rfl, ?_⟩
    rcases this with rfl | rfl | rfl | rfl
    · exact ⟨by omega, ⟨a1, 2, c1, by simp [go_sem], (h1.ext (x2.trans (x3.trans x4))).ext (ext_alloc _ _), fun ad e => by have := n1 ad e; omega⟩, by simp [go_sem, parts1, givenP], by simp [go_sem, parts1, givenP], hr _ _ (by simp [parts1, parts2, parts3, roomP, givenP])⟩
    · exact ⟨by omega, ⟨none, 0, 0, by simp [go_sem], SliceAt.nil, fun ad e => (by cases e)⟩, by simp [go_sem, parts1, roomP], by simp [go_sem, parts1, roomP], hr _ _ (by simp [parts1, parts2, parts3, roomP, givenP])⟩
    · exact ⟨by omega, ⟨a3, 2, c3, by simp [go_sem], (h3.ext x4).ext (ext_alloc _ _), fun ad e => by have := n3 ad e; omega⟩, by simp [go_sem, parts1, givenP], by simp [go_sem, parts1, givenP], hr _ _ (by simp [parts1, parts2, parts3, roomP, givenP])⟩
    · exact ⟨by omega, ⟨none, 0, 0, by simp [go_sem], SliceAt.nil, fun ad e => (by cases e)⟩, by simp [go_sem, parts1, roomP], by simp [go_sem, parts1, roomP], hr _ _ (by simp [parts1, parts2, parts3, roomP, givenP])⟩⟩
  have q0 : w4.cell? ⟨w.heap.size, 0, none⟩ = some (.int .i64 0) := (x2.trans (x3.trans x4)).cell (x1.cell (by simp [go_sem]))
  have q1 : w4.cell? ⟨w.heap.size, 1, none⟩ = some (.slice none 0 0) := (x2.trans (x3.trans x4)).cell (x1.cell (by simp [go_sem]))
  have z4 := cell_lt q0
  have fz4 : ∀ o, w4.frozen? ⟨w.heap.size, o, none⟩ = false := fun o => by rw [((x1.trans x2).trans (x3.trans x4)).frozen (by simp)]; simp [go_sem]
  have y4 : Ext w w4 := ((x1.trans x2).trans (x3.trans x4)).of_alloc
  clear h1 h3 x1 x2 x3 x4
  go_wp2_with fail
  refine (room_any _ _ _).mono ?_
  rintro e w5 ⟨rfl, x5⟩
  go_wp2_with fail
  refine (lawGiven_any _ [wI, wAsk] (by kernel_rfl) (by decide) _).mono ?_
  rintro e w6 ⟨⟨a6, c6, rfl, h6, n6⟩, x6⟩
  go_wp2_with fail
  refine (room_any _ _ _).mono ?_
  rintro e w7 ⟨rfl, x7⟩
  replace p1 := p1.ext (x5.trans (x6.trans x7))
  have b5 := x5.size
  have b6 := x6.size
  have b7 := x7.size
  simp only [World.size_alloc] at b5
  have p2 : PartsN w.heap.size (w7.alloc (.cells #[.slice none 0 0, .int .i64 1, .int .i64 2, .slice a6 2 c6, .int .i64 0, .int .i64 0, .slice none 0 0, .int .i64 0, .int .i64 2] 98)) (.slice (some ⟨w7.heap.size, 0, none⟩) 3 3) parts2 := ⟨_, _, rfl, by decide, by decide, fun i hi => by
    have : i = 0 ∨ i = 1 ∨ i = 2 := by simp [parts2] at hi; omega
    refine ⟨_, _, rfl, ?_⟩
    rcases this with rfl | rfl | rfl
    · exact ⟨by omega, ⟨none, 0, 0, by simp [go_sem], SliceAt.nil, fun ad e => (by cases e)⟩, by simp [go_sem, parts2, roomP], by simp [go_sem, parts2, roomP], hr _ _ (by simp [parts1, parts2, parts3, roomP, givenP])⟩
    · exact ⟨by omega, ⟨a6, 2, c6, by simp [go_sem], (h6.ext x7).ext (ext_alloc _ _), fun ad e => by have := n6 ad e; omega⟩, by simp [go_sem, parts2, givenP], by simp [go_sem, parts2, givenP], hr _ _ (by simp [parts1, parts2, parts3, roomP, givenP])⟩
    · exact ⟨by omega, ⟨none, 0, 0, by simp [go_sem], SliceAt.nil, fun ad e => (by cases e)⟩, by simp [go_sem, parts2, roomP], by simp [go_sem, parts2, roomP], hr _ _ (by simp [parts1, parts2, parts3, roomP, givenP])⟩⟩
  have y7 := (x5.trans (x6.trans x7)).of_alloc
  have s4 := z4
  replace q0 := y7.cell q0
  replace q1 := y7.cell q1
  replace z4 := cell_lt q0
  have fz7 : ∀ o, w7.frozen? ⟨w.heap.size, o, none⟩ = false := fun o => by rw [y7.frozen (p := ⟨w.heap.size, o, none⟩) s4]; exact fz4 o
  clear h6 x5 x6 x7 fz4 s4
  go_wp2_with fail
  refine (room_any _ _ _).mono ?_
  rintro e w8 ⟨rfl, x8⟩
  go_wp2_with fail
  refine (room_any _ _ _).mono ?_
  rintro e w9 ⟨rfl, x9⟩
  replace p1 := (p1.ext (ext_alloc _ _)).ext (x8.trans x9)
  replace p2 := p2.ext (x8.trans x9)
  have b8 := x8.size
  have b9 := x9.size
  simp only [World.size_alloc] at b8
  have y9 := (x8.trans x9).of_alloc
  have s7 := z4
  replace q0 := y9.cell q0
  replace q1 := y9.cell q1
  replace z4 := cell_lt q0
  have fz9 : ∀ o, w9.frozen? ⟨w.heap.size, o, none⟩ = false := fun o => by rw [y9.frozen (p := ⟨w.heap.size, o, none⟩) s7]; exact fz7 o
  have y := (y4.trans y7).trans y9
  clear y4 y7 y9 x8 x9 fz7 s7
  replace p1 := (p1.set (o := 0) (.int .i64 12)).set (o := 1) (.slice (some ⟨w9.heap.size + 1, 0, none⟩) 3 3)
  replace p2 := (p2.set (o := 0) (.int .i64 12)).set (o := 1) (.slice (some ⟨w9.heap.size + 1, 0, none⟩) 3 3)
  have c0 : ((w9.setCell ⟨w.heap.size, 0, none⟩ (.int .i64 12)).setCell ⟨w.heap.size, 1, none⟩ (.slice (some ⟨w9.heap.size + 1, 0, none⟩) 3 3)).cell? ⟨w.heap.size, 0, none⟩ = some (.int .i64 12) := set_other (set_cell q0 _) (.inr (by simp)) _
  have c1 : ((w9.setCell ⟨w.heap.size, 0, none⟩ (.int .i64 12)).setCell ⟨w.heap.size, 1, none⟩ (.slice (some ⟨w9.heap.size + 1, 0, none⟩) 3 3)).cell? ⟨w.heap.size, 1, none⟩ = some (.slice (some ⟨w9.heap.size + 1, 0, none⟩) 3 3) := set_cell (set_other q1 (.inr (by simp)) _) _
  have y2 : Ext w ((w9.setCell ⟨w.heap.size, 0, none⟩ (.int .i64 12)).setCell ⟨w.heap.size, 1, none⟩ (.slice (some ⟨w9.heap.size + 1, 0, none⟩) 3 3)) := (y.setCell (Nat.le_refl _) _).setCell (Nat.le_refl _) _
  have hsz : ((w9.setCell ⟨w.heap.size, 0, none⟩ (.int .i64 12)).setCell ⟨w.heap.size, 1, none⟩ (.slice (some ⟨w9.heap.size + 1, 0, none⟩) 3 3)).heap.size = w9.heap.size := by simp
  go_wp2
  generalize (w9.setCell ⟨w.heap.size, 0, none⟩ (.int .i64 12)).setCell ⟨w.heap.size, 1, none⟩ (.slice (some ⟨w9.heap.size + 1, 0, none⟩) 3 3) = W at *
  have c0' := ((ext_alloc W (.cells #[.slice none 0 0, .int .i64 1, .int .i64 2, .slice none 0 0, .int .i64 1, .int .i64 2] 98)).trans (ext_alloc _ (.cells #[.string ⟨#[112, 108, 101, 97]⟩, .slice (some ⟨w4.heap.size, 0, none⟩) 4 4, .string ⟨#[110, 111, 116, 101]⟩, .slice (some ⟨w7.heap.size, 0, none⟩) 3 3, .string ⟨#[108, 105, 115, 116]⟩, .slice (some ⟨w9.heap.size, 0, none⟩) 2 2] 44))).cell c0
  have c1' := ((ext_alloc W (.cells #[.slice none 0 0, .int .i64 1, .int .i64 2, .slice none 0 0, .int .i64 1, .int .i64 2] 98)).trans (ext_alloc _ (.cells #[.string ⟨#[112, 108, 101, 97]⟩, .slice (some ⟨w4.heap.size, 0, none⟩) 4 4, .string ⟨#[110, 111, 116, 101]⟩, .slice (some ⟨w7.heap.size, 0, none⟩) 3 3, .string ⟨#[108, 105, 115, 116]⟩, .slice (some ⟨w9.heap.size, 0, none⟩) 2 2] 44))).cell c1
  refine bodyPost_ret (v := .agg #[.int .i64 12, .slice (some ⟨w9.heap.size + 1, 0, none⟩) 3 3]) (by simp [results, Tryz.results8, go_sem, c0', c1']) rfl ⟨_, rfl, ⟨_, rfl, by constructor <;> decide, ?_⟩, (y2.alloc _).alloc _⟩
  have p3 : PartsAt (W.alloc (.cells #[.slice none 0 0, .int .i64 1, .int .i64 2, .slice none 0 0, .int .i64 1, .int .i64 2] 98)) (.slice (some ⟨w9.heap.size, 0, none⟩) 2 2) parts3 := ⟨_, _, rfl, by decide, by decide, fun i hi => by
    have : i = 0 ∨ i = 1 := by simp [parts3] at hi; omega
    refine ⟨_, _, rfl, ?_⟩
    rcases this with rfl | rfl
    · exact ⟨⟨.slice none 0 0, by simp [go_sem, hsz], SliceAt.nil⟩, by simp [go_sem, hsz, parts3, roomP], by simp [go_sem, hsz, parts3, roomP], hr _ _ (by simp [parts3, roomP])⟩
    · exact ⟨⟨.slice none 0 0, by simp [go_sem, hsz], SliceAt.nil⟩, by simp [go_sem, hsz, parts3, roomP], by simp [go_sem, hsz, parts3, roomP], hr _ _ (by simp [parts3, roomP])⟩⟩
  refine ⟨_, _, rfl, by decide, by decide, fun i hi => ?_⟩
  have hi3 : i = 0 ∨ i = 1 ∨ i = 2 := by simp [shelfE] at hi; omega
  refine ⟨_, _, rfl, ?_⟩
  rcases hi3 with rfl | rfl | rfl
  · exact ⟨by simp [go_sem, hsz, shelfE], by simp [shelfE]; decide, _, by simp [go_sem, hsz], (p1.at_.ext (ext_alloc _ _)).ext (ext_alloc _ _)⟩
  · exact ⟨by simp [go_sem, hsz, shelfE], by simp [shelfE]; decide, _, by simp [go_sem, hsz], (p2.at_.ext (ext_alloc _ _)).ext (ext_alloc _ _)⟩
  · exact ⟨by simp [go_sem, hsz, shelfE], by simp [shelfE]; decide, _, by simp [go_sem, hsz], p3.ext (ext_alloc _ _)⟩
end Go.Proofs.YtnfbhicoknpojaaGreat

namespace Go.Proofs.YtnfbhicoknpojaaGreat
set_option linter.unusedSimpArgs false
set_option linter.unusedVariables false
open Go.RowKit
set_option linter.unusedVariables false

set_option maxRecDepth 100000 in
theorem lawTurn_any (v : Value) (l : List Int) (n : Nat) (w : World) (hn : n ≤ 9223372036854775807) (hl : BytesAt w v l) : Calls Tryz.prog 46 #[v, .int .i64 n] w fun e w' => e = .returned (.int .i64 (turnM l n)) ∧ w = w' := by
  obtain ⟨a, cap, rfl, hlc, hcm, hc⟩ := hl
  by_cases h0 : l.length = 0
  · have h0' : ((l.length : Int) == 0) = true := by simp [h0]
    have H0 := Lib.hid h0
    clear hc h0
    go_enter Tryz.func46, Tryz.ntmps46
    go_wp2
    go_ret
    exact ⟨ret_int (by rw [List.eq_nil_of_length_eq_zero H0.out]; rfl), rfl⟩
  · have h0' : ((l.length : Int) == 0) = false := by simp; intro e; exact h0 (by simp [e])
    have hml : n % l.length < l.length := Nat.mod_lt _ (by omega)
    have hm : Int.tmod (n : Int) (l.length : Int) = ((n % l.length : Nat) : Int) := by rw [Int.tmod_eq_emod_of_nonneg (by omega)]; simp
    obtain ⟨b, off, rfl, c0, hu⟩ := hc (n % l.length) hml
    have hgd : turnM l n = l[n % l.length] := by rw [turnM, List.getD_eq_getElem?_getD, List.getElem?_eq_getElem hml]; rfl
    generalize hy : l[n % l.length] = y at *
    have Hgd := Lib.hid hgd
    clear hgd hy hc
    simp only [Nat.mul_one] at c0
    generalize hq : n % l.length = q at *
    have wq : IntKind.i64.wrap (q : Int) = q := IntWalk.i64_in _ (by omega)
    have wy : IntKind.i64.wrap y = y := IntWalk.i64_in _ (by unfold U8 at hu; omega)
    have q1 : (q : Int) < (l.length : Int) := by omega
    have nz : ¬ (l.length : Int) = 0 := by omega
    clear hq
    go_enter Tryz.func46, Tryz.ntmps46
    go_wp2
    go_ret
    exact ⟨ret_int Hgd.out.symm, rfl⟩
theorem turnM_in {w : World} {v : Value} {l : List Int} (hl : BytesAt w v l) (n : Nat) : 0 ≤ turnM l n ∧ turnM l n ≤ 255 := by
  obtain ⟨a, cap, rfl, hlc, hcm, hc⟩ := hl
  unfold turnM
  rcases Nat.eq_zero_or_pos l.length with h0 | h0
  · rw [List.eq_nil_of_length_eq_zero h0]; simp
  · have hml : n % l.length < l.length := Nat.mod_lt _ (by omega)
    rw [List.getD_eq_getElem?_getD, List.getElem?_eq_getElem hml]
    obtain ⟨b, off, -, -, hu⟩ := hc _ hml
    exact hu
theorem said_any (w : World) : Calls Tryz.prog 47 #[] w fun e w' => (∃ B, e = .returned (.slice (some ⟨B, 0, none⟩) 8 8) ∧ StrsAt w' (.slice (some ⟨B, 0, none⟩) 8 8) saidL) ∧ Ext w w' := by
  go_enter Tryz.func47, Tryz.ntmps47
  go_wp2
  go_ret
  refine ⟨⟨_, rfl, _, _, rfl, by decide, by decide, fun i hi => ⟨_, _, rfl, ?_⟩⟩, ext_alloc _ _⟩
  have : i = 0 ∨ i = 1 ∨ i = 2 ∨ i = 3 ∨ i = 4 ∨ i = 5 ∨ i = 6 ∨ i = 7 := by simp [saidL] at hi; omega
  rcases this with rfl | rfl | rfl | rfl | rfl | rfl | rfl | rfl
  all_goals exact ⟨by simp [go_sem, saidL], by simp [saidL]; decide⟩

theorem mod_nat (y n : Nat) : Int.tmod (y : Int) (n : Int) = ((y % n : Nat) : Int) := by rw [Int.tmod_eq_emod_of_nonneg (by omega)]; simp
theorem said_at (m : Nat) (h : m < 8) : m < saidL.length := h
theorem MarksAt.grownBy {w w' : World} {row : Option Nat} {sa : Option Addr} {n sc : Nat} {l : List Mark} (h : MarksAt w (.slice sa n sc) l) (hg : w.grownBy w' row) (hne : ∀ ad, sa = some ad → some ad.block ≠ row) : MarksAt w' (.slice sa n sc) l := by
  obtain ⟨a, cap, e, h2, h3, h4⟩ := h
  obtain ⟨rfl, rfl, rfl⟩ := Value.slice.inj e
  refine ⟨_, _, rfl, h2, h3, fun i hi => ?_⟩
  obtain ⟨b, o, rfl, r0, r1, r2⟩ := h4 i hi
  exact ⟨b, o, rfl, hg.cell r0 (show some b ≠ row from hne ⟨b, o, none⟩ rfl), hg.cell r1 (show some b ≠ row from hne ⟨b, o, none⟩ rfl), r2⟩
theorem RowW.shape {base : Nat} {l : List ByteArray} {u : Value} {w : World} (h : RowW base l u w) : ∃ a c, u = .slice a l.length c := by
  rcases h.2 with ⟨rfl, hn⟩ | ⟨g, cap, cur, rfl, -⟩
  · exact ⟨_, _, by rw [hn]⟩
  · exact ⟨_, _, rfl⟩
theorem RowK.newer {base : Nat} {l : List Mark} {u : Value} {w : World} (h : RowK base l u w) : ∀ ad n c, u = .slice (some ad) n c → base ≤ ad.block := by
  intro ad n c hu
  rcases h.2 with ⟨rfl, hn⟩ | ⟨g, cap, cur, rfl, hb, -⟩
  · cases hu
  · cases hu; exact hb
/-- the marks do not lie in the row of words -/
def Apart (mv ov : Value) : Prop := ∀ ad n c, mv = .slice (some ad) n c → some ad.block ≠ ov.ownBlock
theorem Apart.nil (ov : Value) : Apart (.slice none 0 0) ov := fun ad n c h => by cases h
end Go.Proofs.YtnfbhicoknpojaaGreat

namespace Go.Proofs.YtnfbhicoknpojaaGreat
set_option linter.unusedSimpArgs false
set_option linter.unusedVariables false
open Go.RowKit

def settledM (some all : Int) : Int := if some = all then 1 else if some = 0 then 2 else 0
def lessM : List Int → List Int → Bool
  | _, [] => false
  | [], _ :: _ => true
  | x :: l, y :: m => if x = y then lessM l m else decide (x < y)
theorem lessM_step (l m : List Int) (k : Nat) (h1 : k < l.length) (h2 : k < m.length) : lessM (l.drop k) (m.drop k) = if l[k] = m[k] then lessM (l.drop (k + 1)) (m.drop (k + 1)) else decide (l[k] < m[k]) := by
  rw [List.drop_eq_getElem_cons h1, List.drop_eq_getElem_cons h2, lessM]

set_option maxHeartbeats 1000000 in
set_option maxRecDepth 100000 in
theorem less_any (v u : Value) (l m : List Int) (w : World) (hl : IntsAt w v l) (hm : IntsAt w u m) :
    Calls Tryz.prog 74 #[v, u] w fun r w' => r = .returned (.bool (lessM l m)) ∧ Ext w w' := by
  obtain ⟨a, cap, rfl, hlc, hcm⟩ := hl.shape
  obtain ⟨a', cap', rfl, hlc', hcm'⟩ := hm.shape
  go_enter Tryz.func74, Tryz.ntmps74
  go_wp2
  go_loopw [5] (fun i wr => ∃ k : Nat, k ≤ l.length ∧ k ≤ m.length ∧ i = .int .i64 k ∧ Ext w wr ∧ lessM (l.drop k) (m.drop k) = lessM l m) (fun i _ => l.length - (intOf i).toNat)
  case atStart => exact ⟨0, Nat.zero_le _, Nat.zero_le _, rfl, Ext.refl _, rfl⟩
  case round =>
    obtain ⟨k, hk, hk', rfl, hx, hd⟩ := hrel
    have Hd := Lib.hid hd; clear hd
    by_cases h1 : k < l.length
    · have k1 : (k : Int) < (l.length : Int) := by omega
      by_cases h2 : k < m.length
      · have k2 : (k : Int) < (m.length : Int) := by omega
        have n1 : ((k : Int) == (l.length : Int)) = false := by simp; omega
        have n2 : ((k : Int) == (m.length : Int)) = false := by simp; omega
        obtain ⟨_, _, he, -, -, hh⟩ := hl.ext hx
        obtain ⟨b, off, rfl, c0, -⟩ := hh k h1
        cases he
        clear hh
        obtain ⟨_, _, he, -, -, hh⟩ := hm.ext hx
        obtain ⟨b', off', rfl, c1, -⟩ := hh k h2
        cases he
        clear hh
        have hst := lessM_step l m k h1 h2
        generalize hx' : l[k] = x at *
        generalize hy : m[k] = y at *
        have Hst := Lib.hid hst
        clear hx' hy hst
        simp only [Nat.mul_one] at c0 c1
        by_cases h0 : x = y
        · subst h0
          have h0' : (x == x) = true := by simp
          go_wp2_with fail
          apply Facts.wp_region [.val _, .val _, .val _, .val _, .val _, .val _, .val _, .val _, .val _, .val _, .val _, .val _, .val _, .val _, .val _, .val _, .val _, .val _, .val _, .val _, .val _] (by kernel_rfl) (by kernel_rfl) trivial ?main
          case main =>
            iterate 21 (refine ⟨fun w1 hx hh => ?_, ?_⟩; focus (clear hh; have e0 := hx.cell c0; have e1 := hx.cell c1; go_simp; exact ⟨Ext.refl _, rfl⟩))
            intro w1 hx1 hh
            have hx3 := hx.trans hx1
            clear hh c0 c1
            go_simp
            go_wp2
            go_roundw
            case rel => exact ⟨k + 1, by omega, by omega, by go_num, hx3, by rw [← Hd.out, Hst.out]; simp⟩
            case measure => simp [intOf]; omega
        · have h0' : (x == y) = false := by simpa using h0
          have H0 := Lib.hid h0
          clear h0
          go_wp2_with fail
          apply Facts.wp_region [.val _, .val _, .val _, .val _, .val _, .val _, .val _, .val _, .val _, .val _, .val _, .val _, .val _, .val _, .val _, .val _, .val _, .val _, .val _, .val _, .val _] (by kernel_rfl) (by kernel_rfl) trivial ?main
          case main =>
            iterate 21 (refine ⟨fun w1 hx hh => ?_, ?_⟩; focus (clear hh; have e0 := hx.cell c0; have e1 := hx.cell c1; go_simp; exact ⟨Ext.refl _, rfl⟩))
            intro w1 hx1 hh
            have hx3 := hx.trans hx1
            have c2 := hx1.cell c0
            have c3 := hx1.cell c1
            clear hh c0 c1
            go_simp
            go_wp2_with fail
            apply Facts.wp_region [.val _, .val _, .val _, .val _, .val _, .val _, .val _, .val _, .val _, .val _, .val _, .val _, .val _, .val _, .val _, .val _] (by kernel_rfl) (by kernel_rfl) trivial ?main
            case main =>
              iterate 16 (refine ⟨fun w1 hx hh => ?_, ?_⟩; focus (clear hh; have e0 := hx.cell c2; have e1 := hx.cell c3; go_simp; exact ⟨Ext.refl _, rfl⟩))
              intro w2 hx2 hh
              have hx4 := hx3.trans hx2
              clear hh c2 c3
              go_simp
              go_wp2
              go_ret
              exact ⟨ret_bool (by rw [← Hd.out, Hst.out, if_neg H0.out]), hx4⟩
      · obtain rfl : k = m.length := by omega
        have k2 : ¬ (m.length : Int) < (m.length : Int) := by omega
        go_wp2_with fail
        apply Facts.wp_region [.val _, .val _, .val _, .val _, .val _, .val _, .val _, .val _, .val _, .val _, .val _, .val _, .val _, .val _, .val _, .val _, .val _, .val _, .val _, .val _, .val _] (by kernel_rfl) (by kernel_rfl) trivial ?main
        case main =>
          iterate 21 (refine ⟨fun w1 hx hh => ?_, ?_⟩; focus (clear hh; skip; go_simp; exact ⟨Ext.refl _, rfl⟩))
          intro w1 hx1 hh
          have hx3 := hx.trans hx1
          clear hh
          go_simp
          go_wp2
          go_ret
          exact ⟨ret_bool (by rw [← Hd.out, List.drop_eq_getElem_cons h1, List.drop_eq_nil_of_le (Nat.le_refl _)]; rfl), hx3⟩
    · obtain rfl : k = l.length := by omega
      have k1 : ¬ (l.length : Int) < (l.length : Int) := by omega
      by_cases h2 : ((l.length : Int) == (m.length : Int)) = true
      · go_wp2_with fail
        apply Facts.wp_region [.val _, .val _, .val _, .val _, .val _, .val _, .val _, .val _, .val _, .val _, .val _, .val _, .val _, .val _, .val _, .val _, .val _, .val _, .val _, .val _, .val _] (by kernel_rfl) (by kernel_rfl) trivial ?main
        case main =>
          iterate 21 (refine ⟨fun w1 hx hh => ?_, ?_⟩; focus (clear hh; skip; go_simp; exact ⟨Ext.refl _, rfl⟩))
          intro w1 hx1 hh
          have hx3 := hx.trans hx1
          clear hh
          go_simp
          go_wp2
          go_ret
          exact ⟨ret_bool (by rw [← Hd.out, List.drop_eq_nil_of_le (Nat.le_refl _), List.drop_eq_nil_of_le (by simp at h2; omega)]; rfl), hx3⟩
      · have h2' : ((l.length : Int) == (m.length : Int)) = false := by simpa using h2
        have h3 : l.length < m.length := by simp at h2; omega
        clear h2
        go_wp2_with fail
        apply Facts.wp_region [.val _, .val _, .val _, .val _, .val _, .val _, .val _, .val _, .val _, .val _, .val _, .val _, .val _, .val _, .val _, .val _, .val _, .val _, .val _, .val _, .val _] (by kernel_rfl) (by kernel_rfl) trivial ?main
        case main =>
          iterate 21 (refine ⟨fun w1 hx hh => ?_, ?_⟩; focus (clear hh; skip; go_simp; exact ⟨Ext.refl _, rfl⟩))
          intro w1 hx1 hh
          have hx3 := hx.trans hx1
          clear hh
          go_simp
          go_wp2_with fail
          apply Facts.wp_region [.val _, .val _, .val _, .val _, .val _, .val _, .val _, .val _, .val _, .val _, .val _, .val _, .val _, .val _, .val _, .val _] (by kernel_rfl) (by kernel_rfl) trivial ?main
          case main =>
            iterate 16 (refine ⟨fun w1 hx hh => ?_, ?_⟩; focus (clear hh; skip; go_simp; exact ⟨Ext.refl _, rfl⟩))
            intro w2 hx2 hh
            have hx4 := hx3.trans hx2
            clear hh
            go_simp
            go_wp2
            go_ret
            exact ⟨ret_bool (by rw [← Hd.out, List.drop_eq_nil_of_le (Nat.le_refl _), List.drop_eq_getElem_cons h3]; rfl), hx4⟩
end Go.Proofs.YtnfbhicoknpojaaGreat

namespace Go.Proofs.YtnfbhicoknpojaaGreat
set_option linter.unusedSimpArgs false
set_option linter.unusedVariables false
open Go.RowKit

theorem lessM_self (l : List Int) : lessM l l = false := by
  induction l with
  | nil => rfl
  | cons x l ih => simp [lessM, ih]
theorem lessM_total : ∀ l m : List Int, lessM l m = false → lessM m l = false → l = m
  | [], [] => fun _ _ => rfl
  | [], _ :: _ => fun h _ => by simp [lessM] at h
  | _ :: _, [] => fun _ h => by simp [lessM] at h
  | x :: l, y :: m => fun h h' => by
    by_cases e : x = y
    · subst e
      simp only [lessM, if_true] at h h'
      rw [lessM_total l m h h']
    · simp only [lessM, e, Ne.symm e, if_false, decide_eq_false_iff_not] at h h'
      omega
set_option maxHeartbeats 1000000 in
set_option maxRecDepth 100000 in
theorem ints_any (v u : Value) (l m : List Int) (w : World) (hl : IntsAt w v l) (hm : IntsAt w u m) :
    Calls Tryz.prog 32 #[v, u] w fun r w' => r = .returned (.bool (decide (l = m))) ∧ Ext w w' := by
  have hsl := hl.shape
  have hsm := hm.shape
  obtain ⟨a, cap, rfl, hlc, hcm⟩ := hsl
  obtain ⟨a', cap', rfl, hlc', hcm'⟩ := hsm
  by_cases h : ((l.length : Int) == (m.length : Int)) = true
  · go_enter Tryz.func32, Tryz.ntmps32
    go_wp2_with fail
    refine (less_any _ _ l m w hl hm).mono ?_
    rintro e w1 ⟨rfl, hx1⟩
    cases h1 : lessM l m
    · have H1 := Lib.hid h1; clear h1
      go_wp2_with fail
      refine (less_any _ _ m l w1 (hm.ext hx1) (hl.ext hx1)).mono ?_
      rintro e w2 ⟨rfl, hx2⟩
      have hx3 := hx1.trans hx2
      cases h2 : lessM m l
      all_goals
        have H2 := Lib.hid h2; clear h2
        go_wp2
        go_ret
        first
          | exact ⟨ret_bool (by rw [decide_eq_true (lessM_total l m H1.out H2.out)]), hx3⟩
          | exact ⟨ret_bool (by rw [eq_comm, decide_eq_false_iff_not]; intro e; subst e; have := H2.out; rw [lessM_self] at this; cases this), hx3⟩
    · have H1 := Lib.hid h1; clear h1
      go_wp2
      go_ret
      exact ⟨ret_bool (by rw [eq_comm, decide_eq_false_iff_not]; intro e; subst e; have := H1.out; rw [lessM_self] at this; cases this), hx1⟩
  · have h' : ((l.length : Int) == (m.length : Int)) = false := by simpa using h
    have hn : ¬ l = m := fun e => by subst e; simp at h'
    have Hn := Lib.hid hn
    clear h hn
    go_enter Tryz.func32, Tryz.ntmps32
    go_wp2
    go_ret
    exact ⟨ret_bool (by rw [decide_eq_false Hn.out]), Ext.refl _⟩

def fewerM (l m : List Int) : Bool := if l.length = m.length then lessM l m else decide (l.length < m.length)
end Go.Proofs.YtnfbhicoknpojaaGreat

namespace Go.Proofs.YtnfbhicoknpojaaGreat
set_option linter.unusedSimpArgs false
set_option linter.unusedVariables false
open Go.RowKit

theorem mem_take_step (l : List Int) (k : Nat) (n x : Int) (h : k < l.length) (hx : l[k] = x) : decide (n ∈ l.take (k + 1)) = (decide (n ∈ l.take k) || (x == n)) := by
  rw [List.take_succ_eq_append_getElem h, hx]
  by_cases h1 : n ∈ l.take k <;> by_cases h2 : x = n
  · simp [h1, h2]
  · simp [h1]
  · simp [h1, h2]
  · simp [h1, h2, Ne.symm h2]
def risingM (below : Int) : Int → List Int → Bool
  | _, [] => true
  | last, x :: l => decide (last < x) && decide (x < below) && risingM below x l
set_option maxRecDepth 100000 in
theorem all_any (n : Nat) (h : n ≤ 4) (w : World) : Calls Tryz.prog 64 #[.int .i64 n] w fun r w' => r = .returned (.int .i64 (2 ^ n - 1)) ∧ w = w' := by
  go_enter Tryz.func64, Tryz.ntmps64
  go_wp2
  go_loop [3, 4] (fun m i => ∃ k : Nat, k ≤ n ∧ m = .int .i64 (2 ^ k - 1) ∧ i = .int .i64 k) (fun _ i => n - (intOf i).toNat)
  case atStart => exact ⟨0, Nat.zero_le _, rfl, rfl⟩
  case round =>
    obtain ⟨k, hk, rfl, rfl⟩ := hrel
    by_cases h1 : k < n
    · have hk4 : k = 0 ∨ k = 1 ∨ k = 2 ∨ k = 3 := by omega
      rcases hk4 with rfl | rfl | rfl | rfl
      all_goals
        have h1' : _ := Int.ofNat_lt.2 h1
        go_wp2
        go_round
        case rel => exact ⟨_, h1, rfl, rfl⟩
        case measure => simp [intOf]; omega
    · obtain rfl : k = n := by omega
      go_wp2
      go_ret
      exact ⟨rfl, rfl⟩
end Go.Proofs.YtnfbhicoknpojaaGreat

namespace Go.Proofs.YtnfbhicoknpojaaGreat
set_option linter.unusedSimpArgs false
set_option linter.unusedVariables false
open Go.RowKit

def bitM : Nat → Int → Bool
  | 0, c => c.tmod 2 == 1
  | n + 1, c => bitM n (c.tdiv 2)
theorem tdiv2_in (c : Int) (h : I64 c) : I64 (c.tdiv 2) := by
  unfold I64 at *
  rcases Int.le_total 0 c with h0 | h0
  · rw [Int.tdiv_eq_ediv_of_nonneg h0]; omega
  · have e : c.tdiv 2 = -((-c) / 2) := by
      rw [← Int.tdiv_eq_ediv_of_nonneg (by omega), Int.neg_tdiv, Int.neg_neg]
    rw [e]; omega
def whereM (s : ByteArray) : List ByteArray → Nat → Int
  | [], _ => -1
  | x :: l, k => if (x.toList == s.toList) = true then k else whereM s l (k + 1)
theorem whereM_step (s : ByteArray) (l : List ByteArray) (k : Nat) (h : k < l.length) (x : ByteArray) (hx : l[k] = x) : whereM s (l.drop k) k = if (x.toList == s.toList) = true then (k : Int) else whereM s (l.drop (k + 1)) (k + 1) := by
  rw [List.drop_eq_getElem_cons h, hx, whereM]
theorem whereM_ge (s : ByteArray) (l : List ByteArray) : ∀ k : Nat, decide (0 ≤ whereM s l k) = l.any fun y => y.toList == s.toList := by
  induction l with
  | nil => intro k; simp [whereM]
  | cons x l ih =>
    intro k
    rw [whereM, List.any_cons]
    cases h : x.toList == s.toList
    · simp only [Bool.false_eq_true, if_false, Bool.false_or]; exact ih _
    · simp only [if_true, Bool.true_or, decide_eq_true_eq]; exact Int.natCast_nonneg k
set_option maxHeartbeats 1000000 in
set_option maxRecDepth 100000 in
theorem where_any (v : Value) (s : ByteArray) (l : List ByteArray) (w : World) (hl : StrsAt w v l) :
    Calls Tryz.prog 62 #[v, .string s] w fun r w' => r = .returned (.int .i64 (whereM s l 0)) ∧ w = w' := by
  obtain ⟨a, cap, rfl, hlc, hcm, hc⟩ := hl
  go_enter Tryz.func62, Tryz.ntmps62
  go_wp2
  go_loop [5] (fun i => ∃ k : Nat, k ≤ l.length ∧ i = .int .i64 k ∧ whereM s (l.drop k) k = whereM s l 0) (fun i => l.length - (intOf i).toNat)
  case atStart => exact ⟨0, Nat.zero_le _, rfl, rfl⟩
  case round =>
    obtain ⟨k, hk, rfl, hd⟩ := hrel
    have Hd := Lib.hid hd; clear hd
    by_cases h1 : k < l.length
    · have k1 : (k : Int) < (l.length : Int) := by omega
      have n1 : ((k : Int) == (l.length : Int)) = false := by simp; omega
      obtain ⟨b, off, rfl, c0, -⟩ := hc k h1
      clear hc
      have hst := fun x hx => whereM_step s l k h1 x hx
      generalize hx : l[k] = x at *
      have Hst := Lib.hid (hst x rfl)
      clear hx hst
      simp only [Nat.mul_one] at c0
      cases h2 : x.toList == s.toList
      all_goals
        have H2 := Lib.hid h2
        go_wp2
        first
          | (go_ret
             exact ⟨ret_int (by rw [← Hd.out, Hst.out, if_pos H2.out]), rfl⟩)
          | (go_round
             case rel => exact ⟨k + 1, by omega, by go_num, by rw [← Hd.out, Hst.out, if_neg (by rw [H2.out]; decide)]⟩
             case measure => simp [intOf]; omega)
    · obtain rfl : k = l.length := by omega
      go_wp2
      go_ret
      have := Hd.out
      rw [List.drop_eq_nil_of_le (Nat.le_refl _)] at this
      exact ⟨ret_int this, rfl⟩
end Go.Proofs.YtnfbhicoknpojaaGreat

namespace Go.Proofs.YtnfbhicoknpojaaGreat
set_option linter.unusedSimpArgs false
set_option linter.unusedVariables false
open Go.RowKit

def nameTo (s : ByteArray) (k : Nat) : Bool := inM s.size 1 16 && (List.range k).all fun k => okByte k (byteAt s k)
theorem nameTo_step (s : ByteArray) (k : Nat) : nameTo s (k + 1) = (nameTo s k && okByte k (byteAt s k)) := by
  simp [nameTo, List.range_succ, Bool.and_assoc]

set_option maxHeartbeats 1000000 in
set_option maxRecDepth 100000 in
theorem refName_any (s : ByteArray) (w : World) (hs : s.size ≤ 9223372036854775807) :
    Calls Tryz.prog 63 #[.string s] w fun e w' => e = .returned (.bool (nameM s)) ∧ w = w' := by
  go_enter Tryz.func63, Tryz.ntmps63
  go_wp2_with (go_at_call 18; refine (In_any _ _ _ _).mono ?_; rintro e w' ⟨rfl, rfl⟩)
  go_loop [3, 4, 5] (fun f i _ => ∃ k : Nat, ∃ fine : Bool, k ≤ s.size ∧ f = .bool fine ∧ i = .int .i64 k ∧ nameTo s k = fine) (fun _ i _ => s.size - (intOf i).toNat)
  case atStart => exact ⟨0, _, Nat.zero_le _, rfl, rfl, by simp [nameTo]⟩
  case round =>
    obtain ⟨k, fine, hk, rfl, rfl, hd⟩ := hrel
    have Hd := Lib.hid hd; clear hd
    by_cases h1 : k < s.size
    · have k1 : (k : Int) < (s.size : Int) := by omega
      have Hst : Hid (nameTo s (k + 1) = (nameTo s k && okByte k ((s[k]'h1).toNat : Int))) := Lib.hid (by rw [nameTo_step, byteAt_eq s k h1])
      by_cases i2 : ((s[k]'h1).toNat : Int) = 46
      · have I2 := Lib.hid i2
        have i1 : inM 46 97 122 = false := by decide
        cases fine
        all_goals
          by_cases hk0 : k = 0
          · subst hk0
            go_wp2_with (go_at_call 18; refine (In_any _ _ _ _).mono ?_; rintro e w' ⟨rfl, rfl⟩)
            go_round
            case rel => exact ⟨1, _, by omega, rfl, by go_num, by rw [Hst.out, Hd.out, I2.out]; rfl⟩
            case measure => simp [intOf]; omega
          · have k0 : (0 : Int) < (k : Int) := by omega
            have K0 := Lib.hid hk0
            go_wp2_with (go_at_call 18; refine (In_any _ _ _ _).mono ?_; rintro e w' ⟨rfl, rfl⟩)
            go_round
            case rel => exact ⟨k + 1, _, by omega, rfl, by go_num, by
              rw [Hst.out, Hd.out, I2.out]
              first
                | rfl
                | (simp [okByte, K0.out]; done)⟩
            case measure => simp [intOf]; omega
      · have I2 := Lib.hid i2
        have wc : IntKind.i64.wrap ((s[k]'h1).toNat : Int) = ((s[k]'h1).toNat : Int) := IntWalk.i64_in _ (by have := (s[k]'h1).toNat_lt; omega)
        cases i1 : inM ((s[k]'h1).toNat : Int) 97 122
        all_goals
          have I1 := Lib.hid i1
          cases fine
          all_goals
            by_cases hk0 : k = 0
            · subst hk0
              go_wp2_with (go_at_call 18; refine (In_any _ _ _ _).mono ?_; rintro e w' ⟨rfl, rfl⟩)
              go_round
              case rel => exact ⟨1, _, by omega, rfl, by go_num, by rw [Hst.out, Hd.out]; first | rfl | (rw [okByte, I1.out]; rfl)⟩
              case measure => simp [intOf]; omega
            · have k0 : (0 : Int) < (k : Int) := by omega
              have K0 := Lib.hid hk0
              go_wp2_with (go_at_call 18; refine (In_any _ _ _ _).mono ?_; rintro e w' ⟨rfl, rfl⟩)
              go_round
              case rel => exact ⟨k + 1, _, by omega, rfl, by go_num, by
                rw [Hst.out, Hd.out]
                first
                  | rfl
                  | (rw [okByte, I1.out]; rfl)
                  | (rw [okByte, I1.out]; simp [K0.out]; exact Bool.or_comm _ _)⟩
              case measure => simp [intOf]; omega
    · obtain rfl : k = s.size := by omega
      go_wp2
      go_ret
      exact ⟨ret_bool Hd.out.symm, rfl⟩

def freshM (s : ByteArray) (l : List ByteArray) : Int := if nameM s = false then 6 else if (l.any fun y => y.toList == s.toList) = true then 5 else 0
theorem fresh_any (v : Value) (s : ByteArray) (l : List ByteArray) (w : World) (hs : s.size ≤ 9223372036854775807) (hl : StrsAt w v l) :
    Calls Tryz.prog 19 #[.string s, v] w fun r w' => r = .returned (.int .i64 (freshM s l)) ∧ w = w' := by
  obtain ⟨a, cap, rfl, hlc, hcm⟩ := hl.shape
  have hw := whereM_ge s l 0
  generalize hm : whereM s l 0 = m at *
  have HM := Lib.hid hm; clear hm
  have HW := Lib.hid hw; clear hw
  by_cases h0 : 0 ≤ m
  all_goals
    have H0 := Lib.hid h0
    cases hn : nameM s
    all_goals
      have HN := Lib.hid hn
      go_enter Tryz.func19, Tryz.ntmps19
      go_wp2_with (first | (go_at_call 62; refine (where_any _ s l _ hl).mono ?_; rintro e w' ⟨rfl, rfl⟩; rw [HM.out]) | (go_at_call 63; refine (refName_any s _ hs).mono ?_; rintro e w' ⟨rfl, rfl⟩))
      go_ret
      first
        | exact ⟨ret_int (by rw [freshM, if_pos HN.out]), rfl⟩
        | exact ⟨ret_int (by rw [freshM, if_neg (by rw [HN.out]; decide), if_pos (by rw [← HW.out]; exact decide_eq_true H0.out)]), rfl⟩
        | exact ⟨ret_int (by rw [freshM, if_neg (by rw [HN.out]; decide), if_neg (by rw [← HW.out, decide_eq_true_eq]; have := H0.out; omega)]), rfl⟩
end Go.Proofs.YtnfbhicoknpojaaGreat

namespace Go.Proofs.YtnfbhicoknpojaaGreat
set_option linter.unusedSimpArgs false
set_option linter.unusedVariables false
open Go.RowKit
set_option linter.unusedVariables false

theorem refRoomy_any (a : Option Addr) (n cap : Nat) (lo hi : Int) (w : World) :
    Calls Tryz.prog 88 #[.agg #[.slice a n cap, .int .i64 lo, .int .i64 hi]] w fun e w' => e = .returned (.bool ((n : Int) == 0)) ∧ Ext w w' := by
  go_enter Tryz.func88, Tryz.ntmps88
  go_wp2
  go_ret
  exact ⟨by simp, (by first | (with_reducible exact Ext.refl _) | (with_reducible assumption) | (show Below _ _ _; go_grown; done))⟩
theorem span_fields : ∃ f g, (Tryz.prog.fieldsOf 96).toList = [f, g] ∧ f.type = 3 ∧ f.offset = 0 ∧ g.type = 3 ∧ g.offset = 1 ∧ f.name = "Lo" ∧ g.name = "Hi" := by
  have hf : ((Tryz.prog.fieldsOf 96).toList.map fun f => (f.name, f.type, f.offset)) = [("Lo", 3, 0), ("Hi", 3, 1)] := by kernel_rfl
  generalize (Tryz.prog.fieldsOf 96).toList = fs at *
  obtain ⟨f, g, rfl⟩ : ∃ f g, fs = [f, g] := by
    rcases fs with _ | ⟨f, _ | ⟨g, _ | ⟨h, r⟩⟩⟩
    · simp at hf
    · simp at hf
    · exact ⟨f, g, rfl⟩
    · simp at hf
  simp only [List.map_cons, List.map_nil, List.cons.injEq, Prod.mk.injEq, and_true] at hf
  obtain ⟨⟨h1, h2, h3⟩, h4, h5, h6⟩ := hf
  exact ⟨f, g, rfl, h2, h3, h5, h6, h1, h4⟩
theorem equal_span (a b c d : Int) (w : World) : (Op.equal 96 (.agg #[.int .i64 a, .int .i64 b]) (.agg #[.int .i64 c, .int .i64 d])).run Tryz.prog w = .ok (decide (a = c ∧ b = d)) w := by
  have hop : ∀ x y : Value, Op.equal 96 x y = Op.equalIn Op.maxDepth 96 x y := fun _ _ => rfl
  obtain ⟨m0, hd⟩ : ∃ m0, Op.maxDepth = m0 + 2 := ⟨9998, by decide⟩
  have ha : ∀ w, (isAgg 3).run Tryz.prog w = .ok false w := fun _ => by kernel_rfl
  rw [hop, hd]
  rw [run_equalIn_struct _ _ _ _ _ (by kernel_rfl) (by kernel_rfl)]
  obtain ⟨f, g, hfs, h2, h3, h5, h6, n1, n2⟩ := span_fields
  rw [hfs]
  simp [Op.eqFields, h2, h3, h5, h6, n1, n2, part, ha, go_sem]
  by_cases e1 : a = c <;> by_cases e2 : b = d <;> simp [e1, e2]
theorem neq_span (a b c d : Int) (w : World) : (binOp .neq 96 (.agg #[.int .i64 a, .int .i64 b]) (.agg #[.int .i64 c, .int .i64 d])).run Tryz.prog w = .ok (.bool (!decide (a = c ∧ b = d))) w := by
  have h := equal_span a b c d w
  have hop : Op.equal 96 (.agg #[.int .i64 a, .int .i64 b]) (.agg #[.int .i64 c, .int .i64 d]) = Op.equalIn 10000 96 (.agg #[.int .i64 a, .int .i64 b]) (.agg #[.int .i64 c, .int .i64 d]) := rfl
  rw [hop] at h
  rw [run_neq_struct, h]
  rfl
theorem formErr_fresh (before : List Form) (f : Form) : formErrM before f = if freshM f.name (before.map (·.name)) ≠ 0 then freshM f.name (before.map (·.name)) else if 5 < f.parts.length then 3 else (firstErr (fun _ => partErrM) f.parts).2 := by
  rw [formErr_name]
  rfl
/-- the first error of some parts, if there is none before -/
theorem parts_step (ps : List Part) (k : Nat) (h : k < ps.length) (e : Int) (he : (firstErrFrom (fun _ => partErrM) (ps.take k) (ps.drop k)).2 = e) : partErrM ps[k] = 0 → (firstErrFrom (fun _ => partErrM) (ps.take (k + 1)) (ps.drop (k + 1))).2 = e := fun h0 => by
  rw [← he, ← firstErrFrom_step (fun _ => partErrM) ps k h _ rfl h0]
/-- the error of a form, behind what its name has -/
def behindE (e0 : Int) (f : Form) : Int := if e0 ≠ 0 then e0 else (firstErr (fun _ => partErrM) f.parts).2
def ChkB2 (e0 : Int) (f : Form) (R : World) (v : Value) (wc : World) : Prop := v = .int .i64 (behindE e0 f) ∧ Ext R wc
end Go.Proofs.YtnfbhicoknpojaaGreat
