/-
  AN append ONTO A ROW OF THE CALL's OWN, and what it leaves of that row: its first cells. For a region that draws its order and makes and grows several rows. Over any program.
  A REGION WALKED OVER A FRAME THAT IS A VARIABLE: what its slots hold is said by facts alone. Over any program.
  A BLOCK, OR A BRANCHING, TAKEN OUT OF A FUNCTION'S TEXT, so that it can be walked in a declaration of its own. Over any program.
  A STATEMENT THAT IS A REGION, TAKEN OUT OF A FUNCTION'S TEXT, so that it can be walked in a declaration of its own. Over any program.
  Marks of the reference: the first marks with the fewest corrections.
  Fewest of the program, for any letters.
  Mend of the program, for any shelf, form and letter.
  needs and Nearest of the program.
  Nearest of the program.
  A REGION THAT DRAWS ITS ORDER, WHOSE LAST OPERATION WAITS FOR ALL OTHERS: the others first, then this one, by a fact of its own. Over any program.
-/
import Derived.Test.YtcamegaimleomaaGreatBunAI
import Derived.Laws.OwnMore
import Derived.Test.YtcamegaimleomaaGreatBunAH
import Derived.Test.YtcamegaimleomaaGreatBunAA
import Derived.Test.YtcamegaimleomaaGreatBunAE
namespace Go.Proofs.YtcamegaimleomaaGreat
set_option linter.unusedSimpArgs false
set_option linter.unusedVariables false
open Go.RowKit
set_option linter.unusedVariables false
namespace Facts.App
variable {P : Program} {ops : Array Oper}

/-- a later world in which new rows, from a block on, may have been written behind their first n cells -/
structure Grew (n0 n : Nat) (w w' : World) : Prop where
  os : w'.os = w.os
  tape : w'.tape = w.tape
  output : w'.output = w.output
  size : w.heap.size ≤ w'.heap.size
  block : ∀ k, k < w.heap.size → w'.heap[k]? = w.heap[k]? ∨ (n0 ≤ k ∧ ∃ cur cur' e, w.heap[k]? = some (.cells cur e (0, 0)) ∧ w'.heap[k]? = some (.cells cur' e (0, 0)) ∧ cur'.size = cur.size ∧ cur'.toList.take n = cur.toList.take n)
theorem Grew.of_ext {n0 n : Nat} {w w' : World} (h : Ext w w') : Grew n0 n w w' := ⟨Below.os h, Below.tape h, Below.output h, Below.size h, fun k hk => .inl (Below.block h k hk)⟩
theorem Grew.trans {n0 n : Nat} {a b c : World} (h : Grew n0 n a b) (k : Grew n0 n b c) : Grew n0 n a c :=
  ⟨k.os.trans h.os, k.tape.trans h.tape, k.output.trans h.output, Nat.le_trans h.size k.size, fun i hi => by
    rcases h.block i hi with h1 | ⟨h0, c1, c2, e, g1, g2, g3, g4⟩
    · rcases k.block i (Nat.lt_of_lt_of_le hi h.size) with h2 | ⟨h0, c1, c2, e, g1, g2, g3, g4⟩
      · exact .inl (h2.trans h1)
      · exact .inr ⟨h0, c1, c2, e, by rw [← h1]; exact g1, g2, g3, g4⟩
    · rcases k.block i (Nat.lt_of_lt_of_le hi h.size) with h2 | ⟨-, c3, c4, e', f1, f2, f3, f4⟩
      · exact .inr ⟨h0, c1, c2, e, g1, by rw [h2]; exact g2, g3, g4⟩
      · rw [g2] at f1
        simp only [Option.some.injEq, Obj.cells.injEq, and_true] at f1
        obtain ⟨rfl, rfl⟩ := f1
        exact .inr ⟨h0, c1, c4, e, g1, f2, f3.trans g3, f4.trans g4⟩⟩
theorem Grew.below {n0 n : Nat} {w w' : World} (h : Grew n0 n w w') {u : World} (hu : u.heap.size = n0) (hx : Ext u w) : Ext u w' := by
  subst hu
  exact ⟨h.os.trans (Below.os hx), h.tape.trans (Below.tape hx), h.output.trans (Below.output hx), Nat.le_trans (Below.size hx) h.size, fun k hk => by
    rcases h.block k (Nat.lt_of_lt_of_le hk (Below.size hx)) with h1 | ⟨h0, -⟩
    · exact h1.trans (Below.block hx k hk)
    · omega⟩
theorem two_grew (n0 n : Nat) : Piv.Two Ext (Grew n0 n) :=
  ⟨fun _ _ h => Grew.of_ext h, fun _ _ _ h k => h.trans k, fun _ _ _ h k => Grew.trans h k, fun _ => Ext.refl _, fun w => ext_drew w⟩
/-- a row of so many cells at most is kept -/
theorem Grew.owns {n0 n : Nat} {w w' : World} (h : Grew n0 n w w') {base size m : Nat} {e : TypeId} {v : Value} {xs : List Value} (ho : w.ownsRow base e size v m xs) (hm : m * size ≤ n) : w'.ownsRow base e size v m xs := by
  refine ⟨ho.1, ?_⟩
  rcases ho.2 with h1 | ⟨g, cap, cur, rfl, hb, hg, hnc, hcm, hcs, htake⟩
  · exact .inl h1
  · have hlt : g < w.heap.size := (Array.getElem?_eq_some_iff.1 hg).1
    rcases h.block g hlt with h1 | ⟨-, c1, c2, e', g1, g2, g3, g4⟩
    · exact .inr ⟨g, cap, cur, rfl, hb, by rw [h1]; exact hg, hnc, hcm, hcs, htake⟩
    · rw [hg] at g1
      simp only [Option.some.injEq, Obj.cells.injEq, and_true] at g1
      obtain ⟨rfl, rfl⟩ := g1
      refine .inr ⟨g, cap, c2, rfl, hb, g2, hnc, hcm, g3.trans hcs, ?_⟩
      have := congrArg (List.take (m * size)) g4
      rw [List.take_take, List.take_take, Nat.min_eq_left hm] at this
      rw [this]; exact htake
theorem Grew.cell {n0 n : Nat} {w w' : World} (h : Grew n0 n w w') {B j : Nat} {v : Value} (hc : w.cell? ⟨B, j, none⟩ = some v) (hj : j < n) : w'.cell? ⟨B, j, none⟩ = some v := by
  have hlt : B < w.heap.size := cell_lt hc
  rcases h.block B hlt with h1 | ⟨-, c1, c2, e', g1, g2, g3, g4⟩
  · rw [World.cell?_of_block (a := ⟨B, j, none⟩) h1]; exact hc
  · unfold World.cell? at hc ⊢
    simp only [g1] at hc
    simp only [g2]
    have e1 : c1[j]? = some v := by simpa using hc
    have e2 : c2[j]? = c1[j]? := by
      have a1 : c2.toList[j]? = (c2.toList.take n)[j]? := by rw [List.getElem?_take_of_lt hj]
      have a2 : c1.toList[j]? = (c1.toList.take n)[j]? := by rw [List.getElem?_take_of_lt hj]
      rw [← Array.getElem?_toList, ← Array.getElem?_toList, a1, a2, g4]
    simpa [e2] using e1
theorem run_append_grew {w : World} (base : Nat) (t ty e : TypeId) (i : TypeInfo) (z : Value) (size bytes : Nat) (ht : P.underlying t = some (.slice e)) (hi : P.info? e = some i) (hz : i.zero = some z)
    (hsize : i.size = size) (hby : i.bytes = bytes) (hzs : z.cells.size = size) (hsz : 0 < size)
    (v : Value) (n : Nat) (xs : List Value) (hown : w.ownsRow base e size v n xs)
    (a : Addr) (m c : Nat) (news : List Value) (hl : news.length = m * size) (hnews : ∀ j u, news[j]? = some u → w.cell? (a.add j) = some u) (h1 : ∀ u ∈ news, u.oneCell' = true)
    (h63 : n + m ≤ maxLen) (hbytes : (n + m) * bytes ≤ 140737488355328) (hbase : base ≤ w.heap.size) :
    ∃ v' w', (Builtin.append_ #[t, t] ty #[v, .slice (some a) m c]).run P w = .ok v' w' ∧ w'.ownsRow base e size v' (n + m) (xs ++ news) ∧ Grew base (n * size) w w' ∧
      ((∀ g cap, v = .slice (some ⟨g, 0, none⟩) n cap → cap < n + m) → Ext w w') := by
  obtain ⟨v', w', hr, ho, hg, -, -⟩ := run_append_own_at (P := P) w base t ty e i z size bytes ht hi hz hsize hby hzs hsz v n xs hown a m c news hl hnews h1 h63 hbytes hbase
  refine ⟨v', w', hr, ho, ?_⟩
  rcases hown.2 with ⟨rfl, rfl⟩ | ⟨g, cap, cur, rfl, hbg, hg0, hnc, hcm, hcs, htake⟩
  · have hx : Ext w w' := ⟨hg.os, hg.tape, hg.output, hg.size, fun k hk => hg.block k hk (by simp [Value.ownBlock])⟩
    exact ⟨Grew.of_ext hx, fun _ => hx⟩
  · by_cases hroom : n + m ≤ cap
    · obtain ⟨w2, hr2, ho2, hg2⟩ := run_append_fits (P := P) (w := w) base t ty e i size ht hi hsize g n cap xs hown a m c news hl hnews h1 hroom
      rw [hr] at hr2
      simp only [Result.ok.injEq] at hr2
      obtain ⟨rfl, rfl⟩ := hr2
      refine ⟨⟨hg2.os, hg2.tape, hg2.output, hg2.size, fun k hk => ?_⟩, fun hf => by have := hf g cap rfl; omega⟩
      by_cases hkg : k = g
      · subst hkg
        right
        refine ⟨hbg, ?_⟩
        rcases ho2.2 with ⟨he, -⟩ | ⟨g', cap', cur', he, -, hg', -, -, hcs', ht'⟩
        · simp at he
        · simp only [Value.slice.injEq, Option.some.injEq, Addr.mk.injEq, and_true, true_and] at he
          obtain ⟨rfl, rfl⟩ := he
          refine ⟨cur, cur', e, hg0, hg', by rw [hcs, hcs'], ?_⟩
          have e1 := congrArg (List.take (n * size)) ht'
          rw [List.take_take, Nat.min_eq_left (Nat.mul_le_mul_right _ (Nat.le_add_right _ _)), ← hown.1, List.take_left] at e1
          rw [← hown.1, e1, hown.1]; exact htake.symm
      · exact .inl (hg2.block k hk (by simpa using hkg))
    · have hb2 : (n + m) * i.bytes ≤ 140737488355328 := by rw [hby]; exact hbytes
      have hr2 := run_append_grow (P := P) w t ty e i z ht hi hz ⟨g, 0, none⟩ n cap xs (by rw [hsize]; exact hown.1) (hown.cells (g := g) rfl) a m c news (by rw [hsize]; exact hl) hnews (by omega) (by simp only [maxLen] at h63; omega) (growslice_fits (by omega) hb2)
      rw [hr] at hr2
      simp only [Result.ok.injEq] at hr2
      obtain ⟨rfl, rfl⟩ := hr2
      have hx : Ext w (w.drew.alloc (.cells (xs.toArray ++ news.toArray ++ Builtin.zeroCells z.cells (grownCap w (n + m) cap e - (n + m))) e)) := (ext_drew w).alloc _
      exact ⟨Grew.of_ext hx, fun _ => hx⟩
theorem stepG_append_grew {o : Oper} {a : Act} {w : World} {S : Value → World → Prop} (hgd : o.guard = none) (s x : Operand) (t : TypeId)
    (ho : o.op = .call { callee := .builtin .append, args := #[s, x], argTypes := #[t, t] })
    (base : Nat) (e : TypeId) (i : TypeInfo) (z : Value) (size bytes : Nat) (ht : P.underlying t = some (.slice e)) (hi : P.info? e = some i) (hz : i.zero = some z)
    (hsize : i.size = size) (hby : i.bytes = bytes) (hzs : z.cells.size = size) (hsz : 0 < size)
    (v : Value) (n : Nat) (xs : List Value) (hs : a.eval s = v) (hown : w.ownsRow base e size v n xs)
    (ad : Addr) (m c : Nat) (news : List Value) (hx : a.eval x = .slice (some ad) m c) (hl : news.length = m * size) (hnews : ∀ j u, news[j]? = some u → w.cell? (ad.add j) = some u) (h1 : ∀ u ∈ news, u.oneCell' = true)
    (h63 : n + m ≤ maxLen) (hbytes : (n + m) * bytes ≤ 140737488355328) (hbase : base ≤ w.heap.size)
    (h : ∀ v' w', w'.ownsRow base e size v' (n + m) (xs ++ news) → Grew base (n * size) w w' → ((∀ g cap, v = .slice (some ⟨g, 0, none⟩) n cap → cap < n + m) → Ext w w') → S v' w') : stepG P ops o a w S := by
  obtain ⟨v', w', hr, h2, h3, h4⟩ := run_append_grew (P := P) base t o.type e i z size bytes ht hi hz hsize hby hzs hsz v n xs hown ad m c news hl hnews h1 h63 hbytes hbase
  unfold stepG
  have hw : Region.wanted o (yielded ops a.tmps) = true := by unfold Region.wanted; rw [hgd]
  rw [if_pos hw]
  unfold execOp
  simp only [ho, resolve, invoke, builtin, Sem.run_bind, Sem.run_pure, Result.andThen_ok, List.map_toArray, List.map_cons, List.map_nil, hs, hx, hr]
  exact h v' w' h2 h3 h4
/-- onto a row, of nothing -/
theorem stepG_append_none {o : Oper} {a : Act} {w : World} {S : Value → World → Prop} (hgd : o.guard = none) (s x : Operand) (t : TypeId)
    (ho : o.op = .call { callee := .builtin .append, args := #[s, x], argTypes := #[t, t] })
    (base : Nat) (e : TypeId) (i : TypeInfo) (size : Nat) (ht : P.underlying t = some (.slice e)) (hi : P.info? e = some i)
    (v : Value) (n : Nat) (xs : List Value) (hs : a.eval s = v) (hown : w.ownsRow base e size v n xs) (hx : a.eval x = .slice none 0 0)
    (h : S v w) : stepG P ops o a w S := by
  have hrun := run_append_owned_none (P := P) (w := w) base t o.type e i size ht hi v n xs hown
  unfold stepG
  have hw : Region.wanted o (yielded ops a.tmps) = true := by unfold Region.wanted; rw [hgd]
  rw [if_pos hw]
  unfold execOp
  simp only [ho, resolve, invoke, builtin, Sem.run_bind, Sem.run_pure, Result.andThen_ok, List.map_toArray, List.map_cons, List.map_nil, hs, hx, hrun]
  exact h
end Facts.App
end Go.Proofs.YtcamegaimleomaaGreat

namespace Go.Proofs.YtcamegaimleomaaGreat
set_option linter.unusedSimpArgs false
set_option linter.unusedVariables false
open Go.RowKit
namespace Facts
theorem wp_frame {P : Program} {c : Code} {Q : Exit → Act → World → Prop} {a : Act} {w : World} (h : ∀ A : Act, A = a → Code.wp P c Q A w) : Code.wp P c Q a w := h a rfl
theorem eval_put_same (a : Act) (t : Nat) (v : Value) (h : t < a.tmps.size) : (a.put (some t) v).eval (.tmp t) = v := by
  simp only [Act.put, Act.eval]
  rw [Array.getD_eq_getD_getElem?, Array.getElem?_setIfInBounds_self, if_pos h]; rfl
theorem eval_put_other (a : Act) (d t : Nat) (v : Value) (h : d ≠ t) : (a.put (some d) v).eval (.tmp t) = a.eval (.tmp t) := by
  simp only [Act.put, Act.eval]
  rw [Array.getD_eq_getD_getElem?, Array.getD_eq_getD_getElem?, Array.getElem?_setIfInBounds_ne h]
theorem eval_put_none (a : Act) (v : Value) (o : Operand) : (a.put none v).eval o = a.eval o := rfl
theorem eval_const (a : Act) (v : Value) : a.eval (.const v) = v := rfl
theorem eval_func (a : Act) (f : FuncId) : a.eval (.func f) = .func (.func f) #[] #[] := rfl
theorem size_put (a : Act) (d : Option Tmp) (v : Value) : (a.put d v).tmps.size = a.tmps.size := put_size a d v
end Facts
end Go.Proofs.YtcamegaimleomaaGreat

namespace Go.Proofs.YtcamegaimleomaaGreat
set_option linter.unusedSimpArgs false
set_option linter.unusedVariables false
open Go.RowKit
def findBlock (n : Nat) : Code → Option Code
  | .block i c => if i = n then some (.block i c) else findBlock n c
  | .seq a b => match findBlock n a with
    | some c => some c
    | none => findBlock n b
  | .loop c => findBlock n c
  | .scope c => findBlock n c
  | .cond _ a b => match findBlock n a with
    | some c => some c
    | none => findBlock n b
  | _ => none
def findCond (t : Nat) : Code → Option Code
  | .cond (.tmp i) a b => if i = t then some (.cond (.tmp i) a b) else match findCond t a with
    | some c => some c
    | none => findCond t b
  | .seq a b => match findCond t a with
    | some c => some c
    | none => findCond t b
  | .loop c => findCond t c
  | .scope c => findCond t c
  | .block _ c => findCond t c
  | _ => none
noncomputable def blockOf (f : Func) (n : Nat) : Code := ((f.body.bind (findBlock n)).getD .skip)
noncomputable def condOf (f : Func) (n : Nat) : Code := ((f.body.bind (findCond n)).getD .skip)
end Go.Proofs.YtcamegaimleomaaGreat

namespace Go.Proofs.YtcamegaimleomaaGreat
set_option linter.unusedSimpArgs false
set_option linter.unusedVariables false
open Go.RowKit
def findRegion (n : Nat) : Code → Option Code
  | .region i ops d => if i = n then some (.region i ops d) else none
  | .block _ c => findRegion n c
  | .seq a b => match findRegion n a with
    | some c => some c
    | none => findRegion n b
  | .loop c => findRegion n c
  | .scope c => findRegion n c
  | .cond _ a b => match findRegion n a with
    | some c => some c
    | none => findRegion n b
  | _ => none
noncomputable def regionOf (f : Func) (n : Nat) : Code := ((f.body.bind (findRegion n)).getD .skip)
end Go.Proofs.YtcamegaimleomaaGreat

namespace Go.Proofs.YtcamegaimleomaaGreat
set_option linter.unusedSimpArgs false
set_option linter.unusedVariables false
open Go.RowKit
set_option linter.unusedVariables false
set_option linter.unusedSimpArgs false

/-- what the first branch asks -/
def b8M (f t : List ByteArray) (i k nn : Nat) : Bool := decide (i < f.length) && (decide (k < t.length) && ((f.getD i ByteArray.empty).toList == (t.getD k ByteArray.empty).toList && ((lsAt f t (i + 1) (k + 1) : Int) == (nn : Int))))
/-- .. and the second one -/
def b11M (f t : List ByteArray) (i k nn : Nat) : Bool := decide (i < f.length) && (decide (k < t.length) && (!((f.getD i ByteArray.empty).toList == (t.getD k ByteArray.empty).toList) && ((lsAt f t (i + 1) (k + 1) : Int) + 1 == (nn : Int))))
set_option maxRecDepth 100000 in
set_option maxHeartbeats 4000000 in
theorem marks_r8 {u2 u3 u4 u6 u10 u11 u12 u13 u14 u15 u16 u17 u18 u19 u20 u21 u22 u23 u24 u25 u26 u27 u28 u29 u30 u31 u32 u33 u34 u35 u36 u37 u38 u39 u40 u41 u42 u43 u44 u45 u46 u47 u48 u49 u50 u51 u52 u53 u54 u55 u56 u57 u58 u59 u60 u61 u62 u63 u64 u65 u66 u67 u68 u69 u70 u71 u72 u73 u74 u75 u76 u77 u78 u79 u80 u81 u82 u83 u84 u85 u86 u87 u88 u89 u90 u91 u92 u93 u94 u95 u96 u97 u98 u99 u100 u101 u102 u103 u104 u105 u106 u107 u108 u109 u110 u111 u112 u113 u114 u115 u116 u117 u118 u119 u120 u121 u122 u123 u124 u125 u126 u127 u128 u129 u130 u131 u132 u133 u134 u135 u136 u137 u138 u139 u140 u141 u142 u143 u144 u145 u146 u147 u148 u149 u150 u151 u152 u153 u154 u155 : Value} {fa ta : Option Addr} {fc tc G i k nn : Nat} {h : Nat → Value} {f t : List ByteArray} {w : World} (hf : StrsAt w (.slice fa f.length fc) f) (ht : StrsAt w (.slice ta t.length tc) t) (hrow : RowAtV w G (f.length + 1) h) (hrs : RowsF f t w G h 0) (hf1 : f.length ≤ 100) (ht1 : t.length ≤ 100) (hi : i ≤ f.length) (hk : k ≤ t.length) (Q : Exit → Act → World → Prop)
    (hQ : ∀ (v41 v42 v43 v44 v45 v46 v47 v48 v49 v50 v51 v52 v53 v54 v55 v56 v57 v58 v59 v60 v61 v62 v63 v64 v65 v66 v67 v68 v69 v70 v71 v72 v73 v74 : Value) (wc : World), Ext w wc → Q .normal ⟨#[.slice fa f.length fc, .slice ta t.length tc, u2, u3, u4, .slice (some ⟨G, 0, none⟩) (f.length + 1) (f.length + 1), u6, .int .i64 i, .int .i64 k, .int .i64 nn, u10, u11, u12, u13, u14, u15, u16, u17, u18, u19, u20, u21, u22, u23, u24, u25, u26, u27, u28, u29, u30, u31, u32, u33, u34, u35, u36, u37, u38, u39, .bool (b8M f t i k nn), v41, v42, v43, v44, v45, v46, v47, v48, v49, v50, v51, v52, v53, v54, v55, v56, v57, v58, v59, v60, v61, v62, v63, v64, v65, v66, v67, v68, v69, v70, v71, v72, v73, v74, u75, u76, u77, u78, u79, u80, u81, u82, u83, u84, u85, u86, u87, u88, u89, u90, u91, u92, u93, u94, u95, u96, u97, u98, u99, u100, u101, u102, u103, u104, u105, u106, u107, u108, u109, u110, u111, u112, u113, u114, u115, u116, u117, u118, u119, u120, u121, u122, u123, u124, u125, u126, u127, u128, u129, u130, u131, u132, u133, u134, u135, u136, u137, u138, u139, u140, u141, u142, u143, u144, u145, u146, u147, u148, u149, u150, u151, u152, u153, u154, u155], []⟩ wc) :
    Code.wp Tryz.prog (regionOf Tryz.f58 8) Q ⟨#[.slice fa f.length fc, .slice ta t.length tc, u2, u3, u4, .slice (some ⟨G, 0, none⟩) (f.length + 1) (f.length + 1), u6, .int .i64 i, .int .i64 k, .int .i64 nn, u10, u11, u12, u13, u14, u15, u16, u17, u18, u19, u20, u21, u22, u23, u24, u25, u26, u27, u28, u29, u30, u31, u32, u33, u34, u35, u36, u37, u38, u39, u40, u41, u42, u43, u44, u45, u46, u47, u48, u49, u50, u51, u52, u53, u54, u55, u56, u57, u58, u59, u60, u61, u62, u63, u64, u65, u66, u67, u68, u69, u70, u71, u72, u73, u74, u75, u76, u77, u78, u79, u80, u81, u82, u83, u84, u85, u86, u87, u88, u89, u90, u91, u92, u93, u94, u95, u96, u97, u98, u99, u100, u101, u102, u103, u104, u105, u106, u107, u108, u109, u110, u111, u112, u113, u114, u115, u116, u117, u118, u119, u120, u121, u122, u123, u124, u125, u126, u127, u128, u129, u130, u131, u132, u133, u134, u135, u136, u137, u138, u139, u140, u141, u142, u143, u144, u145, u146, u147, u148, u149, u150, u151, u152, u153, u154, u155], []⟩ w := by
  conv => arg 2; whnf
  have HQ := Lib.hid hQ
  clear hQ
  apply Facts.wp_frame
  intro A hA
  have HA := Lib.hid hA
  have f5 : ∀ h, A.tmps[5]'h = .slice (some ⟨G, 0, none⟩) (f.length + 1) (f.length + 1) := by rw [hA]; exact fun _ => rfl
  have f7 : ∀ h, A.tmps[7]'h = .int .i64 i := by rw [hA]; exact fun _ => rfl
  have f8 : ∀ h, A.tmps[8]'h = .int .i64 k := by rw [hA]; exact fun _ => rfl
  have f9 : ∀ h, A.tmps[9]'h = .int .i64 nn := by rw [hA]; exact fun _ => rfl
  have fsz : A.tmps.size = 156 := by rw [hA]; rfl
  have f0 : ∀ h, A.tmps[0]'h = .slice fa f.length fc := by rw [hA]; exact fun _ => rfl
  have f1 : ∀ h, A.tmps[1]'h = .slice ta t.length tc := by rw [hA]; exact fun _ => rfl
  clear hA
  by_cases h1 : i < f.length
  · have h1' : (i : Int) < (f.length : Int) := by omega
    by_cases h2 : k < t.length
    · have h2' : (k : Int) < (t.length : Int) := by omega
      obtain ⟨fb, fo, rfl, d0, -⟩ := SliceAt.get hf h1
      obtain ⟨tb, qo, rfl, d1, -⟩ := SliceAt.get ht h2
      obtain ⟨g, eg, hGg, hrg⟩ := hrs (i + 1) (Nat.zero_le _) (by omega)
      have r0 := (hrow (i + 1) (by omega)).1
      rw [eg] at r0
      have c11 := (hrg (k + 1) (by omega)).1
      simp only at c11
      have b11 := lsAt_le f t (i + 1) (k + 1)
      have hb8 : b8M f t i k nn = ((f[i]).toList == (t[k]).toList && ((lsAt f t (i + 1) (k + 1) : Int) == (nn : Int))) := by
        unfold b8M
        rw [decide_eq_true h1, decide_eq_true h2, List.getD_eq_getElem?_getD, List.getElem?_eq_getElem h1, List.getD_eq_getElem?_getD, List.getElem?_eq_getElem h2]
        rfl
      rw [Nat.mul_one] at d0 d1
      generalize f[i] = fw at *
      generalize t[k] = tw at *
      generalize lsAt f t (i + 1) (k + 1) = a11 at *
      obtain ⟨i1, hi1⟩ : ∃ i1, i1 = i + 1 := ⟨_, rfl⟩
      obtain ⟨k1, hk1⟩ : ∃ k1, k1 = k + 1 := ⟨_, rfl⟩
      rw [← hi1] at r0
      rw [← hk1] at c11
      have wi1 : IntKind.i64.wrap ((i : Int) + 1) = (i1 : Int) := by rw [hi1]; exact IntWalk.i64_in _ (by omega)
      have wk1 : IntKind.i64.wrap ((k : Int) + 1) = (k1 : Int) := by rw [hk1]; exact IntWalk.i64_in _ (by omega)
      have wa1 : IntKind.i64.wrap ((a11 : Int) + 1) = (a11 : Int) + 1 := IntWalk.i64_in _ (by omega)
      have li1 : (i1 : Int) < (f.length : Int) + 1 := by omega
      have lk1 : (k1 : Int) < (t.length : Int) + 1 := by omega
      obtain ⟨bb, hbb⟩ : ∃ bb, ((a11 : Int) == (nn : Int)) = bb := ⟨_, rfl⟩
      rw [hbb] at hb8
      clear hf ht hrow hrs hrg eg hi1 hk1
      cases hq : fw.toList == tw.toList
      all_goals
        rw [hq] at hb8
        simp only [Bool.false_and, Bool.true_and, Bool.not_false, Bool.not_true] at hb8
        rw [hb8] at HQ
        clear hb8
        apply Facts.wp_region (.val _ :: .val _ :: .val _ :: .val _ :: .val _ :: .val _ :: .val _ :: .val _ :: .val _ :: .val _ :: .val _ :: .val _ :: .val _ :: .val _ :: .val _ :: .val _ :: .val _ :: .val _ :: .val _ :: .val _ :: .val _ :: .val _ :: .val _ :: .val _ :: .val _ :: .val _ :: .val _ :: .val _ :: .val _ :: .val _ :: .val _ :: .val _ :: .val _ :: .val _ :: .val _ :: []) (by kernel_rfl) (by kernel_rfl) trivial ?main
        case main =>
          iterate 35 (refine ⟨fun w1 hx hh => ?_, ?_⟩; focus (clear hh; have e0 := hx.cell d0; have e1 := hx.cell d1; have e2 := hx.cell r0; have e3 := hx.cell c11; go_simp; first | exact ⟨Ext.refl _, rfl⟩ | exact Ext.refl _))
          intro w5 hx hh
          clear hh
          have hA := HA.out
          subst hA
          have hQ := HQ.out
          go_simp
          exact hQ _ _ _ _ _ _ _ _ _ _ _ _ _ _ _ _ _ _ _ _ _ _ _ _ _ _ _ _ _ _ _ _ _ _ w5 hx
    · have h2' : ¬ (k : Int) < (t.length : Int) := by omega
      have hb8 : b8M f t i k nn = false := by
        unfold b8M
        rw [decide_eq_false h2]
        simp
      rw [hb8] at HQ
      clear hf ht hrow hrs
      apply Facts.wp_region (.val _ :: .val _ :: .val _ :: .val _ :: .val _ :: .val _ :: .val _ :: .val _ :: .val _ :: .val _ :: .val _ :: .val _ :: .val _ :: .val _ :: .val _ :: .val _ :: .val _ :: .val _ :: .val _ :: .val _ :: .val _ :: .val _ :: .val _ :: .val _ :: .val _ :: .val _ :: .val _ :: .val _ :: .val _ :: .val _ :: .val _ :: .val _ :: .val _ :: .val _ :: .val _ :: []) (by kernel_rfl) (by kernel_rfl) trivial ?main
      case main =>
        iterate 35 (refine ⟨fun w1 hx hh => ?_, ?_⟩; focus (clear hh; skip; go_simp; first | exact ⟨Ext.refl _, rfl⟩ | exact Ext.refl _))
        intro w5 hx hh
        clear hh
        have hA := HA.out
        subst hA
        go_simp
        exact HQ.out _ _ _ _ _ _ _ _ _ _ _ _ _ _ _ _ _ _ _ _ _ _ _ _ _ _ _ _ _ _ _ _ _ _ w5 hx
  · have h1' : ¬ (i : Int) < (f.length : Int) := by omega
    have hb8 : b8M f t i k nn = false := by
      unfold b8M
      rw [decide_eq_false h1]
      simp
    rw [hb8] at HQ
    clear hf ht hrow hrs
    apply Facts.wp_region (.val _ :: .val _ :: .val _ :: .val _ :: .val _ :: .val _ :: .val _ :: .val _ :: .val _ :: .val _ :: .val _ :: .val _ :: .val _ :: .val _ :: .val _ :: .val _ :: .val _ :: .val _ :: .val _ :: .val _ :: .val _ :: .val _ :: .val _ :: .val _ :: .val _ :: .val _ :: .val _ :: .val _ :: .val _ :: .val _ :: .val _ :: .val _ :: .val _ :: .val _ :: .val _ :: []) (by kernel_rfl) (by kernel_rfl) trivial ?main
    case main =>
      iterate 35 (refine ⟨fun w1 hx hh => ?_, ?_⟩; focus (clear hh; skip; go_simp; first | exact ⟨Ext.refl _, rfl⟩ | exact Ext.refl _))
      intro w5 hx hh
      clear hh
      have hA := HA.out
      subst hA
      go_simp
      exact HQ.out _ _ _ _ _ _ _ _ _ _ _ _ _ _ _ _ _ _ _ _ _ _ _ _ _ _ _ _ _ _ _ _ _ _ w5 hx
set_option maxRecDepth 100000 in
set_option maxHeartbeats 4000000 in
theorem marks_r11 {u2 u3 u4 u6 u10 u11 u12 u13 u14 u15 u16 u17 u18 u19 u20 u21 u22 u23 u24 u25 u26 u27 u28 u29 u30 u31 u32 u33 u34 u35 u36 u37 u38 u39 u40 u41 u42 u43 u44 u45 u46 u47 u48 u49 u50 u51 u52 u53 u54 u55 u56 u57 u58 u59 u60 u61 u62 u63 u64 u65 u66 u67 u68 u69 u70 u71 u72 u73 u74 u75 u76 u77 u78 u79 u80 u81 u82 u83 u84 u85 u86 u87 u88 u89 u90 u91 u92 u93 u94 u95 u96 u97 u98 u99 u100 u101 u102 u103 u104 u105 u106 u107 u108 u109 u110 u111 u112 u113 u114 u115 u116 u117 u118 u119 u120 u121 u122 u123 u124 u125 u126 u127 u128 u129 u130 u131 u132 u133 u134 u135 u136 u137 u138 u139 u140 u141 u142 u143 u144 u145 u146 u147 u148 u149 u150 u151 u152 u153 u154 u155 : Value} {fa ta : Option Addr} {fc tc G i k nn : Nat} {h : Nat → Value} {f t : List ByteArray} {w : World} (hf : StrsAt w (.slice fa f.length fc) f) (ht : StrsAt w (.slice ta t.length tc) t) (hrow : RowAtV w G (f.length + 1) h) (hrs : RowsF f t w G h 0) (hf1 : f.length ≤ 100) (ht1 : t.length ≤ 100) (hi : i ≤ f.length) (hk : k ≤ t.length) (Q : Exit → Act → World → Prop)
    (hQ : ∀ (v84 v85 v86 v87 v88 v89 v90 v91 v92 v93 v94 v95 v96 v97 v98 v99 v100 v101 v102 v103 v104 v105 v106 v107 v108 v109 v110 v111 v112 v113 v114 v115 v116 v117 v118 : Value) (wc : World), Ext w wc → Q .normal ⟨#[.slice fa f.length fc, .slice ta t.length tc, u2, u3, u4, .slice (some ⟨G, 0, none⟩) (f.length + 1) (f.length + 1), u6, .int .i64 i, .int .i64 k, .int .i64 nn, u10, u11, u12, u13, u14, u15, u16, u17, u18, u19, u20, u21, u22, u23, u24, u25, u26, u27, u28, u29, u30, u31, u32, u33, u34, u35, u36, u37, u38, u39, u40, u41, u42, u43, u44, u45, u46, u47, u48, u49, u50, u51, u52, u53, u54, u55, u56, u57, u58, u59, u60, u61, u62, u63, u64, u65, u66, u67, u68, u69, u70, u71, u72, u73, u74, u75, u76, u77, u78, u79, u80, u81, u82, .bool (b11M f t i k nn), v84, v85, v86, v87, v88, v89, v90, v91, v92, v93, v94, v95, v96, v97, v98, v99, v100, v101, v102, v103, v104, v105, v106, v107, v108, v109, v110, v111, v112, v113, v114, v115, v116, v117, v118, u119, u120, u121, u122, u123, u124, u125, u126, u127, u128, u129, u130, u131, u132, u133, u134, u135, u136, u137, u138, u139, u140, u141, u142, u143, u144, u145, u146, u147, u148, u149, u150, u151, u152, u153, u154, u155], []⟩ wc) :
    Code.wp Tryz.prog (regionOf Tryz.f58 11) Q ⟨#[.slice fa f.length fc, .slice ta t.length tc, u2, u3, u4, .slice (some ⟨G, 0, none⟩) (f.length + 1) (f.length + 1), u6, .int .i64 i, .int .i64 k, .int .i64 nn, u10, u11, u12, u13, u14, u15, u16, u17, u18, u19, u20, u21, u22, u23, u24, u25, u26, u27, u28, u29, u30, u31, u32, u33, u34, u35, u36, u37, u38, u39, u40, u41, u42, u43, u44, u45, u46, u47, u48, u49, u50, u51, u52, u53, u54, u55, u56, u57, u58, u59, u60, u61, u62, u63, u64, u65, u66, u67, u68, u69, u70, u71, u72, u73, u74, u75, u76, u77, u78, u79, u80, u81, u82, u83, u84, u85, u86, u87, u88, u89, u90, u91, u92, u93, u94, u95, u96, u97, u98, u99, u100, u101, u102, u103, u104, u105, u106, u107, u108, u109, u110, u111, u112, u113, u114, u115, u116, u117, u118, u119, u120, u121, u122, u123, u124, u125, u126, u127, u128, u129, u130, u131, u132, u133, u134, u135, u136, u137, u138, u139, u140, u141, u142, u143, u144, u145, u146, u147, u148, u149, u150, u151, u152, u153, u154, u155], []⟩ w := by
  conv => arg 2; whnf
  have HQ := Lib.hid hQ
  clear hQ
  apply Facts.wp_frame
  intro A hA
  have HA := Lib.hid hA
  have f5 : ∀ h, A.tmps[5]'h = .slice (some ⟨G, 0, none⟩) (f.length + 1) (f.length + 1) := by rw [hA]; exact fun _ => rfl
  have f7 : ∀ h, A.tmps[7]'h = .int .i64 i := by rw [hA]; exact fun _ => rfl
  have f8 : ∀ h, A.tmps[8]'h = .int .i64 k := by rw [hA]; exact fun _ => rfl
  have f9 : ∀ h, A.tmps[9]'h = .int .i64 nn := by rw [hA]; exact fun _ => rfl
  have fsz : A.tmps.size = 156 := by rw [hA]; rfl
  have f0 : ∀ h, A.tmps[0]'h = .slice fa f.length fc := by rw [hA]; exact fun _ => rfl
  have f1 : ∀ h, A.tmps[1]'h = .slice ta t.length tc := by rw [hA]; exact fun _ => rfl
  clear hA
  by_cases h1 : i < f.length
  · have h1' : (i : Int) < (f.length : Int) := by omega
    by_cases h2 : k < t.length
    · have h2' : (k : Int) < (t.length : Int) := by omega
      obtain ⟨fb, fo, rfl, d0, -⟩ := SliceAt.get hf h1
      obtain ⟨tb, qo, rfl, d1, -⟩ := SliceAt.get ht h2
      obtain ⟨g, eg, hGg, hrg⟩ := hrs (i + 1) (Nat.zero_le _) (by omega)
      have r0 := (hrow (i + 1) (by omega)).1
      rw [eg] at r0
      have c11 := (hrg (k + 1) (by omega)).1
      simp only at c11
      have b11 := lsAt_le f t (i + 1) (k + 1)
      have hb8 : b11M f t i k nn = (!((f[i]).toList == (t[k]).toList) && ((lsAt f t (i + 1) (k + 1) : Int) + 1 == (nn : Int))) := by
        unfold b11M
        rw [decide_eq_true h1, decide_eq_true h2, List.getD_eq_getElem?_getD, List.getElem?_eq_getElem h1, List.getD_eq_getElem?_getD, List.getElem?_eq_getElem h2]
        rfl
      rw [Nat.mul_one] at d0 d1
      generalize f[i] = fw at *
      generalize t[k] = tw at *
      generalize lsAt f t (i + 1) (k + 1) = a11 at *
      obtain ⟨i1, hi1⟩ : ∃ i1, i1 = i + 1 := ⟨_, rfl⟩
      obtain ⟨k1, hk1⟩ : ∃ k1, k1 = k + 1 := ⟨_, rfl⟩
      rw [← hi1] at r0
      rw [← hk1] at c11
      have wi1 : IntKind.i64.wrap ((i : Int) + 1) = (i1 : Int) := by rw [hi1]; exact IntWalk.i64_in _ (by omega)
      have wk1 : IntKind.i64.wrap ((k : Int) + 1) = (k1 : Int) := by rw [hk1]; exact IntWalk.i64_in _ (by omega)
      have wa1 : IntKind.i64.wrap ((a11 : Int) + 1) = (a11 : Int) + 1 := IntWalk.i64_in _ (by omega)
      have li1 : (i1 : Int) < (f.length : Int) + 1 := by omega
      have lk1 : (k1 : Int) < (t.length : Int) + 1 := by omega
      obtain ⟨bb, hbb⟩ : ∃ bb, ((a11 : Int) + 1 == (nn : Int)) = bb := ⟨_, rfl⟩
      rw [hbb] at hb8
      clear hf ht hrow hrs hrg eg hi1 hk1
      cases hq : fw.toList == tw.toList
      all_goals
        rw [hq] at hb8
        simp only [Bool.false_and, Bool.true_and, Bool.not_false, Bool.not_true] at hb8
        rw [hb8] at HQ
        clear hb8
        apply Facts.wp_region (.val _ :: .val _ :: .val _ :: .val _ :: .val _ :: .val _ :: .val _ :: .val _ :: .val _ :: .val _ :: .val _ :: .val _ :: .val _ :: .val _ :: .val _ :: .val _ :: .val _ :: .val _ :: .val _ :: .val _ :: .val _ :: .val _ :: .val _ :: .val _ :: .val _ :: .val _ :: .val _ :: .val _ :: .val _ :: .val _ :: .val _ :: .val _ :: .val _ :: .val _ :: .val _ :: .val _ :: []) (by kernel_rfl) (by kernel_rfl) trivial ?main
        case main =>
          iterate 36 (refine ⟨fun w1 hx hh => ?_, ?_⟩; focus (clear hh; have e0 := hx.cell d0; have e1 := hx.cell d1; have e2 := hx.cell r0; have e3 := hx.cell c11; go_simp; first | exact ⟨Ext.refl _, rfl⟩ | exact Ext.refl _))
          intro w5 hx hh
          clear hh
          have hA := HA.out
          subst hA
          have hQ := HQ.out
          go_simp
          exact hQ _ _ _ _ _ _ _ _ _ _ _ _ _ _ _ _ _ _ _ _ _ _ _ _ _ _ _ _ _ _ _ _ _ _ _ w5 hx
    · have h2' : ¬ (k : Int) < (t.length : Int) := by omega
      have hb8 : b11M f t i k nn = false := by
        unfold b11M
        rw [decide_eq_false h2]
        simp
      rw [hb8] at HQ
      clear hf ht hrow hrs
      apply Facts.wp_region (.val _ :: .val _ :: .val _ :: .val _ :: .val _ :: .val _ :: .val _ :: .val _ :: .val _ :: .val _ :: .val _ :: .val _ :: .val _ :: .val _ :: .val _ :: .val _ :: .val _ :: .val _ :: .val _ :: .val _ :: .val _ :: .val _ :: .val _ :: .val _ :: .val _ :: .val _ :: .val _ :: .val _ :: .val _ :: .val _ :: .val _ :: .val _ :: .val _ :: .val _ :: .val _ :: .val _ :: []) (by kernel_rfl) (by kernel_rfl) trivial ?main
      case main =>
        iterate 36 (refine ⟨fun w1 hx hh => ?_, ?_⟩; focus (clear hh; skip; go_simp; first | exact ⟨Ext.refl _, rfl⟩ | exact Ext.refl _))
        intro w5 hx hh
        clear hh
        have hA := HA.out
        subst hA
        go_simp
        exact HQ.out _ _ _ _ _ _ _ _ _ _ _ _ _ _ _ _ _ _ _ _ _ _ _ _ _ _ _ _ _ _ _ _ _ _ _ w5 hx
  · have h1' : ¬ (i : Int) < (f.length : Int) := by omega
    have hb8 : b11M f t i k nn = false := by
      unfold b11M
      rw [decide_eq_false h1]
      simp
    rw [hb8] at HQ
    clear hf ht hrow hrs
    apply Facts.wp_region (.val _ :: .val _ :: .val _ :: .val _ :: .val _ :: .val _ :: .val _ :: .val _ :: .val _ :: .val _ :: .val _ :: .val _ :: .val _ :: .val _ :: .val _ :: .val _ :: .val _ :: .val _ :: .val _ :: .val _ :: .val _ :: .val _ :: .val _ :: .val _ :: .val _ :: .val _ :: .val _ :: .val _ :: .val _ :: .val _ :: .val _ :: .val _ :: .val _ :: .val _ :: .val _ :: .val _ :: []) (by kernel_rfl) (by kernel_rfl) trivial ?main
    case main =>
      iterate 36 (refine ⟨fun w1 hx hh => ?_, ?_⟩; focus (clear hh; skip; go_simp; first | exact ⟨Ext.refl _, rfl⟩ | exact Ext.refl _))
      intro w5 hx hh
      clear hh
      have hA := HA.out
      subst hA
      go_simp
      exact HQ.out _ _ _ _ _ _ _ _ _ _ _ _ _ _ _ _ _ _ _ _ _ _ _ _ _ _ _ _ _ _ _ _ _ _ _ w5 hx
end Go.Proofs.YtcamegaimleomaaGreat

namespace Go.Proofs.YtcamegaimleomaaGreat
set_option linter.unusedSimpArgs false
set_option linter.unusedVariables false
open Go.RowKit
set_option linter.unusedVariables false

theorem marksF_in : ∀ (n : Nat) (ws : List ByteArray) (ss : List Slot) (k : Mark), k ∈ marksF n ws ss → (∃ i : Nat, i ≤ 4 ∧ k.kind = i) ∧ (k.word = ByteArray.empty ∨ ∃ s ∈ ss, k.word = s.word)
  | 0, _, _, k, h => by simp [marksF] at h
  | n + 1, ws, ss, k, h => by
    rw [marksF] at h
    by_cases h0 : ws.length + ss.length = 0
    · rw [if_pos h0] at h; simp at h
    · rw [if_neg h0] at h
      obtain ⟨h1, h2, h3, h4, -, -⟩ := costM_which ws ss (by omega)
      rcases List.mem_cons.1 h with rfl | h
      · refine ⟨⟨_, h1, rfl⟩, ?_⟩
        show (if kWr (costM ws ss).1 = true then (ss.headD noSlot).word else ByteArray.empty) = _ ∨ ∃ s ∈ ss, (if kWr (costM ws ss).1 = true then (ss.headD noSlot).word else ByteArray.empty) = s.word
        by_cases hw : kWr (costM ws ss).1 = true
        · rw [if_pos hw]
          cases ss with
          | nil => rw [kWr_S _ hw] at h3; simp at h3
          | cons s ss => exact .inr ⟨s, List.mem_cons_self, rfl⟩
        · rw [if_neg hw]; exact .inl rfl
      · obtain ⟨k1, k2⟩ := marksF_in n _ _ k h
        refine ⟨k1, k2.imp id fun ⟨s, hs, e⟩ => ⟨s, List.mem_of_mem_drop hs, e⟩⟩
def fewErrM (f t : List ByteArray) : Int := if letterErrL f ≠ 0 then letterErrL f else letterErrL t
def fewMarksM (f t : List ByteArray) : List Mark := if fewErrM f t = 0 then marksM f (givenM t) else []
def fewManyM (f t : List ByteArray) : Nat := if fewErrM f t = 0 then (costM f (givenM t)).2 else 0
theorem few_ok {f t : List ByteArray} (h : fewErrM f t = 0) : letterErrL f = 0 ∧ letterErrL t = 0 := by
  unfold fewErrM at h
  by_cases h1 : letterErrL f = 0
  · rw [if_neg (by simpa using h1)] at h; exact ⟨h1, h⟩
  · rw [if_pos h1] at h; exact absurd h h1
theorem marks_sound (f t : List ByteArray) (ht : ∀ s ∈ t, wordM s = true) : ∀ k ∈ marksM f (givenM t), I64 k.kind ∧ k.word.size ≤ 9223372036854775807 := fun k hk => by
  obtain ⟨⟨i, hi, e⟩, h2⟩ := marksF_in _ _ _ k hk
  refine ⟨by rw [e]; constructor <;> omega, ?_⟩
  rcases h2 with h2 | ⟨s, hs, h2⟩
  · rw [h2]; simp
  · rw [h2]
    simp only [givenM, List.mem_map] at hs
    obtain ⟨x, hx, rfl⟩ := hs
    have := word_size (ht x hx)
    show x.size ≤ _
    omega
set_option maxRecDepth 100000 in
set_option maxHeartbeats 1500000 in
theorem Fewest_any (fv tv : Value) (f t : List ByteArray) (w : World) (hf : StrsAt w fv f) (ht : StrsAt w tv t) :
    Calls Tryz.prog 15 #[fv, tv] w fun e w' => ∃ u, e = .returned (.tuple #[u, .int .i64 (fewManyM f t), .int .i64 (fewErrM f t)]) ∧ MarksAt w' u (fewMarksM f t) ∧ Ext w w' := by
  obtain ⟨fa, fc, rfl, hfc, hfm⟩ := hf.shape
  obtain ⟨ta, tc, rfl, htc, htm⟩ := ht.shape
  go_enter Tryz.func15, Tryz.ntmps15
  go_wp2_with fail
  refine (letterError_any' _ f _ hf).mono ?_
  rintro e w1 ⟨rfl, hx1⟩
  obtain ⟨e1, he1⟩ : ∃ e, letterErrL f = e := ⟨_, rfl⟩
  rw [he1]
  by_cases h1 : e1 = 0
  · subst h1
    have He1 := Lib.hid he1
    clear he1
    go_wp2_with fail
    refine (letterError_any' _ t _ (ht.ext hx1)).mono ?_
    rintro e w2 ⟨rfl, hx2⟩
    obtain ⟨e2, he2⟩ : ∃ e, letterErrL t = e := ⟨_, rfl⟩
    rw [he2]
    have hfe : fewErrM f t = e2 := by unfold fewErrM; rw [if_neg (by rw [He1.out]; simp), he2]
    have He2 := Lib.hid he2
    have Hfe := Lib.hid hfe
    clear he2 hfe
    have x2 := hx1.trans hx2
    by_cases h2 : e2 = 0
    · subst h2
      obtain ⟨f15, hfw⟩ := lettErr_ok He1.out
      obtain ⟨t15, htw⟩ := lettErr_ok He2.out
      go_wp2_with fail
      refine (given_any _ t (by omega) _ (ht.ext x2)).mono ?_
      rintro e w3 ⟨u, rfl, hrow, hx3⟩
      have x3 := x2.trans hx3
      have hsl : SlotsAt w3 u (givenM t) := hrow.at_ fun s hs => by
        simp only [givenM, List.mem_map] at hs
        obtain ⟨x, hx, rfl⟩ := hs
        have := word_size (htw x hx)
        show x.size ≤ _
        omega
      have hgl : (givenM t).length = t.length := by simp [givenM]
      have Hgl := Lib.hid hgl
      have Htw := Lib.hid htw
      clear hrow hx1 hx2 hx3 htw hfw hgl
      have hm := mend_any (.slice fa f.length fc) u f (givenM t) w3 (hf.ext x3) hsl ⟨by omega, by rw [Hgl.out]; omega⟩
      obtain ⟨ua, uc, rfl, huc, hum⟩ := hsl.shape
      go_wp2_with fail
      refine hm.mono ?_
      rintro e w4 ⟨kb, B, M, rfl, hu4, hs4, hk4, hM4, hT4, hx4⟩
      have x4 := x3.trans hx4
      clear hm
      obtain ⟨mk, hmk⟩ : ∃ mk, marksM f (givenM t) = mk := ⟨_, rfl⟩
      obtain ⟨cm, hcm⟩ : ∃ cm, (costM f (givenM t)).2 = cm := ⟨_, rfl⟩
      have h00 : getP (0, 0) M = some (costM f (givenM t)) := by
        have := hT4.all 0 0 (Nat.zero_le _) (Nat.zero_le _)
        simpa [valM] using this
      unfold mendV
      go_wp2_with fail
      obtain ⟨W, hW⟩ : ∃ W, W = w4.alloc (.cells #[.slice fa f.length fc, .slice ua (givenM t).length uc, .slice (some ⟨kb, 0, none⟩) 5 5, .map (some B)] 108) := ⟨_, rfl⟩
      have xW : Ext w4 W := by rw [hW]; exact ext_alloc _ _
      have c0 : W.cell? ⟨w4.heap.size, 0, none⟩ = some (.slice fa f.length fc) := by rw [hW]; simp [go_sem]
      have c1 : W.cell? ⟨w4.heap.size, 1, none⟩ = some (.slice ua (givenM t).length uc) := by rw [hW]; simp [go_sem]
      have c2 : W.cell? ⟨w4.heap.size, 2, none⟩ = some (.slice (some ⟨kb, 0, none⟩) 5 5) := by rw [hW]; simp [go_sem]
      have c3 : W.cell? ⟨w4.heap.size, 3, none⟩ = some (.map (some B)) := by rw [hW]; simp [go_sem]
      have uW := hu4.ext xW
      have sW := hs4.ext xW
      have kW' := hk4.ext xW
      have mW := hM4.ext xW
      have hma := fun w x => marks_any _ _ f (givenM t) kb B M w (uW.ext x) (sW.ext x) (kW'.ext x) (mW.ext x) hT4 ⟨by omega, by rw [Hgl.out]; omega⟩
      have hfa := fun w (x : Ext W w) => fewest_any fa ua f.length (givenM t).length fc uc kb B M _ w (mW.ext x) h00
      rw [hmk] at hma
      rw [hcm] at hfa
      unfold mendV at hma hfa
      have Hmk := Lib.hid hmk
      have Hcm := Lib.hid hcm
      have Hx := Lib.hid (x4.trans xW)
      rw [← hW]
      clear hW hmk hcm uW sW kW' mW hu4 hs4 hk4 hM4 hT4 hx4 h00 hsl hf ht x2 x3 x4 xW
      apply Facts.wp_region [.val _, .fact (RowK W.heap.size mk), .val _, .val (.int .i64 (cm : Nat)), .fact (RowK W.heap.size mk), .val _, .val _] (by kernel_rfl) (by kernel_rfl) ⟨fun u a c hx h => h.ext hx, fun u a c hx h => h.ext hx, trivial⟩ ?main
      case main =>
        iterate 1 (refine ⟨fun w1 hx hh => ?_, ?_⟩; focus (clear hh; (have f0 := hx.cell c0; have f1 := hx.cell c1; have f2 := hx.cell c2; have f3 := hx.cell c3); go_simp; first | exact ⟨Ext.refl _, rfl⟩ | exact Ext.refl _))
        refine ⟨fun w1 hx hh => ?_, ?_⟩
        · clear hh
          go_simp
          refine (hma w1 hx).mono ?_
          rintro e w' ⟨v, rfl, hr, hx2⟩
          exact ⟨_, rfl, hx2, hr.lower hx.size⟩
        intro u25
        iterate 1 (refine ⟨fun w1 hx hh => ?_, ?_⟩; focus (clear hh; (have f0 := hx.cell c0; have f1 := hx.cell c1; have f2 := hx.cell c2; have f3 := hx.cell c3); go_simp; first | exact ⟨Ext.refl _, rfl⟩ | exact Ext.refl _))
        refine ⟨fun w1 hx hh => ?_, ?_⟩
        · clear hh
          go_simp
          refine (hfa w1 hx).mono ?_
          rintro e w' ⟨rfl, hx2⟩
          exact ⟨_, rfl, hx2, rfl⟩
        refine ⟨fun w1 hx hh => ?_, ?_⟩
        · have h25 : RowK W.heap.size mk u25 w1 := hh 1 _ List.mem_cons_self (by kernel_rfl)
          clear hh
          go_simp
          first | exact ⟨Ext.refl _, h25⟩ | exact Ext.refl _
        intro u4
        iterate 2 (refine ⟨fun w1 hx hh => ?_, ?_⟩; focus (clear hh; skip; go_simp; first | exact ⟨Ext.refl _, rfl⟩ | exact Ext.refl _))
        intro w5 hx hh
        have h4 : RowK W.heap.size mk u4 w5 := hh 4 _ List.mem_cons_self
        clear hh
        go_simp
        go_wp2
        have hms : MarksAt w5 u4 (fewMarksM f t) := by
          unfold fewMarksM
          rw [if_pos Hfe.out, Hmk.out]
          exact h4.at_ (by rw [← Hmk.out]; exact marks_sound f t Htw.out)
        have hfm : fewManyM f t = cm := by unfold fewManyM; rw [if_pos Hfe.out, Hcm.out]
        go_ret3
        exact ⟨u4, by rw [hfm, Hfe.out]; rfl, hms, Hx.out.trans hx⟩
    · have h2' : (e2 != 0) = true := by simpa using h2
      have hm : fewMarksM f t = [] := by unfold fewMarksM; rw [if_neg (by rw [Hfe.out]; exact h2)]
      have hn : fewManyM f t = 0 := by unfold fewManyM; rw [if_neg (by rw [Hfe.out]; exact h2)]
      clear h2
      go_wp2_with fail
      go_ret3
      exact ⟨_, by rw [hn, Hfe.out]; rfl, by rw [hm]; exact SliceAt.nil, x2⟩
  · have h1' : (e1 != 0) = true := by simpa using h1
    have he : fewErrM f t = e1 := by unfold fewErrM; rw [if_pos (by rw [he1]; exact h1), he1]
    have hm : fewMarksM f t = [] := by unfold fewMarksM; rw [if_neg (by rw [he]; exact h1)]
    have hn : fewManyM f t = 0 := by unfold fewManyM; rw [if_neg (by rw [he]; exact h1)]
    clear h1 he1
    go_wp2_with fail
    go_ret3
    exact ⟨_, by rw [hn, he]; rfl, by rw [hm]; exact SliceAt.nil, hx1⟩
end Go.Proofs.YtcamegaimleomaaGreat

namespace Go.Proofs.YtcamegaimleomaaGreat
set_option linter.unusedSimpArgs false
set_option linter.unusedVariables false
open Go.RowKit
set_option linter.unusedVariables false

/-- a form, if there is no error; nothing is said of it if there is one -/
def OpenH (w : World) (s : Shelf) (n : Int) (e : Int) (v : Value) : Prop := ∃ nm pa pn pc, v = .tuple #[.agg #[.string nm, .slice pa pn pc], .int .i64 e] ∧ (e = 0 → ∃ i : Nat, ∃ hi : i < s.forms.length, n = i ∧ FormV w (.agg #[.string nm, .slice pa pn pc]) s.forms[i])
set_option maxHeartbeats 1000000 in
set_option maxRecDepth 100000 in
theorem openForH_any (sv v : Value) (s : Shelf) (n : Int) (hn : I64 n) (l : List ByteArray) (W w : World) (hWx : Ext W w) (hsW : ShelfAt W sv s) (hl : StrsAt w v l) :
    Calls Tryz.prog 48 #[sv, .int .i64 n, v] w fun e w' => ∃ u, e = .returned u ∧ OpenH W s n (openForErrM s n l) u ∧ Ext w w' := by
  obtain ⟨a, c, rfl, hw, hc1, hc2, hf⟩ := hsW.open
  clear hf
  go_enter Tryz.func48, Tryz.ntmps48
  go_wp2_with fail
  refine (openF_any _ s n hn W _ (hWx.trans (by first | (with_reducible exact Ext.refl _) | (with_reducible assumption) | (show Below _ _ _; go_grown; done))) hsW).mono ?_
  rintro e w1 ⟨uu, rfl, ⟨u, rfl, h1, h2⟩, hx1⟩
  have x1 : Ext w w1 := Ext.trans (by first | (with_reducible exact Ext.refl _) | (with_reducible assumption) | (show Below _ _ _; go_grown; done)) hx1
  have q0 : w1.cell? ⟨w.heap.size + 1, 0, none⟩ = some (.string ⟨#[]⟩) := hx1.cell (by simp [go_sem])
  have q1 : w1.cell? ⟨w.heap.size + 1, 1, none⟩ = some (.slice none 0 0) := hx1.cell (by simp [go_sem])
  have z1 : w.heap.size + 1 < w1.heap.size := cell_lt q0
  have fz : ∀ o, w1.frozen? ⟨w.heap.size + 1, o, none⟩ = false := fun o => by rw [hx1.frozen (by simp)]; simp [go_sem]
  have f0 := fz 0
  have f1 := fz 1
  clear fz hx1
  obtain ⟨nm, pa, pn, pc, rfl⟩ : ∃ nm pa pn pc, u = .agg #[.string nm, .slice pa pn pc] := by
    by_cases h : openErrM s n = 0
    · obtain ⟨i, hi, -, uu, rfl, -, hp⟩ := h1 h
      obtain ⟨pa, pc, rfl, -⟩ := hp.shape
      exact ⟨_, _, _, _, rfl⟩
    · exact ⟨_, _, _, _, h2 h⟩
  clear h2
  have H1 := Lib.hid h1
  clear h1
  by_cases h0 : openErrM s n = 0
  · have ho : openForErrM s n l = letterErrL l := by rw [openForErrM, if_neg (by simpa using h0)]
    have hH := H1.out h0
    have Ho := Lib.hid ho
    have HH := Lib.hid hH
    rw [h0]
    clear ho hH h0 H1
    have hlw := hl.ext (x1.trans (ext_alloc w1 (.cells #[.string nm, .slice pa pn pc] 92)))
    go_wp2_with fail
    refine (letterError_any' _ l _ hlw).mono ?_
    rintro e w2 ⟨rfl, hx2⟩
    have x2 : Ext w1 w2 := hx2.of_alloc
    have b0 : w2.cell? ⟨w1.heap.size, 0, none⟩ = some (.string nm) := hx2.cell (by simp [go_sem])
    have b1 : w2.cell? ⟨w1.heap.size, 1, none⟩ = some (.slice pa pn pc) := hx2.cell (by simp [go_sem])
    have f0' := (x2.frozen (p := ⟨w.heap.size + 1, 0, none⟩) z1).trans f0
    have f1' := (x2.frozen (p := ⟨w.heap.size + 1, 1, none⟩) z1).trans f1
    replace q0 := x2.cell q0
    replace q1 := x2.cell q1
    replace z1 : w.heap.size + 1 < w2.heap.size := cell_lt q0
    have z2 : w1.heap.size < w2.heap.size := cell_lt b0
    clear f0 f1 hx2 hlw
    go_wp2_with fail
    have r := two_cells q0 q1 (.string nm) (.slice pa pn pc)
    refine bodyPost_ret (v := .tuple #[.agg #[.string nm, .slice pa pn pc], .int .i64 (letterErrL l)]) (by simp [results, Tryz.results48, go_sem, r.1, r.2]) rfl ⟨_, rfl, ⟨_, _, _, _, by rw [Ho.out], fun _ => ?_⟩, ((x1.trans x2).setCell (by simp) _).setCell (by simp) _⟩
    exact HH.out
  · have ho : openForErrM s n l = openErrM s n := by rw [openForErrM, if_pos h0]
    have h0' : (openErrM s n == 0) = false := by simpa using h0
    have H0 := Lib.hid h0
    have Ho := Lib.hid ho
    generalize openErrM s n = er at *
    clear ho h0
    go_wp2_with fail
    have r := two_cells q0 q1 (.string nm) (.slice pa pn pc)
    have r0 := (ext_alloc ((w1.setCell ⟨w.heap.size + 1, 0, none⟩ (.string nm)).setCell ⟨w.heap.size + 1, 1, none⟩ (.slice pa pn pc)) (.cells #[.string nm, .slice pa pn pc] 92)).cell r.1
    have r1 := (ext_alloc ((w1.setCell ⟨w.heap.size + 1, 0, none⟩ (.string nm)).setCell ⟨w.heap.size + 1, 1, none⟩ (.slice pa pn pc)) (.cells #[.string nm, .slice pa pn pc] 92)).cell r.2
    refine bodyPost_ret (v := .tuple #[.agg #[.string nm, .slice pa pn pc], .int .i64 er]) (by simp [results, Tryz.results48, go_sem, r0, r1]) rfl ⟨_, rfl, ⟨_, _, _, _, by rw [Ho.out], fun h => ?_⟩, ((x1.setCell (by simp) _).setCell (by simp) _).alloc _⟩
    rw [Ho.out] at h
    exact absurd h H0.out

theorem openFor_ok {s : Shelf} {n : Int} {l : List ByteArray} (h : openForErrM s n l = 0) : openErrM s n = 0 ∧ letterErrL l = 0 := by
  unfold openForErrM at h
  by_cases h1 : openErrM s n = 0
  · rw [if_neg (by simpa using h1)] at h; exact ⟨h1, h⟩
  · rw [if_pos h1] at h; exact absurd h h1
theorem formSlots_in {f : Form} (h : ValidForm f) : ∀ s ∈ formSlotsM f.parts, s.word.size ≤ 9223372036854775807 := by
  intro s hs
  simp only [formSlotsM, List.mem_flatMap, partSlotsM, givenM, roomSlotsM, List.mem_append, List.mem_map] at hs
  obtain ⟨p, hp, hs⟩ := hs
  rcases hs with ⟨x, hx, rfl⟩ | ⟨x, hx, rfl⟩
  · have := word_size (List.all_eq_true.1 (h.parts p hp).w x hx)
    show x.size ≤ _
    omega
  · simp
theorem Ext.form {w w' : World} {v : Value} {f : Form} (hx : Ext w w') (h : FormV w v f) : FormV w' v f := by
  obtain ⟨pv, e, h1, h2⟩ := h
  exact ⟨pv, e, h1, h2.ext hx⟩
def mendM (s : Shelf) (n : Int) (l : List ByteArray) : Nat := if openForErrM s n l = 0 then (match s.forms[n.toNat]? with | some f => (costM l (formSlotsM f.parts)).2 | none => 0) else 0
set_option maxRecDepth 100000 in
set_option maxHeartbeats 1500000 in
theorem Mend_any (sv v : Value) (s : Shelf) (n : Int) (hn : I64 n) (l : List ByteArray) (w : World) (hs : ShelfAt w sv s) (hl : StrsAt w v l) :
    Calls Tryz.prog 21 #[sv, .int .i64 n, v] w fun e w' => e = .returned (.tuple #[.int .i64 (mendM s n l), .int .i64 (openForErrM s n l)]) ∧ Ext w w' := by
  have hs0 := hs
  obtain ⟨a, c, rfl, hw, hc1, hc2, hf⟩ := hs.open
  obtain ⟨la, lc, rfl, -⟩ := hl.shape
  clear hf
  go_enter Tryz.func21, Tryz.ntmps21
  go_wp2_with fail
  refine (openForH_any _ _ s n hn l w _ (by first | (with_reducible exact Ext.refl _) | (with_reducible assumption) | (show Below _ _ _; go_grown; done)) hs0 (hl.ext (by first | (with_reducible exact Ext.refl _) | (with_reducible assumption) | (show Below _ _ _; go_grown; done)))).mono ?_
  rintro e w1 ⟨uu, rfl, ⟨nm, pa, pn, pc, rfl, h1⟩, hx1⟩
  have x1 : Ext w w1 := Ext.trans (by first | (with_reducible exact Ext.refl _) | (with_reducible assumption) | (show Below _ _ _; go_grown; done)) hx1
  obtain ⟨er, herr⟩ : ∃ er, openForErrM s n l = er := ⟨_, rfl⟩
  rw [herr] at h1 ⊢
  have Herr := Lib.hid herr
  clear hx1
  by_cases h0 : er = 0
  · subst h0
    obtain ⟨ho, hL⟩ := openFor_ok herr
    obtain ⟨i, hi, rfl, hF⟩ := h1 rfl
    have hV : ValidForm s.forms[i] := (openErr_ok ho).1.forms _ (List.getElem_mem hi)
    obtain ⟨h15, hwd⟩ := lettErr_ok hL
    have hm : mendM s i l = (costM l (formSlotsM s.forms[i].parts)).2 := by
      unfold mendM
      rw [if_pos herr]
      simp [hi]
    have h16 := formSlots_len hV.parts
    have h5 := hV.n
    have hFw := hF
    have Hm := Lib.hid hm
    clear herr hm h1
    generalize s.forms[i] = f at *
    have hfs := fun w' (hx : Ext w w') => formSlots_any (.agg #[.string nm, .slice pa pn pc]) f hV w' (hx.form hF)
    go_wp2_with fail
    refine (hfs _ (x1.alloc _)).mono ?_
    rintro e w2 ⟨u, rfl, hrow, hx2⟩
    have x2 : Ext w w2 := Ext.trans (x1.alloc _) hx2
    have hsl : SlotsAt w2 u (formSlotsM f.parts) := hrow.at_ (formSlots_in hV)
    have hl2 := hl.ext x2
    have hme := mend_any _ u l (formSlotsM f.parts) w2 hl2 hsl ⟨by omega, by omega⟩
    obtain ⟨ua, uc, rfl, huc, hum⟩ := hsl.shape
    clear hfs hrow hx2 hsl
    go_wp2_with fail
    refine hme.mono ?_
    rintro e w3 ⟨kb, B, M, rfl, -, -, -, hM, hT, hx3⟩
    have h00 : getP (0, 0) M = some (costM l (formSlotsM f.parts)) := by
      have := hT.all 0 0 (Nat.zero_le _) (Nat.zero_le _)
      simpa [valM] using this
    have hfe := fun w' (hx : Ext w3 w') => fewest_any la ua l.length (formSlotsM f.parts).length lc uc kb B M _ w' (hM.ext hx) h00
    have Hx := Lib.hid (x2.trans hx3)
    clear hme hT hM h00 hx3
    unfold mendV at *
    go_wp2_with fail
    refine (hfe _ (Ext.refl _)).mono ?_
    rintro e w4 ⟨rfl, hx4⟩
    go_wp2
    go_ret2
    exact ⟨by rw [Hm.out, Herr.out]; rfl, Hx.out.trans hx4⟩
  · have h0' : (er != 0) = true := by simpa using h0
    have hm : mendM s n l = 0 := by unfold mendM; rw [if_neg (by rw [herr]; exact h0)]
    have Hm := Lib.hid hm
    clear h0 h1 hm herr
    go_wp2_with fail
    go_ret2
    exact ⟨by rw [Hm.out, Herr.out]; rfl, x1.alloc _⟩
end Go.Proofs.YtcamegaimleomaaGreat

namespace Go.Proofs.YtcamegaimleomaaGreat
set_option linter.unusedSimpArgs false
set_option linter.unusedVariables false
open Go.RowKit
set_option linter.unusedVariables false

def costOf (fs : List Form) (l : List ByteArray) (i : Nat) : Nat := match fs[i]? with | some f => (costM l (formSlotsM f.parts)).2 | none => 0
def needsTo (fs : List Form) (l : List ByteArray) (k : Nat) : List Ch := (List.range k).map fun i => (i, costOf fs l i)
def needsM (fs : List Form) (l : List ByteArray) : List Ch := needsTo fs l fs.length
theorem needsTo_step (fs : List Form) (l : List ByteArray) (k : Nat) : needsTo fs l (k + 1) = needsTo fs l k ++ [(k, costOf fs l k)] := by
  simp [needsTo, List.range_succ]
theorem needsTo_len (fs : List Form) (l : List ByteArray) (k : Nat) : (needsTo fs l k).length = k := by simp [needsTo]
/-! ### A row of choices of the call's own -/
def cellsH (l : List Ch) : List Value := l.flatMap fun s => [.int .i64 (s.1 : Nat), .int .i64 (s.2 : Nat)]
theorem cellsH_len (l : List Ch) : (cellsH l).length = l.length * 2 := by
  induction l with
  | nil => rfl
  | cons x l ih => simp only [cellsH, List.flatMap_cons, List.length_append, List.length_cons, List.length_nil] at *; omega
theorem cellsH_get (l : List Ch) (i : Nat) (h : i < l.length) : (cellsH l)[i * 2]? = some (.int .i64 (l[i].1 : Nat)) ∧ (cellsH l)[i * 2 + 1]? = some (.int .i64 (l[i].2 : Nat)) := by
  induction l generalizing i with
  | nil => simp at h
  | cons x l ih =>
    cases i with
    | zero => simp [cellsH]
    | succ i =>
      have := ih i (by simpa using h)
      have e : (i + 1) * 2 = i * 2 + 2 := by omega
      rw [e]
      simpa [cellsH] using this
theorem cellsH_app (l r : List Ch) : cellsH (l ++ r) = cellsH l ++ cellsH r := by simp [cellsH]
def RowH (base : Nat) (l : List Ch) (u : Value) (w : World) : Prop := w.ownsRow base 120 2 u l.length (cellsH l)
theorem RowH.ext {base : Nat} {l : List Ch} {u : Value} {w w' : World} (h : RowH base l u w) (hx : Ext w w') : RowH base l u w' := Ext.owns h hx
theorem RowH.nil {base : Nat} {w : World} : RowH base [] (.slice none 0 0) w := World.ownsRow_nil _ _ _ _
theorem RowH.snoc {base : Nat} {l : List Ch} {c : Ch} {u : Value} {w : World} (h : w.ownsRow base 120 2 u (l.length + 1) (cellsH l ++ [.int .i64 (c.1 : Nat), .int .i64 (c.2 : Nat)])) : RowH base (l ++ [c]) u w := by
  unfold RowH
  rw [cellsH_app, List.length_append]
  exact h
def chR (w : World) (b o : Nat) (c : Ch) : Prop := w.cell? ⟨b, o, none⟩ = some (.int .i64 (c.1 : Nat)) ∧ w.cell? ⟨b, o + 1, none⟩ = some (.int .i64 (c.2 : Nat))
theorem chR.keeps : Keeps chR := fun _ _ _ _ _ hx h => ⟨hx.cell h.1, hx.cell h.2⟩
abbrev ChsAt : World → Value → List Ch → Prop := SliceAt 2 chR
theorem ChsAt.ext {w w' : World} {v : Value} {l : List Ch} (h : ChsAt w v l) (hx : Ext w w') : ChsAt w' v l := SliceAt.ext chR.keeps h hx
theorem ChsAt.lies {w w' : World} {v : Value} {l : List Ch} (h : ChsAt w v l) (hx : Lies w w') : ChsAt w' v l :=
  SliceAt.lies (fun _ _ _ _ _ hx h => ⟨hx _ _ h.1, hx _ _ h.2⟩) h hx
theorem RowH.at_ {base : Nat} {l : List Ch} {u : Value} {w : World} (h : RowH base l u w) : ChsAt w u l := by
  have hcells := fun g hg => h.cells (g := g) hg
  rcases h.2 with ⟨rfl, hn⟩ | ⟨g, cap, cur, rfl, hb, hg, hnc, hcm, hcs, htake⟩
  · have : l = [] := List.eq_nil_of_length_eq_zero hn
    subst this; exact SliceAt.nil
  · refine ⟨_, _, rfl, hnc, by simpa [maxLen] using hcm, fun i hi => ⟨g, 0, rfl, ?_⟩⟩
    obtain ⟨c0, c1⟩ := cellsH_get l i hi
    have r0 := hcells g rfl _ _ c0
    have r1 := hcells g rfl _ _ c1
    have ea : ∀ j, (⟨g, 0, none⟩ : Addr).add j = ⟨g, 0 + j, none⟩ := fun j => by unfold Addr.add; split <;> simp_all
    rw [ea] at r0 r1
    exact ⟨r0, r1⟩
theorem infoCh : (Tryz.prog.info? 120).map (fun i => (i.zero, i.size, i.bytes)) = some (some (.agg #[.int .i64 0, .int .i64 0]), 2, 16) := by kernel_rfl
set_option maxRecDepth 100000 in
set_option maxHeartbeats 1500000 in
theorem needs_any (fv lv : Value) (fs : List Form) (l : List ByteArray) (w : World) (hf : FormsAt w fv fs) (hl : StrsAt w lv l) (h4 : fs.length ≤ 4) (hV : ∀ f ∈ fs, ValidForm f) (h15 : l.length ≤ 15) :
    Calls Tryz.prog 66 #[fv, lv] w fun e w' => ∃ u, e = .returned u ∧ RowH w.heap.size (needsM fs l) u w' ∧ Ext w w' := by
  obtain ⟨a, c, rfl, hc1, hc2⟩ := hf.shape
  obtain ⟨la, lc, rfl, -⟩ := hl.shape
  obtain ⟨i0, hi, hz0, hz1, hz2⟩ := info_parts infoCh
  go_enter Tryz.func66, Tryz.ntmps66
  go_wp2_with fail
  go_loopw [5, 10] (fun v i wr => ∃ k : Nat, k ≤ fs.length ∧ i = .int .i64 k ∧ Ext w wr ∧ RowH w.heap.size (needsTo fs l k) v wr) (fun _ i _ => fs.length - (intOf i).toNat)
  case atStart => exact ⟨0, Nat.zero_le _, rfl, Ext.refl _, RowH.nil⟩
  case round =>
    obtain ⟨k, hk, rfl, hxr, hown⟩ := hrel
    have hszr := hxr.size
    by_cases hlt : k < fs.length
    · have k1 : (k : Int) < (fs.length : Int) := by omega
      obtain ⟨fb, fo, rfl, g0, hsz, pu, g1, hp⟩ := (hf.ext hxr).get hlt
      have zf := cell_lt g0
      have hVk := hV _ (List.getElem_mem hlt)
      have hcost : costOf fs l k = (costM l (formSlotsM fs[k].parts)).2 := by simp [costOf, hlt]
      have hst := needsTo_step fs l k
      have hFV : FormV wr (.agg #[.string fs[k].name, pu]) fs[k] := ⟨pu, rfl, hsz, hp⟩
      obtain ⟨pa, pc, rfl, hpc, hpm⟩ := hp.shape
      have hnl := needsTo_len fs l k
      have h16 := formSlots_len hVk.parts
      have h5 := hVk.n
      have Hst := Lib.hid hst
      have Hcost := Lib.hid hcost
      have Hnl := Lib.hid hnl
      have Hl := Lib.hid (hl.ext hxr)
      have Hown := Lib.hid hown
      clear hst hcost hnl hown hp hf hl
      generalize fs[k] = f at *
      have hfs := fun w' (hx : Ext wr w') => formSlots_any (.agg #[.string f.name, .slice pa f.parts.length pc]) f hVk w' (hx.form hFV)
      go_wp2_with fail
      refine (hfs _ (ext_alloc _ _)).mono ?_
      rintro e w2 ⟨u, rfl, hrow, hx2⟩
      have x2 : Ext wr w2 := Ext.trans (ext_alloc _ _) hx2
      have hsl : SlotsAt w2 u (formSlotsM f.parts) := hrow.at_ (formSlots_in hVk)
      have hme := mend_any _ u l (formSlotsM f.parts) w2 (Hl.out.ext x2) hsl ⟨by omega, by omega⟩
      obtain ⟨ua, uc, rfl, huc, hum⟩ := hsl.shape
      clear hfs hrow hx2 hsl
      go_wp2_with fail
      refine hme.mono ?_
      rintro e w3 ⟨kb, B, M, rfl, -, -, -, hM, hT, hx3⟩
      have h00 : getP (0, 0) M = some (costM l (formSlotsM f.parts)) := by
        have := hT.all 0 0 (Nat.zero_le _) (Nat.zero_le _)
        simpa [valM] using this
      have hfe := fun w' (hx : Ext w3 w') => fewest_any la ua l.length (formSlotsM f.parts).length lc uc kb B M _ w' (hM.ext hx) h00
      have Hx := Lib.hid (x2.trans hx3)
      clear hme hT hM h00 hx3 x2
      unfold mendV at *
      go_wp2_with fail
      refine (hfe _ (Ext.refl _)).mono ?_
      rintro e w4 ⟨rfl, hx4⟩
      have x4 := Hx.out.trans hx4
      have Own4 := Lib.hid (Hown.out.ext x4)
      have hs4 := x4.size
      clear hfe hx4
      rw [← Hcost.out]
      obtain ⟨cm, hcm⟩ : ∃ cm, costOf fs l k = cm := ⟨_, rfl⟩
      rw [hcm]
      have Hcm := Lib.hid hcm
      clear hcm
      go_wp2_with (at_builtin; go_loud (refine wpList_append_own_at _ rfl _ _ 126 rfl w.heap.size 120 i0 (.agg #[.int .i64 0, .int .i64 0]) 2 16 Tryz.underlying126 hi hz0 hz1 hz2 rfl (by decide) u5 (needsTo fs l k).length (cellsH (needsTo fs l k)) rfl (World.ownsRow.alloc Own4.out _) ⟨w4.heap.size, 0, none⟩ 1 1 [.int .i64 (k : Nat), .int .i64 (cm : Nat)] rfl rfl (cell_two_newS _ _ _ _) (by simp [Value.oneCell']) (by unfold maxLen; rw [Hnl.out]; omega) (by rw [Hnl.out]; omega) (by simp; omega) ?_; intro v' w5 hown' hgrow _ _; have hx5 : Ext w w5 := Ext.grown ((hxr.trans x4).alloc _) hgrow fun k hk => (Own4.out.lt k hk).1))
      go_roundw
      case rel => exact ⟨k + 1, by omega, by go_num, hx5, by rw [Hst.out, Hcm.out]; exact RowH.snoc (c := (k, cm)) hown'⟩
      case measure => simp [intOf]; omega
    · have hke : k = fs.length := by omega
      subst hke
      go_wp2
      go_ret
      exact ⟨_, rfl, hown, hxr⟩
end Go.Proofs.YtcamegaimleomaaGreat

namespace Go.Proofs.YtcamegaimleomaaGreat
set_option linter.unusedSimpArgs false
set_option linter.unusedVariables false
open Go.RowKit
set_option linter.unusedVariables false

set_option maxRecDepth 100000 in
theorem values_any (a : Option Addr) (n c : Nat) (w : World) :
    Calls Tryz.prog 65 #[.slice a n c] w fun e w' => ∃ vb, e = .returned (.func (.func 116) #[] #[.pointer (some ⟨vb, 0, none⟩)]) ∧ w'.cell? ⟨vb, 0, none⟩ = some (.slice a n c) ∧ Ext w w' := by
  go_enter Tryz.func65, Tryz.ntmps65
  go_wp2
  go_ret
  exact ⟨_, rfl, by simp [go_sem], (by first | (with_reducible exact Ext.refl _) | (with_reducible assumption) | (show Below _ _ _; go_grown; done))⟩
set_option maxRecDepth 100000 in
set_option maxHeartbeats 1000000 in
theorem values_seq (n lo hi vb : Nat) (v : Value) (xs : List Ch) (Wd w : World) (hWd : Wd.heap.size ≤ lo) (hlh : lo ≤ hi) (hhw : hi ≤ w.heap.size) (hK : KeptM lo hi Wd w) (hv : ChsAt Wd v xs) (hvb : vb < lo) (c0 : w.cell? ⟨vb, 0, none⟩ = some v) :
    SeqOwn n Tryz.prog 116 #[.pointer (some ⟨vb, 0, none⟩)] (fun c => #[chV c]) (KeptM lo hi) xs w := by
  intro y J W hW hJ hY h0
  have hxW : Ext w W := hW
  have hzW := hxW.size
  have hKW := hK.trans (hxW.keptM _ _)
  obtain ⟨va, vc, rfl, hvc, hvm⟩ := hv.shape
  refine callsIn_wide.2 ?_
  simp only [List.append_toArray, List.cons_append, List.nil_append]
  replace c0 := hxW.cell c0
  have zm := cell_lt c0
  go_enter Tryz.func116, Tryz.ntmps116
  go_wp2_with fail
  go_loopw [7] (fun ix wr => ∃ k : Nat, k ≤ xs.length ∧ ix = .int .i64 k ∧ KeptM lo hi W wr ∧ W.heap.size ≤ wr.heap.size ∧ J (xs.take k) wr) (fun ix _ => xs.length - (intOf ix).toNat)
  case atStart => exact ⟨0, Nat.zero_le _, rfl, KeptM.refl _ _ _, Nat.le_refl _, by rw [List.take_zero]; exact h0⟩
  case round =>
    obtain ⟨k, hk, rfl, hxr, hzr, hj⟩ := hrel
    by_cases hlt : k < xs.length
    · have k1 : (k : Int) < (xs.length : Int) := by omega
      have hKr := hKW.trans hxr
      obtain ⟨b, o, rfl, r0, r1⟩ := (hv.lies (hKr.o.lies hWd)).get hlt
      have zb := cell_lt r0
      have hst : xs.take (k + 1) = xs.take k ++ [xs[k]] := by rw [List.take_add_one, List.getElem?_eq_getElem hlt]; rfl
      have hm : xs.take k ++ [xs[k]] <+: xs := by rw [← hst]; exact List.take_prefix _ _
      generalize xs[k] = x at *
      have hxx : Ext wr (wr.alloc (.cells #[.int .i64 (x.1 : Nat), .int .i64 (x.2 : Nat)] 120)) := ext_alloc _ _
      have hJ2 := hJ _ _ _ (hxx.below.mono hzr) hj
      obtain ⟨fn, tmps, assign, body, hy, hR⟩ := hY _ x _ hJ2 hm
      unfold chV at hy
      have Hst := Lib.hid hst
      clear hst hm
      refine (wpIn_wide (n := n - 1 + 1)).1 ?_
      gi_wp2
      refine hR.mono ?_
      rintro e W3 ⟨rfl, hJ3, hk3⟩
      gi_wp2
      go_wp2
      go_roundw
      case rel => exact ⟨k + 1, by omega, by go_num, (hxr.trans (hxx.keptM _ _)).trans hk3, Nat.le_trans hzr (Nat.le_trans hxx.size hk3.o.size), by rw [Hst.out]; exact hJ3⟩
      case measure => simp [intOf]; omega
    · have hke : k = xs.length := by omega
      subst hke
      rw [List.take_length] at hj
      go_wp2
      go_end0
      exact ⟨⟨_, rfl⟩, hj⟩
/-- the first that needs the fewest corrections -/
def nearM (s : Shelf) (l : List ByteArray) : Ch := pickC (needsM s.forms l)
def nearErrM (s : Shelf) (l : List ByteArray) : Int := if shelfErrM s l ≠ 0 then shelfErrM s l else if s.forms.length = 0 then 9 else 0
def nearV (s : Shelf) (l : List ByteArray) : Ch := if nearErrM s l = 0 then nearM s l else (0, 0)
set_option maxRecDepth 100000 in
set_option maxHeartbeats 1500000 in
theorem Nearest_any (sv v : Value) (s : Shelf) (l : List ByteArray) (w : World) (hs : ShelfAt w sv s) (hl : StrsAt w v l) :
    Calls Tryz.prog 23 #[sv, v] w fun e w' => e = .returned (.tuple #[.int .i64 ((nearV s l).1 : Nat), .int .i64 ((nearV s l).2 : Nat), .int .i64 (nearErrM s l)]) ∧ Ext w w' := by
  have hs0 := hs
  obtain ⟨a, c, rfl, hw, hc1, hc2, hf⟩ := hs.open
  obtain ⟨la, lc, rfl, -⟩ := hl.shape
  go_enter Tryz.func23, Tryz.ntmps23
  go_wp2_with fail
  refine (shelfError_any _ _ s l _ (hs0.ext (by first | (with_reducible exact Ext.refl _) | (with_reducible assumption) | (show Below _ _ _; go_grown; done))) (hl.ext (by first | (with_reducible exact Ext.refl _) | (with_reducible assumption) | (show Below _ _ _; go_grown; done)))).mono ?_
  rintro e w1 ⟨rfl, hx1⟩
  have x1 : Ext w w1 := Ext.trans (by first | (with_reducible exact Ext.refl _) | (with_reducible assumption) | (show Below _ _ _; go_grown; done)) hx1
  have q1 : w1.cell? ⟨w.heap.size, 1, none⟩ = some (.slice a s.forms.length c) := hx1.cell (by simp [go_sem])
  have zq : w.heap.size < w1.heap.size := cell_lt q1
  clear hx1
  obtain ⟨er, herr⟩ : ∃ er, shelfErrM s l = er := ⟨_, rfl⟩
  rw [herr]
  by_cases h0 : er = 0
  · subst h0
    obtain ⟨hV, hL⟩ := shelfErr_ok herr
    obtain ⟨h15, hwd⟩ := lettErr_ok hL
    have hn4 := hV.n
    have hnl : (needsM s.forms l).length = s.forms.length := needsTo_len _ _ _
    have hne : nearErrM s l = if s.forms.length = 0 then 9 else 0 := by unfold nearErrM; rw [if_neg (by rw [herr]; simp)]
    have hnd := needs_any _ _ s.forms l w1 (hf.ext x1) (hl.ext x1) hn4 hV.forms h15
    have Hnl := Lib.hid hnl
    have Hne := Lib.hid hne
    clear herr hV hL hwd hnl hne hs hs0 hf
    go_wp2_with fail
    refine hnd.mono ?_
    rintro e w2 ⟨u, rfl, hrow, hx2⟩
    have hch := hrow.at_
    obtain ⟨ua, uc, rfl, huc, hum⟩ := hch.shape
    have hva := fun w => values_any ua (needsM s.forms l).length uc w
    clear hrow hnd
    go_wp2_with fail
    refine (hva w2).mono ?_
    rintro e w3 ⟨vb, rfl, cv, hx3⟩
    have hch3 := hch.ext hx3
    have zv : vb < w3.heap.size := cell_lt cv
    have hbe := bestH_any 116 #[.pointer (some ⟨vb, 0, none⟩)] (needsM s.forms l) (by rw [Hnl.out]; omega) w3 (enters_of Tryz.func116 (by kernel_rfl) rfl)
      (fun w' hx hz => values_seq 3 (w3.heap.size + 2) (w3.heap.size + 4) vb _ _ w3 w' (by omega) (by omega) hz (hx.keptM _ _) hch3 (by omega) (hx.cell cv))
    have x3 := (x1.trans hx2).trans hx3
    have hp : (pickB fewCh zeroCh (needsM s.forms l)).1 = nearM s l := rfl
    rw [hp, Hnl.out] at hbe
    unfold fewerF at hbe
    have Hx3 := Lib.hid x3
    clear hva hch hx2 hx3 hch3 cv zv hp x1 q1
    go_wp2_with fail
    refine hbe.mono ?_
    rintro e w4 ⟨rfl, hx4⟩
    have x4 := Hx3.out.trans hx4
    clear hbe hx4
    by_cases hz : s.forms.length = 0
    · have hne : nearErrM s l = 9 := by rw [Hne.out, if_pos hz]
      have hnv : nearV s l = (0, 0) := by unfold nearV; rw [if_neg (by rw [hne]; omega)]
      have Hnv := Lib.hid hnv
      have Hn9 := Lib.hid hne
      have hzb : ((s.forms.length : Int) == 0) = true := by rw [hz]; rfl
      clear hnv hne hz
      unfold chV
      go_wp2_with fail
      go_ret3
      exact ⟨by rw [Hnv.out, Hn9.out]; rfl, x4.alloc _⟩
    · have hne : nearErrM s l = 0 := by rw [Hne.out, if_neg hz]
      have hnv : nearV s l = nearM s l := by unfold nearV; rw [if_pos hne]
      have Hnv := Lib.hid hnv
      have Hn9 := Lib.hid hne
      have hzb : ((s.forms.length : Int) == 0) = false := by simpa using hz
      clear hnv hne hz
      generalize nearM s l = nm at *
      unfold chV
      go_wp2_with fail
      have c0 : (w4.alloc (.cells #[.int .i64 (nm.1 : Nat), .int .i64 (nm.2 : Nat)] 120)).cell? ⟨w4.heap.size, 0, none⟩ = some (.int .i64 (nm.1 : Nat)) := by simp [go_sem]
      have c1 : (w4.alloc (.cells #[.int .i64 (nm.1 : Nat), .int .i64 (nm.2 : Nat)] 120)).cell? ⟨w4.heap.size, 1, none⟩ = some (.int .i64 (nm.2 : Nat)) := by simp [go_sem]
      apply Facts.wp_region [.val _, .val _, .val _, .val _, .val _, .val _, .val _] (by kernel_rfl) (by kernel_rfl) trivial ?main
      case main =>
        iterate 7 (refine ⟨fun w1 hx hh => ?_, ?_⟩; focus (clear hh; (have f0 := hx.cell c0; have f1 := hx.cell c1); go_simp; first | exact ⟨Ext.refl _, rfl⟩ | exact Ext.refl _))
        intro w5 hx hh
        clear hh
        go_simp
        go_wp2
        go_ret3
        exact ⟨by rw [Hnv.out, Hn9.out]; rfl, (x4.alloc _).trans hx⟩
  · have h0' : (er != 0) = true := by simpa using h0
    have hne : nearErrM s l = er := by unfold nearErrM; rw [if_pos (by rw [herr]; exact h0), herr]
    have hnv : nearV s l = (0, 0) := by unfold nearV; rw [if_neg (by rw [hne]; exact h0)]
    have Hne := Lib.hid hne
    have Hnv := Lib.hid hnv
    clear h0 hne hnv herr
    go_wp2_with fail
    go_ret3
    exact ⟨by rw [Hnv.out, Hne.out]; rfl, x1⟩
end Go.Proofs.YtcamegaimleomaaGreat

namespace Go.Proofs.YtcamegaimleomaaGreat
set_option linter.unusedSimpArgs false
set_option linter.unusedVariables false
open Go.RowKit
set_option linter.unusedVariables false
set_option linter.unusedSimpArgs false
namespace Facts.Peel
open Facts.Piv (Two anyS opS any_of_anyS opS_of_stepG)
variable {P : Program}

theorem wp_monoQ {o : Oper} {a : Act} {w : World} {K : Act → World → Prop} {Q Q' : Exit → Act → World → Prop} (h : ∀ e a w, e ≠ .normal → Q e a w → Q' e a w) (hh : o.wp P a w K Q) : o.wp P a w K Q' := by
  unfold Oper.wp at *
  generalize (execOp a.eval o).run P w = r at *
  cases r with
  | ok n w' =>
    cases n <;> simp only [Oper.upon] at hh ⊢ <;>
      first
        | exact hh
        | exact h _ _ _ (by simp) hh
        | exact Calls.mono hh (fun e w'' he => by
            cases e
            · exact he
            · exact h _ _ _ (by simp) he
            · obtain ⟨a0, w0, hq⟩ := he
              exact ⟨a0, w0, h _ _ _ (by simp) hq⟩)
  | halt x w' => cases x <;> simp only [Oper.upon] at hh ⊢ <;> first | exact hh | exact h _ _ _ (by simp) hh
def lastB (l : List Oper) (o : Oper) : Bool :=
  (l.all fun x => (match x.guard with | some g => decide (g.1 < l.length) | none => true) && (x.after.toList.all fun e => !Region.binds .any e || decide (e.on < l.length))) && (o.after.toList.all fun e => !Region.binds .any e || decide (e.on < l.length)) &&
    (List.range l.length).all fun i => (depsOf (l ++ [o]).toArray (l.length + 1) l.length).contains i
theorem push_getD (listed : Array Bool) (j : Nat) (d : Bool) (h : j < listed.size) : (listed.push false).getD j d = listed.getD j d := by
  rw [Array.getD_eq_getD_getElem?, Array.getD_eq_getD_getElem?, Array.getElem?_push, if_neg (by omega)]
theorem push_last (listed : Array Bool) (d : Bool) : (listed.push false).getD listed.size d = false := by
  rw [Array.getD_eq_getD_getElem?, Array.getElem?_push, if_pos rfl]; rfl
theorem push_set (listed : Array Bool) (i : Nat) (h : i < listed.size) : (listed.push false).setIfInBounds i true = (listed.setIfInBounds i true).push false := by
  apply Array.ext_getElem?
  intro j
  rw [Array.getElem?_setIfInBounds, Array.getElem?_push, Array.getElem?_push, Array.getElem?_setIfInBounds]
  simp only [Array.size_push, Array.size_setIfInBounds]
  by_cases e : i = j
  · subst e
    rw [if_pos rfl, if_neg (show ¬ i = listed.size by omega), if_pos rfl, if_pos h, if_pos (show i < listed.size + 1 by omega)]
  · rw [if_neg e, if_neg e]
theorem any_peel {l : List Oper} {o : Oper} {Q : Exit → Act → World → Prop} (hlast : lastB l o = true) (hB : okB (l ++ [o]).toArray = true) :
    ∀ (fuel : Nat) (listed : Array Bool) (a : Act) (w : World), listed.size = l.length → listed.toList.count true + fuel = l.length → (∀ j, (listed.push false).getD j false = true → ∀ i ∈ direct (l ++ [o]).toArray j, (listed.push false).getD i false = true) →
      anyS P l.toArray (fun e a w => e = .normal ∧ stepG P (l ++ [o]).toArray o a w (fun u w2 => Q .normal (a.put o.dst u) w2)) fuel listed a w → anyS P (l ++ [o]).toArray Q (fuel + 1) (listed.push false) a w := by
  simp only [lastB, Bool.and_eq_true, List.all_eq_true, List.mem_range, Bool.or_eq_true, decide_eq_true_eq] at hlast
  obtain ⟨⟨hl1, hl2⟩, hl3⟩ := hlast
  have hat : ∀ i, i < l.length → (l ++ [o]).toArray[i]? = l.toArray[i]? := fun i hi => by
    simp only [List.getElem?_toArray]; exact List.getElem?_append_left hi
  have hato : (l ++ [o]).toArray[l.length]? = some o := by simp
  have hsz : (l ++ [o]).toArray.size = l.length + 1 := by simp
  have hb : ∀ x ∈ l, ∀ e ∈ x.after, Region.binds .any e = true → e.on < l.length := fun x hx e he hbd => by
    rcases (hl1 x hx).2 e (by simpa using he) with h | h
    · rw [hbd] at h; cases h
    · exact h
  have hbo : ∀ e ∈ o.after, Region.binds .any e = true → e.on < l.length := fun e he hbd => by
    rcases hl2 e (by simpa using he) with h | h
    · rw [hbd] at h; cases h
    · exact h
  have hmem : ∀ i x, l.toArray[i]? = some x → i < l.length ∧ x ∈ l := fun i x h => by
    rw [List.getElem?_toArray] at h
    exact ⟨(List.getElem?_eq_some_iff.1 h).1, List.mem_of_getElem? h⟩
  -- what is ready
  have ready1 : ∀ (listed : Array Bool), listed.size = l.length → ∀ i, i < l.length → (i ∈ Region.ready .any (l ++ [o]).toArray (listed.push false) ↔ i ∈ Region.ready .any l.toArray listed) := fun listed hs i hi => by
    rw [mem_ready, mem_ready, hat i hi, push_getD _ _ _ (by omega)]
    constructor
    · rintro ⟨h1, x, hx, h2⟩
      exact ⟨h1, x, hx, fun e he hbd => by have := h2 e he hbd; rwa [push_getD _ _ _ (by have := hb x (hmem i x hx).2 e he hbd; omega)] at this⟩
    · rintro ⟨h1, x, hx, h2⟩
      exact ⟨h1, x, hx, fun e he hbd => by rw [push_getD _ _ _ (by have := hb x (hmem i x hx).2 e he hbd; omega)]; exact h2 e he hbd⟩
  have ready2 : ∀ (listed : Array Bool), listed.size = l.length → ∀ i, i ∈ Region.ready .any (l ++ [o]).toArray (listed.push false) → i < l.length ∨ i = l.length := fun listed hs i hi => by
    obtain ⟨-, x, hx, -⟩ := mem_ready.1 hi
    have := (Array.getElem?_eq_some_iff.1 hx).1
    omega
  have ready3 : ∀ (listed : Array Bool), listed.size = l.length → (∀ j, j < l.length → listed.getD j false = true) → l.length ∈ Region.ready .any (l ++ [o]).toArray (listed.push false) := fun listed hs hall => by
    rw [mem_ready]
    refine ⟨by rw [← hs]; exact push_last _ _, o, hato, fun e he hbd => ?_⟩
    have := hbo e he hbd
    rw [push_getD _ _ _ (by omega)]
    exact hall _ this
  have ready4 : ∀ (listed : Array Bool), listed.size = l.length → (∀ j, (listed.push false).getD j false = true → ∀ i ∈ direct (l ++ [o]).toArray j, (listed.push false).getD i false = true) → l.length ∈ Region.ready .any (l ++ [o]).toArray (listed.push false) → ∀ j, j < l.length → listed.getD j false = true := fun listed hs hcl hr j hj => by
    obtain ⟨-, x, hx, h2⟩ := mem_ready.1 hr
    rw [hato] at hx
    obtain rfl := Option.some.inj hx
    have hd := dep_in hcl (l.length + 1) l.length (direct_ready hato h2) j (by simpa using hl3 j hj)
    rwa [push_getD _ _ _ (by omega)] at hd
  have full : ∀ (listed : Array Bool), listed.size = l.length → listed.toList.count true = l.length → ∀ j, j < l.length → listed.getD j false = true := fun listed hs hc j hj => by
    have hlen : listed.toList.count true = listed.toList.length := by simp only [Array.length_toList]; omega
    have := List.count_eq_length.1 hlen (listed[j]'(by omega)) (by simp)
    rw [Array.getD_eq_getD_getElem?, Array.getElem?_eq_getElem (by omega)]
    exact this.symm
  have setfull : ∀ (listed : Array Bool), listed.size = l.length → (∀ j, j < l.length → listed.getD j false = true) → Region.ready .any (l ++ [o]).toArray ((listed.push false).setIfInBounds l.length true) = [] := fun listed hs hall => by
    rw [List.eq_nil_iff_forall_not_mem]
    intro i hi
    obtain ⟨h1, x, hx, -⟩ := mem_ready.1 hi
    have hlt := (Array.getElem?_eq_some_iff.1 hx).1
    rw [hsz] at hlt
    by_cases e : i = l.length
    · subst e
      rw [Array.getD_eq_getD_getElem?, Array.getElem?_setIfInBounds, if_pos rfl] at h1
      simp [hs] at h1
    · rw [getD_set_ne true (Ne.symm e), push_getD _ _ _ (by omega)] at h1
      have := hall i (by omega)
      rw [Array.getD_eq_getD_getElem?, Array.getElem?_eq_getElem (by omega)] at h1 this
      simp only [Option.getD_some] at h1 this
      rw [h1] at this; cases this
  have hlast : ∀ (fuel : Nat) (listed : Array Bool) (a : Act) (w : World), listed.size = l.length → (∀ j, j < l.length → listed.getD j false = true) → stepG P (l ++ [o]).toArray o a w (fun u w2 => Q .normal (a.put o.dst u) w2) →
      opS P (l ++ [o]).toArray Q l.length (anyS P (l ++ [o]).toArray Q fuel ((listed.push false).setIfInBounds l.length true)) a w := fun fuel listed a w hs hall h => by
    refine opS_of_stepG hato h fun v w' hq => ?_
    have hr := setfull listed hs hall
    cases fuel with
    | zero => exact ⟨hr, hq⟩
    | succ fuel => exact ⟨fun _ => hq, fun i hi => by rw [hr] at hi; cases hi⟩
  intro fuel
  induction fuel with
  | zero =>
    intro listed a w hs hc hcl h
    have hall := full listed hs (by omega)
    refine ⟨fun hn => ?_, fun i hi => ?_⟩
    · have := ready3 listed hs hall
      rw [hn] at this; cases this
    · rcases ready2 listed hs i hi with h1 | h1
      · exfalso
        have h2 := (mem_ready.1 hi).1
        rw [push_getD _ _ _ (by omega)] at h2
        have := hall i h1
        rw [Array.getD_eq_getD_getElem?, Array.getElem?_eq_getElem (by omega)] at h2 this
        simp only [Option.getD_some] at h2 this
        rw [h2] at this; cases this
      · subst h1
        exact hlast 0 listed a w hs hall h.2.2
  | succ fuel ih =>
    intro listed a w hs hc hcl h
    refine ⟨fun hn => ?_, fun i hi => ?_⟩
    · exfalso
      have hnr : Region.ready .any l.toArray listed = [] := by
        rw [List.eq_nil_iff_forall_not_mem]
        intro i hi
        have hlt : i < l.length := by obtain ⟨-, x, hx, -⟩ := mem_ready.1 hi; exact (hmem i x hx).1
        have := (ready1 listed hs i hlt).2 hi
        rw [hn] at this; cases this
      -- by the order of the operations all have come up
      have hall : ∀ j, j < l.length → listed.getD j false = true := by
        intro j
        induction j using Nat.strongRecOn with
        | _ j ihj =>
          intro hj
          cases hl : listed.getD j false with
          | true => rfl
          | false =>
            exfalso
            have hr : j ∈ Region.ready .any l.toArray listed := by
              rw [mem_ready]
              refine ⟨?_, l[j], by simp [hj], fun e he hbd => ?_⟩
              · rw [Array.getD_eq_getD_getElem?, Array.getElem?_eq_getElem (by omega)] at hl ⊢
                exact hl
              · have hin : e.on ∈ direct (l ++ [o]).toArray j := by
                  simp only [direct, hat j hj, show l.toArray[j]? = some l[j] by simp [hj], List.mem_map, List.mem_filter]
                  exact ⟨e, ⟨by simpa using he, hbd⟩, rfl⟩
                have := (okB_spec hB j (by rw [hsz]; omega)).1 e.on hin
                exact ihj e.on this (by omega)
            rw [hnr] at hr; cases hr
      have hcount : listed.toList.count true = l.length := by
        have : listed.toList.count true = listed.toList.length := List.count_eq_length.2 fun b hb => by
          obtain ⟨i, hi, rfl⟩ := List.getElem_of_mem hb
          have := hall i (by simpa [hs] using hi)
          rw [Array.getD_eq_getD_getElem?, Array.getElem?_eq_getElem (by simpa using hi)] at this
          simpa using this.symm
        rw [this]; simpa using hs
      omega
    · rcases ready2 listed hs i hi with h1 | h1
      · have hr := (ready1 listed hs i h1).1 hi
        have hstep := h.2 i hr
        obtain ⟨hl0, x, hx, hafter⟩ := mem_ready.1 hi
        rw [hat i h1] at hx
        unfold opS at hstep ⊢
        rw [hat i h1, hx]
        rw [hx] at hstep
        simp only at hstep ⊢
        have hw : Region.wanted x (yielded (l ++ [o]).toArray a.tmps) = Region.wanted x (yielded l.toArray a.tmps) := by
          unfold Region.wanted
          cases hg : x.guard with
          | none => rfl
          | some g =>
            obtain ⟨g, want⟩ := g
            have := (hl1 x (hmem i x hx).2).1
            rw [hg] at this
            have hlt : g < l.length := by simpa using this
            simp only [yielded, hat g hlt]
        have hnot : listed.getD i false = false := by
          rw [push_getD _ _ _ (by omega)] at hl0
          rw [Array.getD_eq_getD_getElem?, Array.getElem?_eq_getElem (by omega)] at hl0 ⊢
          exact hl0
        have hK : ∀ a w, anyS P l.toArray (fun e a w => e = .normal ∧ stepG P (l ++ [o]).toArray o a w (fun u w2 => Q .normal (a.put o.dst u) w2)) fuel (listed.setIfInBounds i true) a w → anyS P (l ++ [o]).toArray Q (fuel + 1) ((listed.push false).setIfInBounds i true) a w := fun a w hh => by
          rw [push_set _ _ (by omega)]
          refine ih _ a w (by simpa using hs) ?_ ?_ hh
          · rw [Array.toList_setIfInBounds, List.count_set (by simpa using (by omega : i < listed.size))]
            have e : (listed.toList[i]'(by simpa using (by omega : i < listed.size))) = false := by
              rw [Array.getD_eq_getD_getElem?, Array.getElem?_eq_getElem (by omega)] at hnot
              simpa using hnot
            have e' : (listed.toList[i]'(by simpa using (by omega : i < listed.size)) == true) = false := by rw [e]; rfl
            rw [e']; simp only [Bool.false_eq_true, if_false, beq_self_eq_true, if_true]; omega
          · rw [← push_set _ _ (by omega)]
            intro j hj k hk
            by_cases e : j = i
            · subst e
              have h2 := direct_ready (ops := (l ++ [o]).toArray) (by rw [hat j h1]; exact hx) hafter k hk
              by_cases e2 : k = j
              · subst e2
                rw [Array.getD_eq_getD_getElem?, Array.getElem?_setIfInBounds, if_pos rfl, if_pos (by simp; omega)]; rfl
              · rw [getD_set_ne false (Ne.symm e2)]; exact h2
            · rw [getD_set_ne false (Ne.symm e)] at hj
              have h2 := hcl j hj k hk
              by_cases e2 : k = i
              · subst e2
                rw [Array.getD_eq_getD_getElem?, Array.getElem?_setIfInBounds, if_pos rfl, if_pos (by simp; omega)]; rfl
              · rw [getD_set_ne false (Ne.symm e2)]; exact h2
        rw [hw]
        split
        · rename_i hww
          rw [if_pos hww] at hstep
          exact Oper.wp_mono hK (wp_monoQ (fun e a w he hq => absurd hq.1 he) hstep)
        · rename_i hww
          rw [if_neg hww] at hstep
          exact hK _ _ hstep
      · subst h1
        have hall := ready4 listed hs hcl hi
        have hr : Region.ready .any l.toArray listed = [] := by
          rw [List.eq_nil_iff_forall_not_mem]
          intro i hi2
          obtain ⟨h2, x, hx, -⟩ := mem_ready.1 hi2
          have hlt := (hmem i x hx).1
          have := hall i hlt
          rw [Array.getD_eq_getD_getElem?, Array.getElem?_eq_getElem (by omega)] at h2 this
          simp only [Option.getD_some] at h2 this
          rw [h2] at this; cases this
        exact hlast (fuel + 1) listed a w hs hall (h.1 hr).2
/-- THE RULE: the others by 'Facts.Dep.Free', the last one by a fact of its own -/
theorem wp_region {E C : World → World → Prop} (T : Two E C) (p : Nat) {id : Nat} {Q : Exit → Act → World → Prop} {a : Act} {w : World} {l : List Oper} {o : Oper} (ss : List Dep.Spec) (hm : P.follows .mixedOrders = true) (hlast : lastB l o = true) (hB' : okB (l ++ [o]).toArray = true) (hB : okB l.toArray = true) (hlb : Dep.locB l.toArray 0 ss = true) (hk : Dep.Free.keepsS E C l.toArray p 0 ss)
    (h : Dep.Free.Walk E C p P l.toArray w (fun e a w => e = .normal ∧ stepG P (l ++ [o]).toArray o a w (fun u w2 => Q .normal (a.put o.dst u) w2)) 0 l ss [] [] a) : (Code.region id (l ++ [o]).toArray true).wp P Q a w := by
  have h1 := Dep.Free.any_region T p ss hB hlb hk h
  have h2 := any_peel (P := P) (Q := Q) hlast hB' l.toArray.size (Array.replicate l.toArray.size false) a { w with drawn := w.drawn + 1 } (by simp) (by simp [List.count_replicate]) (fun j hj => by
    exfalso
    rw [Array.getD_eq_getD_getElem?, Array.getElem?_push] at hj
    split at hj
    · simp at hj
    · rw [← Array.getD_eq_getD_getElem?, getD_rep] at hj; cases hj) h1
  have e : (l ++ [o]).toArray.size = l.toArray.size + 1 := by simp
  refine wp_region_any hm (any_of_anyS _ _ _ _ ?_)
  rw [e, Array.replicate_succ]
  exact h2
/-- the same, told by the number of the last operation -/
theorem wp_regionL {E C : World → World → Prop} (T : Two E C) (n p : Nat) {id : Nat} {Q : Exit → Act → World → Prop} {a : Act} {w : World} {L : List Oper} (ss : List Dep.Spec) (hm : P.follows .mixedOrders = true) (hL : L.length = n + 1) (hlast : lastB (L.take n) (L.getD n default) = true) (hB' : okB L.toArray = true) (hB : okB (L.take n).toArray = true) (hlb : Dep.locB (L.take n).toArray 0 ss = true) (hk : Dep.Free.keepsS E C (L.take n).toArray p 0 ss)
    (h : Dep.Free.Walk E C p P (L.take n).toArray w (fun e a w => e = .normal ∧ stepG P L.toArray (L.getD n default) a w (fun u w2 => Q .normal (a.put (L.getD n default).dst u) w2)) 0 (L.take n) ss [] [] a) : (Code.region id L.toArray true).wp P Q a w := by
  have e : L = L.take n ++ [L.getD n default] := by
    conv => lhs; rw [← List.take_append_drop n L]
    congr 1
    rw [List.drop_eq_getElem_cons (by omega), List.drop_of_length_le (by omega), List.getD_eq_getElem?_getD, List.getElem?_eq_getElem (by omega)]
    rfl
  have := wp_region (P := P) (id := id) (Q := Q) T p (o := L.getD n default) ss hm hlast (by rw [← e]; exact hB') hB hlb hk (by rw [← e]; exact h)
  rwa [← e] at this
end Facts.Peel
end Go.Proofs.YtcamegaimleomaaGreat
