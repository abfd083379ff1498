/-
  ONE MORE ELEMENT AT THE END OF A COPY (append(append([]T{}, l...), x)): what the steps of such a region leave. Over any element. (As Let/LPush and Let/LCut, without what those import.)
  RateMore: the region in which one more entry is put behind a copy of the others.
-/
import Derived.Test.YtdadffmagfknoaaBunAE
import Derived.Test.YtdadffmagfknoaaBunAC
import Derived.Test.YtdadffmagfknoaaBunAJ
import Derived.Test.YtdadffmagfknoaaBunAH
import Derived.Test.YtdadffmagfknoaaBunAU
namespace Go.Proofs.Ytdadffmagfknoaa
set_option linter.unusedSimpArgs false
set_option linter.unusedVariables false
open Go.RowKit
set_option linter.unusedVariables false
theorem no_falseEN {X : Bool} (h : X = false) (h2 : X = true) : False := by rw [h] at h2; cases h2
/-- a row of one's own -/
def OwnRN (base : Nat) (e : TypeId) (sz n : Nat) (cs : List Value) (u : Value) (w : World) : Prop := w.ownsRow base e sz u n cs
theorem OwnRN.ext {base : Nat} {e : TypeId} {sz n : Nat} {cs : List Value} {u : Value} {w w' : World} (h : OwnRN base e sz n cs u w) (hx : Ext w w') : OwnRN base e sz n cs u w' := Ext.owns h hx
theorem OwnRN.grew {base : Nat} {e : TypeId} {sz n : Nat} {cs : List Value} {u : Value} {n0 k : Nat} {w w' : World} (h : OwnRN base e sz n cs u w) (hn : n * sz ≤ k) (hx : Facts.App.Grew n0 k w w') : OwnRN base e sz n cs u w' := hx.owns h hn
/-- a row of nothing, with no room -/
def EmptyRN (base : Nat) (e : TypeId) (sz : Nat) (u : Value) (w : World) : Prop := ∃ B, u = .slice (some ⟨B, 0, none⟩) 0 0 ∧ OwnRN base e sz 0 [] u w
theorem EmptyRN.ext {base : Nat} {e : TypeId} {sz : Nat} {u : Value} {w w' : World} (h : EmptyRN base e sz u w) (hx : Ext w w') : EmptyRN base e sz u w' := by
  obtain ⟨B, e, h1⟩ := h; exact ⟨B, e, h1.ext hx⟩
theorem EmptyRN.grew {base : Nat} {e : TypeId} {sz : Nat} {u : Value} {n0 n : Nat} {w w' : World} (h : EmptyRN base e sz u w) (hx : Facts.App.Grew n0 n w w') : EmptyRN base e sz u w' := by
  obtain ⟨B, e, h1⟩ := h; exact ⟨B, e, h1.grew (by omega) hx⟩
theorem EmptyRN.row {base : Nat} {e : TypeId} {sz : Nat} {u : Value} {w : World} (h : EmptyRN base e sz u w) : w.ownsRow base e sz u 0 [] := by
  obtain ⟨B, e, h1⟩ := h; exact h1
theorem EmptyRN.full {base : Nat} {e : TypeId} {sz : Nat} {u : Value} {w : World} (h : EmptyRN base e sz u w) (m : Nat) (hm : 0 < m) : ∀ g cap, u = .slice (some ⟨g, 0, none⟩) 0 cap → cap < 0 + m := by
  obtain ⟨B, e, -⟩ := h
  intro g cap e2
  rw [e] at e2
  have := (Value.slice.inj e2).2.2
  omega
/-- new elements, in a block of their own -/
def NewRN (n : Nat) (cs : List Value) (u : Value) (w : World) : Prop := ∃ B, u = .slice (some ⟨B, 0, none⟩) n n ∧ ∀ j v, cs[j]? = some v → w.cell? ((⟨B, 0, none⟩ : Addr).add j) = some v
noncomputable def NewRN.B {n : Nat} {cs : List Value} {u : Value} {w : World} (h : NewRN n cs u w) : Nat := Exists.choose h
theorem NewRN.spec {n : Nat} {cs : List Value} {u : Value} {w : World} (h : NewRN n cs u w) : u = .slice (some ⟨h.B, 0, none⟩) n n ∧ ∀ j v, cs[j]? = some v → w.cell? ((⟨h.B, 0, none⟩ : Addr).add j) = some v := Exists.choose_spec h
theorem NewRN.ext {n : Nat} {cs : List Value} {u : Value} {w w' : World} (h : NewRN n cs u w) (hx : Ext w w') : NewRN n cs u w' := by
  obtain ⟨B, h1, h2⟩ := h; exact ⟨B, h1, fun j v e => hx.cell (h2 j v e)⟩
theorem NewRN.grew {n : Nat} {cs : List Value} {u : Value} {n0 k : Nat} {w w' : World} (h : NewRN n cs u w) (hn : cs.length ≤ k) (hx : Facts.App.Grew n0 k w w') : NewRN n cs u w' := by
  obtain ⟨B, h1, h2⟩ := h
  refine ⟨B, h1, fun j v e => ?_⟩
  have hj : j < cs.length := by
    rcases Nat.lt_or_ge j cs.length with h | h
    · exact h
    · rw [List.getElem?_eq_none h] at e; cases e
  have := h2 j v e
  rw [show (⟨B, 0, none⟩ : Addr).add j = ⟨B, 0 + j, none⟩ by unfold Addr.add; split <;> simp_all] at this ⊢
  exact hx.cell this (by omega)
theorem NewRN.made (w : World) (n : Nat) (cs : List Value) (t : TypeId) : NewRN n cs (.slice (some ⟨w.heap.size, 0, none⟩) n n) (w.alloc (.cells cs.toArray t)) := by
  refine ⟨_, rfl, fun j v e => ?_⟩
  rw [show (⟨w.heap.size, 0, none⟩ : Addr).add j = ⟨w.heap.size, 0 + j, none⟩ by unfold Addr.add; split <;> simp_all]
  simpa [go_sem] using e
namespace Facts.App
variable {P : Program} {ops : Array Oper}
theorem Grew.monoN {n0 n m : Nat} {w w' : World} (h : Grew n0 n w w') (hm : m ≤ n) : Grew n0 m w w' :=
  ⟨h.os, h.tape, h.output, h.size, fun k hk => by
    rcases h.block k hk with h1 | ⟨h0, c1, c2, e, g1, g2, g3, g4⟩
    · exact .inl h1
    · refine .inr ⟨h0, c1, c2, e, g1, g2, g3, ?_⟩
      have := congrArg (List.take m) g4
      rwa [List.take_take, List.take_take, Nat.min_eq_left hm] at this⟩
theorem run_append_emptyN {w : World} (base : Nat) (t ty e : TypeId) (i : TypeInfo) (z : Value) (size bytes : Nat) (ht : P.underlying t = some (.slice e)) (hi : P.info? e = some i) (hz : i.zero = some z)
    (hsize : i.size = size) (hby : i.bytes = bytes) (hzs : z.cells.size = size) (hsz : 0 < size)
    (B : Nat) (hown : w.ownsRow base e size (.slice (some ⟨B, 0, none⟩) 0 0) 0 [])
    (a : Addr) (m c : Nat) (news : List Value) (hl : news.length = m * size) (hnews : ∀ j u, news[j]? = some u → w.cell? (a.add j) = some u) (h1 : ∀ u ∈ news, u.oneCell' = true)
    (h63 : m ≤ maxLen) (hbytes : m * bytes ≤ 140737488355328) (hbase : base ≤ w.heap.size) :
    ∃ v' w', (Builtin.append_ #[t, t] ty #[.slice (some ⟨B, 0, none⟩) 0 0, .slice (some a) m c]).run P w = .ok v' w' ∧ w'.ownsRow base e size v' m news ∧ Ext w w' ∧ (m = 0 → v' = .slice (some ⟨B, 0, none⟩) 0 0) := by
  obtain ⟨v', w', hr, ho, hg, hx⟩ := run_append_grew (P := P) base t ty e i z size bytes ht hi hz hsize hby hzs hsz (.slice (some ⟨B, 0, none⟩) 0 0) 0 [] hown a m c news hl hnews h1 (by omega) (by rw [Nat.zero_add]; exact hbytes) hbase
  rw [Nat.zero_add, List.nil_append] at ho
  by_cases hm : m = 0
  · obtain ⟨w2, hr2, ho2, hg2⟩ := run_append_fits (P := P) (w := w) base t ty e i size ht hi hsize B 0 0 [] hown a m c news hl hnews h1 (by omega)
    rw [hr] at hr2
    simp only [Result.ok.injEq] at hr2
    obtain ⟨rfl, rfl⟩ := hr2
    refine ⟨_, _, hr, ho, ⟨hg2.os, hg2.tape, hg2.output, hg2.size, fun k hk => ?_⟩, fun _ => by rw [hm]⟩
    by_cases hkB : k = B
    · subst hkB
      rcases hown.2 with ⟨he, -⟩ | ⟨g, cap, cur, he, -, hg0, -, -, hcs, -⟩
      · simp at he
      · simp only [Value.slice.injEq, Option.some.injEq, Addr.mk.injEq, and_true, true_and] at he
        obtain ⟨rfl, rfl⟩ := he
        rcases ho2.2 with ⟨he, -⟩ | ⟨g', cap', cur', he, -, hg', -, -, hcs', -⟩
        · simp at he
        · simp only [Value.slice.injEq, Option.some.injEq, Addr.mk.injEq, and_true, true_and] at he
          obtain ⟨rfl, rfl⟩ := he
          have e1 : cur = #[] := Array.eq_empty_of_size_eq_zero (by omega)
          have e2 : cur' = #[] := Array.eq_empty_of_size_eq_zero (by omega)
          rw [hg0, hg', e1, e2]
    · exact hg2.block k hk (by simpa using hkB)
  · exact ⟨_, _, hr, ho, hx fun g cap e => by
      have := (Value.slice.inj e).2.2
      omega, fun h => absurd h hm⟩
theorem stepG_append_emptyN {o : Oper} {a : Act} {w : World} {S : Value → World → Prop} (hgd : o.guard = none) (s x : Operand) (t : TypeId)
    (ho : o.op = .call { callee := .builtin .append, args := #[s, x], argTypes := #[t, t] })
    (base : Nat) (e : TypeId) (i : TypeInfo) (z : Value) (size bytes : Nat) (ht : P.underlying t = some (.slice e)) (hi : P.info? e = some i) (hz : i.zero = some z)
    (hsize : i.size = size) (hby : i.bytes = bytes) (hzs : z.cells.size = size) (hsz : 0 < size)
    (v : Value) (hs : a.eval s = v) (B : Nat) (hvB : v = .slice (some ⟨B, 0, none⟩) 0 0) (hown : w.ownsRow base e size v 0 [])
    (ad : Addr) (m c : Nat) (news : List Value) (hx : a.eval x = .slice (some ad) m c) (hl : news.length = m * size) (hnews : ∀ j u, news[j]? = some u → w.cell? (ad.add j) = some u) (h1 : ∀ u ∈ news, u.oneCell' = true)
    (h63 : m ≤ maxLen) (hbytes : m * bytes ≤ 140737488355328) (hbase : base ≤ w.heap.size)
    (h : ∀ v' w', w'.ownsRow base e size v' m news → Ext w w' → (m = 0 → v' = v) → S v' w') : stepG P ops o a w S := by
  subst hvB
  obtain ⟨v', w', hr, h2, h3, h4⟩ := run_append_emptyN (P := P) base t o.type e i z size bytes ht hi hz hsize hby hzs hsz B hown ad m c news hl hnews h1 h63 hbytes hbase
  unfold stepG
  have hw : Region.wanted o (yielded ops a.tmps) = true := by unfold Region.wanted; rw [hgd]
  rw [if_pos hw]
  unfold execOp
  simp only [ho, resolve, invoke, builtin, Sem.run_bind, Sem.run_pure, Result.andThen_ok, List.map_toArray, List.map_cons, List.map_nil, hs, hx, hr]
  exact h v' w' h2 h3 h4
end Facts.App
end Go.Proofs.Ytdadffmagfknoaa

namespace Go.Proofs.Ytdadffmagfknoaa
set_option linter.unusedSimpArgs false
set_option linter.unusedVariables false
open Go.RowKit
set_option linter.unusedVariables false
set_option linter.unusedSimpArgs false
set_option maxRecDepth 100000
theorem ents_newsM {w : World} {ad : Addr} {n c : Nat} {es : List Ent} (h : EntriesAt w (.slice (some ad) n c) es) : ∀ j u, (cellsN es)[j]? = some u → w.cell? (ad.add j) = some u := by
  intro j u hu
  have hj : j < es.length * 4 := by
    rcases Nat.lt_or_ge j (es.length * 4) with h1 | h1
    · exact h1
    · rw [List.getElem?_eq_none (by rw [cellsN_len]; omega)] at hu; cases hu
  have hi : j / 4 < es.length := by omega
  obtain ⟨b, o, e2, r0, r1, r2, r3, -⟩ := SliceAt.get h hi
  obtain rfl := Option.some.inj e2
  obtain ⟨c0, c1, c2, c3⟩ := cellsN_get es (j / 4) hi
  have ea : (⟨b, o, none⟩ : Addr).add j = ⟨b, o + j, none⟩ := by unfold Addr.add; split <;> simp_all
  rw [ea]
  have hr : j = j / 4 * 4 ∨ j = j / 4 * 4 + 1 ∨ j = j / 4 * 4 + 2 ∨ j = j / 4 * 4 + 3 := by omega
  rcases hr with h1 | h1 | h1 | h1 <;> rw [h1] at hu ⊢
  · rw [c0] at hu; cases hu; exact r0
  · rw [c1] at hu; cases hu; rw [← Nat.add_assoc]; exact r1
  · rw [c2] at hu; cases hu; rw [← Nat.add_assoc]; exact r2
  · rw [c3] at hu; cases hu; rw [← Nat.add_assoc]; exact r3
section
variable {P : Program} (w : World)
theorem run_append_owned_ncM (base : Nat) (t ty e : TypeId) (i : TypeInfo) (size c : Nat) (ht : P.underlying t = some (.slice e)) (hi : P.info? e = some i)
    (v : Value) (n : Nat) (xs : List Value) (hown : w.ownsRow base e size v n xs) :
    (Builtin.append_ #[t, t] ty #[v, .slice none 0 c]).run P w = .ok v w := by
  rcases hown.2 with ⟨rfl, rfl⟩ | ⟨g, cap, cur, rfl, _, _, hnc, _⟩
  · simp [Builtin.append_, run_underlying ht, sizeOf, typeInfo, hi, Builtin.lenOf, Builtin.firstCells]
  · simp [Builtin.append_, run_underlying ht, sizeOf, typeInfo, hi, Builtin.lenOf, Builtin.firstCells, hnc, storeCells]
end
namespace Facts.App
theorem stepG_append_entsN {ops : Array Oper} {o : Oper} {a : Act} {w : World} {S : Value → World → Prop} (hgd : o.guard = none) (s x : Operand)
    (ho : o.op = .call { callee := .builtin .append, args := #[s, x], argTypes := #[24, 24] })
    (base : Nat) (u : Value) (hs : a.eval s = u) (hu : EmptyRN base 58 4 u w) (hbase : base ≤ w.heap.size)
    (ea : Option Addr) (n c : Nat) (es : List Ent) (hx : a.eval x = .slice ea n c) (hE : EntriesAt w (.slice ea n c) es) (hb : n * 32 ≤ 140737488355328)
    (h : ∀ v' w', OwnRN base 58 4 n (cellsN es) v' w' → Ext w w' → (n = 0 → EmptyRN base 58 4 v' w') → S v' w') : stepG Try.prog ops o a w S := by
  obtain ⟨i0, hi, hz0, hz1, hz2⟩ := info_parts infoEnt
  have hn : n = es.length := by obtain ⟨_, _, e, -⟩ := hE; exact (Value.slice.inj e).2.1
  obtain ⟨B, rfl, hown⟩ := hu
  cases ea with
  | none =>
    have h0 : es.length = 0 := by
      rcases Nat.eq_zero_or_pos es.length with h1 | h1
      · exact h1
      · obtain ⟨_, _, e, -⟩ := SliceAt.get hE h1; cases e
    have hes : es = [] := List.eq_nil_of_length_eq_zero h0
    subst hes
    have hn0 : n = 0 := hn
    subst hn0
    have hrun := run_append_owned_ncM (P := Try.prog) w base 24 o.type 58 i0 4 c Try.underlying24 hi _ 0 [] hown
    unfold stepG
    have hw : Region.wanted o (yielded ops a.tmps) = true := by unfold Region.wanted; rw [hgd]
    rw [if_pos hw]
    unfold execOp
    simp only [ho, resolve, invoke, builtin, Sem.run_bind, Sem.run_pure, Result.andThen_ok, List.map_toArray, List.map_cons, List.map_nil, hs, hx, hrun]
    exact h _ _ hown (Ext.refl _) fun _ => ⟨B, rfl, hown⟩
  | some ad =>
    subst hn
    refine stepG_append_emptyN hgd s x 24 ho base 58 i0 (.agg #[.int .i64 0, .int .i64 0, .int .i64 0, .int .i64 0]) 4 32 Try.underlying24 hi hz0 hz1 hz2 rfl (by decide) _ hs B rfl hown ad es.length c (cellsN es) hx (cellsN_len es) (ents_newsM hE) (cellsN_one es) (by unfold maxLen; omega) (by omega) hbase ?_
    intro v' w' ho' hx2 h3
    refine h v' w' ho' hx2 fun e => ?_
    rw [h3 e]
    exact ⟨B, rfl, Ext.owns hown hx2⟩
end Facts.App
def SM (n0 k : Nat) (i : Nat) (w w' : World) : Prop := if i = 6 then Facts.App.Grew n0 k w w' ∧ (k = 0 → Ext w w') else Ext w w'
theorem manyM (n0 k : Nat) : Facts.Dep.Many.ManyT (SM n0 k) (Facts.App.Grew n0 k) := ⟨fun i w w' h => by
  unfold SM at h
  split at h
  · exact h.1
  · exact .of_ext h, fun _ _ _ h g => h.trans g, fun w => .of_ext (ext_drew w)⟩
theorem sMe {n0 k i : Nat} {w w' : World} (hi : i ≠ 6) (h : Ext w w') : SM n0 k i w w' := by unfold SM; rw [if_neg hi]; exact h
set_option maxHeartbeats 4000000 in
theorem more_r2 {u0 u1 u4 u6 u7 u8 u9 u10 u11 u12 u13 u14 u15 u16 u17 u18 u19 u20 u21 u22 u23 u24 u25 u26 u27 u28 u29 u30 u31 u32 u33 u34 u35 u36 u37 u38 u39 u40 u41 u42 u43 u44 u45 u46 u47 u48 u49 u50 u51 u52 u53 u54 u55 u56 u57 u58 u59 u60 u61 u62 u63 u64 u65 u66 u67 u68 u69 u70 u71 u72 u73 u74 u75 u76 u77 u78 u79 u80 u81 u82 u83 u84 u85 u86 u87 u88 u89 u90 u91 u92 u93 u94 u95 u96 u97 u98 u99 u100 u101 u102 u103 u104 u105 u106 u107 u108 u109 u110 u111 u112 u113 u114 u115 u116 u117 u118 u119 u120 u121 u122 : Value} {R : World} {H X M n ec : Nat} {ea : Option Addr} {es : List Ent} {x : Ent} {v0 : Value} (hh4 : R.cell? ⟨H, 4, none⟩ = some (.slice ea n ec)) (hE : EntriesAt R (.slice ea n ec) es) (hb : (n + 1) * 32 ≤ 140737488355328)
    (e0 : R.cell? ⟨X, 0, none⟩ = some (.int .i64 x.agent)) (e1 : R.cell? ⟨X, 1, none⟩ = some (.int .i64 x.day)) (e2 : R.cell? ⟨X, 2, none⟩ = some (.int .i64 x.near)) (e3 : R.cell? ⟨X, 3, none⟩ = some (.int .i64 x.far))
    (m4 : R.cell? ⟨M, 4, none⟩ = some v0) (mf : R.frozen? ⟨M, 4, none⟩ = false) (Q : Exit → Act → World → Prop)
    (hQ : ∀ (v22 v23 v24 v25 v26 v27 v28 v29 : Value) (v' : Value) (wc : World), Ext R wc → RowN R.heap.size (es ++ [x]) v' wc → Q .normal ⟨#[u0, u1, .pointer (some ⟨H, 0, none⟩), .pointer (some ⟨X, 0, none⟩), u4, .pointer (some ⟨M, 0, none⟩), u6, u7, u8, u9, u10, u11, u12, u13, u14, u15, u16, u17, u18, u19, u20, u21, v22, v23, v24, v25, v26, v27, v28, v29, u30, u31, u32, u33, u34, u35, u36, u37, u38, u39, u40, u41, u42, u43, u44, u45, u46, u47, u48, u49, u50, u51, u52, u53, u54, u55, u56, u57, u58, u59, u60, u61, u62, u63, u64, u65, u66, u67, u68, u69, u70, u71, u72, u73, u74, u75, u76, u77, u78, u79, u80, u81, u82, u83, u84, u85, u86, u87, u88, u89, u90, u91, u92, u93, u94, u95, u96, u97, u98, u99, u100, u101, u102, u103, u104, u105, u106, u107, u108, u109, u110, u111, u112, u113, u114, u115, u116, u117, u118, u119, u120, u121, u122], []⟩ (wc.setCell ⟨M, 4, none⟩ v')) :
    Code.wp Try.prog (regionOf Try.f10 2) Q ⟨#[u0, u1, .pointer (some ⟨H, 0, none⟩), .pointer (some ⟨X, 0, none⟩), u4, .pointer (some ⟨M, 0, none⟩), u6, u7, u8, u9, u10, u11, u12, u13, u14, u15, u16, u17, u18, u19, u20, u21, u22, u23, u24, u25, u26, u27, u28, u29, u30, u31, u32, u33, u34, u35, u36, u37, u38, u39, u40, u41, u42, u43, u44, u45, u46, u47, u48, u49, u50, u51, u52, u53, u54, u55, u56, u57, u58, u59, u60, u61, u62, u63, u64, u65, u66, u67, u68, u69, u70, u71, u72, u73, u74, u75, u76, u77, u78, u79, u80, u81, u82, u83, u84, u85, u86, u87, u88, u89, u90, u91, u92, u93, u94, u95, u96, u97, u98, u99, u100, u101, u102, u103, u104, u105, u106, u107, u108, u109, u110, u111, u112, u113, u114, u115, u116, u117, u118, u119, u120, u121, u122], []⟩ R := by
  conv => arg 2; whnf
  obtain ⟨i0, hi, hz0, hz1, hz2⟩ := info_parts infoEnt
  have hn : n = es.length := by obtain ⟨_, _, e, -⟩ := hE; exact (Value.slice.inj e).2.1
  have HQ := Lib.hid hQ
  have HE := Lib.hid hE
  have HN := Lib.hid hn
  have MF := Lib.hid mf
  have M4 := Lib.hid m4
  have zM := cell_lt m4
  clear hQ hE hn mf m4
  apply Facts.wp_frame
  intro A hA
  have g2 : ∀ h, A.tmps[2]'h = .pointer (some ⟨H, 0, none⟩) := by rw [hA]; exact fun _ => rfl
  have g3 : ∀ h, A.tmps[3]'h = .pointer (some ⟨X, 0, none⟩) := by rw [hA]; exact fun _ => rfl
  have g5 : ∀ h, A.tmps[5]'h = .pointer (some ⟨M, 0, none⟩) := by rw [hA]; exact fun _ => rfl
  have gsz : A.tmps.size = 123 := by rw [hA]; rfl
  have HA := Lib.hid hA
  clear hA
  apply Facts.Dep.Many.wp_regionL (manyM R.heap.size (n * 4)) 8 [.fact (EmptyRN R.heap.size 58 4), .val _, .val (.slice ea n ec), .fact (fun u w => OwnRN R.heap.size 58 4 n (cellsN es) u w ∧ (n = 0 → EmptyRN R.heap.size 58 4 u w)), .val (entV x), .fact (NewRN 1 [.int .i64 x.agent, .int .i64 x.day, .int .i64 x.near, .int .i64 x.far]), .fact (OwnRN R.heap.size 58 4 (n + 1) (cellsN es ++ [.int .i64 x.agent, .int .i64 x.day, .int .i64 x.near, .int .i64 x.far])), .val (.pointer (some ⟨M, 4, none⟩))] (by kernel_rfl) (by kernel_rfl) (by kernel_rfl) (by kernel_rfl) (by kernel_rfl) (by kernel_rfl) ?keep ?main
  case keep =>
    exact ⟨fun j hj hc u a c hx h => by
      unfold SM at hx
      split at hx
      · exact h.grew hx.1
      · exact h.ext hx, fun j hj hc u a c hx h => by
      unfold SM at hx
      split at hx
      · exact ⟨h.1.grew (Nat.le_refl _) hx.1, fun e => (h.2 e).grew hx.1⟩
      · exact ⟨h.1.ext hx, fun e => (h.2 e).ext hx⟩, fun j hj hc u a c hx h => by
      unfold SM at hx
      split at hx
      · by_cases h0 : n = 0
        · exact h.ext (hx.2 (by omega))
        · exact h.grew (by simp; omega) hx.1
      · exact h.ext hx, fun j hj hc u a c hx h => by
      unfold SM at hx
      split at hx
      · rename_i e; exact absurd e hj
      · exact h.ext hx, trivial⟩
  case main =>
  refine ⟨fun w1 hC hh => ?_, ?_⟩
  · have hx := hC.below rfl (Ext.refl _)
    clear hh hC
    have hsz1 := hx.size
    go_simp
    exact ⟨sMe (by decide) (ext_alloc _ _), w1.heap.size, rfl, World.ownsRow_made w1 #[] 0 hsz1 (by unfold maxLen; omega) rfl⟩
  intro u0
  iterate 2 (refine ⟨fun w1 hC hh => ?_, ?_⟩; focus (have hx := hC.below rfl (Ext.refl _); clear hh hC; have j0 := hx.cell hh4; go_simp; first | exact ⟨sMe (by decide) (Ext.refl _), rfl⟩ | exact sMe (by decide) (Ext.refl _)))
  refine ⟨fun w1 hC hh => ?_, ?_⟩
  · have h0 : EmptyRN R.heap.size 58 4 u0 w1 := hh 0 _ List.mem_cons_self (by kernel_rfl)
    have hx := hC.below rfl (Ext.refl _)
    clear hh hC
    have hsz1 := hx.size
    refine Facts.App.stepG_append_entsN rfl (.tmp 22) (.tmp 24) rfl R.heap.size u0 (by go_simp) h0 hsz1 ea n ec es (by go_simp) (HE.out.ext hx) (by omega) ?_
    intro v' w' ho hx2 h3
    exact ⟨sMe (by decide) hx2, ho, h3⟩
  intro u3
  iterate 1 (refine ⟨fun w1 hC hh => ?_, ?_⟩; focus (have hx := hC.below rfl (Ext.refl _); clear hh hC; have j0 := hx.cell e0; have j1 := hx.cell e1; have j2 := hx.cell e2; have j3 := hx.cell e3; unfold entV; go_simp; first | exact ⟨sMe (by decide) (Ext.refl _), rfl⟩ | exact sMe (by decide) (Ext.refl _)))
  refine ⟨fun w1 hC hh => ?_, ?_⟩
  · clear hh hC
    unfold entV
    go_simp
    exact ⟨sMe (by decide) (ext_alloc _ _), _, rfl, four_new w1 _ _ _ _ _⟩
  intro u5
  refine ⟨fun w1 hC hh => ?_, ?_⟩
  · have h3 := hh 3 _ (List.mem_cons_of_mem _ List.mem_cons_self) (by kernel_rfl)
    have h5 := hh 5 _ List.mem_cons_self (by kernel_rfl)
    have hx := hC.below rfl (Ext.refl _)
    clear hh hC
    have h3 : OwnRN R.heap.size 58 4 n (cellsN es) u3 w1 ∧ (n = 0 → EmptyRN R.heap.size 58 4 u3 w1) := h3
    have h5 : NewRN 1 [.int .i64 x.agent, .int .i64 x.day, .int .i64 x.near, .int .i64 x.far] u5 w1 := h5
    have hsz1 := hx.size
    have s5 := h5.spec
    generalize h5.B = B at *
    have e5 := s5.1
    have c5 := s5.2
    clear s5 h5
    subst e5
    refine Facts.App.stepG_append_grew rfl (.tmp 25) (.tmp 27) 24 rfl R.heap.size 58 i0 (.agg #[.int .i64 0, .int .i64 0, .int .i64 0, .int .i64 0]) 4 32 Try.underlying24 hi hz0 hz1 hz2 rfl (by decide) u3 n (cellsN es) (by go_simp) h3.1 ⟨B, 0, none⟩ 1 1 [.int .i64 x.agent, .int .i64 x.day, .int .i64 x.near, .int .i64 x.far] (by go_simp) rfl c5 (by simp [Value.oneCell']) (by unfold maxLen; omega) (by omega) (by omega) ?_
    intro v' w' ho hg hx2
    refine ⟨?_, ho⟩
    unfold SM
    rw [if_pos rfl]
    exact ⟨hg, fun e => hx2 fun g cap e2 => by
      have e0 : n = 0 := by omega
      subst e0
      exact (h3.2 rfl).full 1 (by omega) g cap e2⟩
  intro u6
  iterate 1 (refine ⟨fun w1 hC hh => ?_, ?_⟩; focus (have hx := hC.below rfl (Ext.refl _); clear hh hC; skip; go_simp; first | exact ⟨sMe (by decide) (Ext.refl _), rfl⟩ | exact sMe (by decide) (Ext.refl _)))
  intro w5 hC hh
  have h6 : OwnRN R.heap.size 58 4 (n + 1) (cellsN es ++ [.int .i64 x.agent, .int .i64 x.day, .int .i64 x.near, .int .i64 x.far]) u6 w5 := hh 6 _ List.mem_cons_self
  have hx5 := hC.below rfl (Ext.refl _)
  clear hh hC
  have hA := HA.out
  subst hA
  have hQ := HQ.out
  have m4 := hx5.cell M4.out
  have mf := (hx5.frozen zM).trans MF.out
  have hr : RowN R.heap.size (es ++ [x]) u6 w5 := .snoc (by rw [← HN.out]; exact h6)
  obtain ⟨sa, sn, sc, e6⟩ : ∃ sa sn sc, u6 = .slice sa sn sc := by
    rcases hr.2 with ⟨e, -⟩ | ⟨g, cap, cur, e, -⟩
    · exact ⟨_, _, _, e⟩
    · exact ⟨_, _, _, e⟩
  clear h6
  subst e6
  go_simp
  exact hQ _ _ _ _ _ _ _ _ _ w5 hx5 hr
end Go.Proofs.Ytdadffmagfknoaa
