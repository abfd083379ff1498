/-
  AN append ONTO A ROW OF THE CALL's OWN, and what it leaves of that row: its first cells. For a region that draws its order and makes and grows several rows. Over any program.
  THE RULE FOR A REGION THAT DRAWS ITS ORDER, in which one operation (p) may write, and others need not wait for it, nor it for them: what is said of those is kept by what it writes. Over any program.
  A REGION WALKED OVER A FRAME THAT IS A VARIABLE: what its slots hold is said by facts alone. Over any program.
  A BLOCK, OR A BRANCHING, TAKEN OUT OF A FUNCTION'S TEXT, so that it can be walked in a declaration of its own. Over any program.
-/
import Derived.Test.YtoifmphpeflliaaBunM
import Derived.Laws.OwnMore
import Derived.Test.YtoifmphpeflliaaBunP
import Derived.Test.YtoifmphpeflliaaBunA
namespace Go.Proofs.Ytoifmphpeflliaa
open Go.RowKit
set_option linter.unusedVariables false
namespace Facts.App
variable {P : Program} {ops : Array Oper}

/-- a later world in which new rows, from a block on, may have been written behind their first n cells -/
structure Grew (n0 n : Nat) (w w' : World) : Prop where
  os : w'.os = w.os
  tape : w'.tape = w.tape
  output : w'.output = w.output
  size : w.heap.size ≤ w'.heap.size
  block : ∀ k, k < w.heap.size → w'.heap[k]? = w.heap[k]? ∨ (n0 ≤ k ∧ ∃ cur cur' e, w.heap[k]? = some (.cells cur e (0, 0)) ∧ w'.heap[k]? = some (.cells cur' e (0, 0)) ∧ cur'.size = cur.size ∧ cur'.toList.take n = cur.toList.take n)
theorem Grew.of_ext {n0 n : Nat} {w w' : World} (h : Ext w w') : Grew n0 n w w' := ⟨Below.os h, Below.tape h, Below.output h, Below.size h, fun k hk => .inl (Below.block h k hk)⟩
theorem Grew.trans {n0 n : Nat} {a b c : World} (h : Grew n0 n a b) (k : Grew n0 n b c) : Grew n0 n a c :=
  ⟨k.os.trans h.os, k.tape.trans h.tape, k.output.trans h.output, Nat.le_trans h.size k.size, fun i hi => by
    rcases h.block i hi with h1 | ⟨h0, c1, c2, e, g1, g2, g3, g4⟩
    · rcases k.block i (Nat.lt_of_lt_of_le hi h.size) with h2 | ⟨h0, c1, c2, e, g1, g2, g3, g4⟩
      · exact .inl (h2.trans h1)
      · exact .inr ⟨h0, c1, c2, e, by rw [← h1]; exact g1, g2, g3, g4⟩
    · rcases k.block i (Nat.lt_of_lt_of_le hi h.size) with h2 | ⟨-, c3, c4, e', f1, f2, f3, f4⟩
      · exact .inr ⟨h0, c1, c2, e, g1, by rw [h2]; exact g2, g3, g4⟩
      · rw [g2] at f1
        simp only [Option.some.injEq, Obj.cells.injEq, and_true] at f1
        obtain ⟨rfl, rfl⟩ := f1
        exact .inr ⟨h0, c1, c4, e, g1, f2, f3.trans g3, f4.trans g4⟩⟩
theorem Grew.below {n0 n : Nat} {w w' : World} (h : Grew n0 n w w') {u : World} (hu : u.heap.size = n0) (hx : Ext u w) : Ext u w' := by
  subst hu
  exact ⟨h.os.trans (Below.os hx), h.tape.trans (Below.tape hx), h.output.trans (Below.output hx), Nat.le_trans (Below.size hx) h.size, fun k hk => by
    rcases h.block k (Nat.lt_of_lt_of_le hk (Below.size hx)) with h1 | ⟨h0, -⟩
    · exact h1.trans (Below.block hx k hk)
    · omega⟩
theorem two_grew (n0 n : Nat) : Piv.Two Ext (Grew n0 n) :=
  ⟨fun _ _ h => Grew.of_ext h, fun _ _ _ h k => h.trans k, fun _ _ _ h k => Grew.trans h k, fun _ => Ext.refl _, fun w => ext_drew w⟩
/-- a row of so many cells at most is kept -/
theorem Grew.owns {n0 n : Nat} {w w' : World} (h : Grew n0 n w w') {base size m : Nat} {e : TypeId} {v : Value} {xs : List Value} (ho : w.ownsRow base e size v m xs) (hm : m * size ≤ n) : w'.ownsRow base e size v m xs := by
  refine ⟨ho.1, ?_⟩
  rcases ho.2 with h1 | ⟨g, cap, cur, rfl, hb, hg, hnc, hcm, hcs, htake⟩
  · exact .inl h1
  · have hlt : g < w.heap.size := (Array.getElem?_eq_some_iff.1 hg).1
    rcases h.block g hlt with h1 | ⟨-, c1, c2, e', g1, g2, g3, g4⟩
    · exact .inr ⟨g, cap, cur, rfl, hb, by rw [h1]; exact hg, hnc, hcm, hcs, htake⟩
    · rw [hg] at g1
      simp only [Option.some.injEq, Obj.cells.injEq, and_true] at g1
      obtain ⟨rfl, rfl⟩ := g1
      refine .inr ⟨g, cap, c2, rfl, hb, g2, hnc, hcm, g3.trans hcs, ?_⟩
      have := congrArg (List.take (m * size)) g4
      rw [List.take_take, List.take_take, Nat.min_eq_left hm] at this
      rw [this]; exact htake
theorem Grew.cell {n0 n : Nat} {w w' : World} (h : Grew n0 n w w') {B j : Nat} {v : Value} (hc : w.cell? ⟨B, j, none⟩ = some v) (hj : j < n) : w'.cell? ⟨B, j, none⟩ = some v := by
  have hlt : B < w.heap.size := cell_lt hc
  rcases h.block B hlt with h1 | ⟨-, c1, c2, e', g1, g2, g3, g4⟩
  · rw [World.cell?_of_block (a := ⟨B, j, none⟩) h1]; exact hc
  · unfold World.cell? at hc ⊢
    simp only [g1] at hc
    simp only [g2]
    have e1 : c1[j]? = some v := by simpa using hc
    have e2 : c2[j]? = c1[j]? := by
      have a1 : c2.toList[j]? = (c2.toList.take n)[j]? := by rw [List.getElem?_take_of_lt hj]
      have a2 : c1.toList[j]? = (c1.toList.take n)[j]? := by rw [List.getElem?_take_of_lt hj]
      rw [← Array.getElem?_toList, ← Array.getElem?_toList, a1, a2, g4]
    simpa [e2] using e1
theorem run_append_grew {w : World} (base : Nat) (t ty e : TypeId) (i : TypeInfo) (z : Value) (size bytes : Nat) (ht : P.underlying t = some (.slice e)) (hi : P.info? e = some i) (hz : i.zero = some z)
    (hsize : i.size = size) (hby : i.bytes = bytes) (hzs : z.cells.size = size) (hsz : 0 < size)
    (v : Value) (n : Nat) (xs : List Value) (hown : w.ownsRow base e size v n xs)
    (a : Addr) (m c : Nat) (news : List Value) (hl : news.length = m * size) (hnews : ∀ j u, news[j]? = some u → w.cell? (a.add j) = some u) (h1 : ∀ u ∈ news, u.oneCell' = true)
    (h63 : n + m ≤ maxLen) (hbytes : (n + m) * bytes ≤ 140737488355328) (hbase : base ≤ w.heap.size) :
    ∃ v' w', (Builtin.append_ #[t, t] ty #[v, .slice (some a) m c]).run P w = .ok v' w' ∧ w'.ownsRow base e size v' (n + m) (xs ++ news) ∧ Grew base (n * size) w w' ∧
      ((∀ g cap, v = .slice (some ⟨g, 0, none⟩) n cap → cap < n + m) → Ext w w') := by
  obtain ⟨v', w', hr, ho, hg, -, -⟩ := run_append_own_at (P := P) w base t ty e i z size bytes ht hi hz hsize hby hzs hsz v n xs hown a m c news hl hnews h1 h63 hbytes hbase
  refine ⟨v', w', hr, ho, ?_⟩
  rcases hown.2 with ⟨rfl, rfl⟩ | ⟨g, cap, cur, rfl, hbg, hg0, hnc, hcm, hcs, htake⟩
  · have hx : Ext w w' := ⟨hg.os, hg.tape, hg.output, hg.size, fun k hk => hg.block k hk (by simp [Value.ownBlock])⟩
    exact ⟨Grew.of_ext hx, fun _ => hx⟩
  · by_cases hroom : n + m ≤ cap
    · obtain ⟨w2, hr2, ho2, hg2⟩ := run_append_fits (P := P) (w := w) base t ty e i size ht hi hsize g n cap xs hown a m c news hl hnews h1 hroom
      rw [hr] at hr2
      simp only [Result.ok.injEq] at hr2
      obtain ⟨rfl, rfl⟩ := hr2
      refine ⟨⟨hg2.os, hg2.tape, hg2.output, hg2.size, fun k hk => ?_⟩, fun hf => by have := hf g cap rfl; omega⟩
      by_cases hkg : k = g
      · subst hkg
        right
        refine ⟨hbg, ?_⟩
        rcases ho2.2 with ⟨he, -⟩ | ⟨g', cap', cur', he, -, hg', -, -, hcs', ht'⟩
        · simp at he
        · simp only [Value.slice.injEq, Option.some.injEq, Addr.mk.injEq, and_true, true_and] at he
          obtain ⟨rfl, rfl⟩ := he
          refine ⟨cur, cur', e, hg0, hg', by rw [hcs, hcs'], ?_⟩
          have e1 := congrArg (List.take (n * size)) ht'
          rw [List.take_take, Nat.min_eq_left (Nat.mul_le_mul_right _ (Nat.le_add_right _ _)), ← hown.1, List.take_left] at e1
          rw [← hown.1, e1, hown.1]; exact htake.symm
      · exact .inl (hg2.block k hk (by simpa using hkg))
    · have hb2 : (n + m) * i.bytes ≤ 140737488355328 := by rw [hby]; exact hbytes
      have hr2 := run_append_grow (P := P) w t ty e i z ht hi hz ⟨g, 0, none⟩ n cap xs (by rw [hsize]; exact hown.1) (hown.cells (g := g) rfl) a m c news (by rw [hsize]; exact hl) hnews (by omega) (by simp only [maxLen] at h63; omega) (growslice_fits (by omega) hb2)
      rw [hr] at hr2
      simp only [Result.ok.injEq] at hr2
      obtain ⟨rfl, rfl⟩ := hr2
      have hx : Ext w (w.drew.alloc (.cells (xs.toArray ++ news.toArray ++ Builtin.zeroCells z.cells (grownCap w (n + m) cap e - (n + m))) e)) := (ext_drew w).alloc _
      exact ⟨Grew.of_ext hx, fun _ => hx⟩
theorem stepG_append_grew {o : Oper} {a : Act} {w : World} {S : Value → World → Prop} (hgd : o.guard = none) (s x : Operand) (t : TypeId)
    (ho : o.op = .call { callee := .builtin .append, args := #[s, x], argTypes := #[t, t] })
    (base : Nat) (e : TypeId) (i : TypeInfo) (z : Value) (size bytes : Nat) (ht : P.underlying t = some (.slice e)) (hi : P.info? e = some i) (hz : i.zero = some z)
    (hsize : i.size = size) (hby : i.bytes = bytes) (hzs : z.cells.size = size) (hsz : 0 < size)
    (v : Value) (n : Nat) (xs : List Value) (hs : a.eval s = v) (hown : w.ownsRow base e size v n xs)
    (ad : Addr) (m c : Nat) (news : List Value) (hx : a.eval x = .slice (some ad) m c) (hl : news.length = m * size) (hnews : ∀ j u, news[j]? = some u → w.cell? (ad.add j) = some u) (h1 : ∀ u ∈ news, u.oneCell' = true)
    (h63 : n + m ≤ maxLen) (hbytes : (n + m) * bytes ≤ 140737488355328) (hbase : base ≤ w.heap.size)
    (h : ∀ v' w', w'.ownsRow base e size v' (n + m) (xs ++ news) → Grew base (n * size) w w' → ((∀ g cap, v = .slice (some ⟨g, 0, none⟩) n cap → cap < n + m) → Ext w w') → S v' w') : stepG P ops o a w S := by
  obtain ⟨v', w', hr, h2, h3, h4⟩ := run_append_grew (P := P) base t o.type e i z size bytes ht hi hz hsize hby hzs hsz v n xs hown ad m c news hl hnews h1 h63 hbytes hbase
  unfold stepG
  have hw : Region.wanted o (yielded ops a.tmps) = true := by unfold Region.wanted; rw [hgd]
  rw [if_pos hw]
  unfold execOp
  simp only [ho, resolve, invoke, builtin, Sem.run_bind, Sem.run_pure, Result.andThen_ok, List.map_toArray, List.map_cons, List.map_nil, hs, hx, hr]
  exact h v' w' h2 h3 h4
/-- onto a row, of nothing -/
theorem stepG_append_none {o : Oper} {a : Act} {w : World} {S : Value → World → Prop} (hgd : o.guard = none) (s x : Operand) (t : TypeId)
    (ho : o.op = .call { callee := .builtin .append, args := #[s, x], argTypes := #[t, t] })
    (base : Nat) (e : TypeId) (i : TypeInfo) (size : Nat) (ht : P.underlying t = some (.slice e)) (hi : P.info? e = some i)
    (v : Value) (n : Nat) (xs : List Value) (hs : a.eval s = v) (hown : w.ownsRow base e size v n xs) (hx : a.eval x = .slice none 0 0)
    (h : S v w) : stepG P ops o a w S := by
  have hrun := run_append_owned_none (P := P) (w := w) base t o.type e i size ht hi v n xs hown
  unfold stepG
  have hw : Region.wanted o (yielded ops a.tmps) = true := by unfold Region.wanted; rw [hgd]
  rw [if_pos hw]
  unfold execOp
  simp only [ho, resolve, invoke, builtin, Sem.run_bind, Sem.run_pure, Result.andThen_ok, List.map_toArray, List.map_cons, List.map_nil, hs, hx, hrun]
  exact h
end Facts.App
end Go.Proofs.Ytoifmphpeflliaa

namespace Go.Proofs.Ytoifmphpeflliaa
open Go.RowKit
set_option linter.unusedVariables false
set_option linter.unusedSimpArgs false
namespace Facts.Dep.Free
open Facts.Piv (Two anyS opS any_of_anyS opS_of_stepG)
variable {P : Program} {ops : Array Oper}

theorem any_facts {E C : World → World → Prop} (T : Two E C) (p : Nat) {Q : Exit → Act → World → Prop} {a : Act} {w : World} (Φ : Nat → (Nat → Value) → World → Prop) (fix : Nat → Option Value) (hfix : ∀ i v vs w, fix i = some v → Φ i vs w → vs i = v) (hloc : ∀ i vs us w, i < ops.size → (∀ j, j = i ∨ (depsOf ops ops.size i).contains j = true → vs j = us j) → Φ i vs w → Φ i us w) (hB : okB ops = true)
    (hkeep : ∀ i vs w1 w2, i < ops.size → E w1 w2 → Φ i vs w1 → Φ i vs w2) (hkeepC : ∀ i vs w1 w2, i < ops.size → i ≠ p → (depsOf ops ops.size i).contains p = false → C w1 w2 → Φ i vs w1 → Φ i vs w2)
    (hops : ∀ i o, ops[i]? = some o → ∀ (vs : Nat → Value) w1, (∀ j v, fix j = some v → vs j = v) → C w w1 → (∀ j ∈ depsOf ops ops.size i, Φ j vs w1) → stepG P ops o (acts ops a vs (fun _ => true) i) w1 (fun u w2 => (if i = p then C w1 w2 else E w1 w2) ∧ Φ i (upd vs i u) w2))
    (hend : ∀ (vs : Nat → Value) w1, (∀ j v, fix j = some v → vs j = v) → C w w1 → (∀ i, i < ops.size → Φ i vs w1) → Q .normal (acts ops a vs (fun _ => true) ops.size) w1) : anyS P ops Q ops.size (Array.replicate ops.size false) a { w with drawn := w.drawn + 1 } := by
  have hsel : ∀ (j : Nat) (o : Oper) cs b, ops[j]? = some o → o.op ≠ .select cs b := by
    have h2 := hB
    simp only [okB, Bool.and_eq_true] at h2
    exact Region.noSelect_spec h2.1
  suffices key : ∀ (fuel : Nat) (listed : Array Bool) (vs : Nat → Value) (w1 : World), (∀ j v, fix j = some v → vs j = v) → listed.size = ops.size → listed.toList.count true + fuel = ops.size → C w w1 →
      (∀ j, listed.getD j false = true → ∀ i ∈ direct ops j, listed.getD i false = true) → (∀ j, j < ops.size → listed.getD j false = true → Φ j vs w1) →
      anyS P ops Q fuel listed (acts ops a vs (fun j => listed.getD j false) ops.size) w1 by
    have h0 := key ops.size (Array.replicate ops.size false) (fun j => (fix j).getD undef) { w with drawn := w.drawn + 1 } (fun j v h => by simp [h]) (by simp) (by simp [List.count_replicate]) (T.sub _ _ (T.d w))
      (fun j hj => by rw [getD_rep] at hj; cases hj) (fun j _ hj => by rw [getD_rep] at hj; cases hj)
    have e : acts ops a (fun j => (fix j).getD undef) (fun j => (Array.replicate ops.size false).getD j false) ops.size = a := by
      have : ∀ n, acts ops a (fun j => (fix j).getD undef) (fun j => (Array.replicate ops.size false).getD j false) n = a := by
        intro n
        induction n with
        | zero => rfl
        | succ n ih => simp only [acts]; rw [if_neg (by rw [getD_rep]; exact Bool.false_ne_true)]; exact ih
      exact this _
    rw [e] at h0
    exact h0
  intro fuel
  have hdone : ∀ (listed : Array Bool) (vs : Nat → Value) (w1 : World), (∀ j v, fix j = some v → vs j = v) → (∀ j, j < ops.size → listed.getD j false = true) → C w w1 → (∀ j, j < ops.size → listed.getD j false = true → Φ j vs w1) →
      Q .normal (acts ops a vs (fun j => listed.getD j false) ops.size) w1 := by
    intro listed vs w1 hfx hall hx hΦ
    have := hend vs w1 hfx hx fun i hi => hΦ i hi (hall i hi)
    rwa [acts_congr a vs vs (fun _ => true) (fun j => listed.getD j false) ops.size fun j hj => ⟨(hall j hj).symm, fun _ => rfl⟩] at this
  induction fuel with
  | zero =>
    intro listed vs w1 hfx hsz hc hx hcl hΦ
    have hall : ∀ j, j < ops.size → listed.getD j false = true := by
      intro j hj
      have hlen : listed.toList.count true = listed.toList.length := by simp only [Array.length_toList]; omega
      have := List.count_eq_length.1 hlen (listed[j]'(by omega)) (by simp)
      rw [Array.getD_eq_getD_getElem?, Array.getElem?_eq_getElem (by omega)]
      exact this.symm
    refine ⟨?_, hdone listed vs w1 hfx hall hx hΦ⟩
    rw [List.eq_nil_iff_forall_not_mem]
    intro i hi
    have hi1 := (mem_ready.1 hi)
    obtain ⟨o, ho, -⟩ := hi1.2
    have hlt : i < ops.size := (Array.getElem?_eq_some_iff.1 ho).1
    have h1 := hall i hlt
    have h2 := hi1.1
    rw [Array.getD_eq_getD_getElem?, Array.getElem?_eq_getElem (by omega)] at h1 h2
    simp only [Option.getD_some] at h1 h2
    rw [h1] at h2; cases h2
  | succ fuel ih =>
    intro listed vs w1 hfx hsz hc hx hcl hΦ
    refine ⟨fun h => hdone listed vs w1 hfx (all_listed hB hsz h) hx hΦ, fun i hi => ?_⟩
    obtain ⟨hi0, o, ho, hafter⟩ := mem_ready.1 hi
    have hlt : i < ops.size := (Array.getElem?_eq_some_iff.1 ho).1
    have hnot : listed.getD i false = false := by
      rw [Array.getD_eq_getD_getElem?, Array.getElem?_eq_getElem (by omega)] at hi0 ⊢
      exact hi0
    have hdir := direct_ready ho hafter
    have hdeps := dep_in hcl ops.size i hdir
    have hdl : ∀ j ∈ depsOf ops ops.size i, j < ops.size := fun j hj => by
      have := hdeps j hj
      rcases Nat.lt_or_ge j listed.size with h' | h'
      · omega
      · simp [Array.getD_eq_getD_getElem?, Array.getElem?_eq_none h'] at this
    have hst := hops i o ho vs w1 hfx hx fun j hj => hΦ j (hdl j hj) (hdeps j hj)
    -- a later one that has come up is apart from this one
    have hlater : ∀ j, i < j → j < ops.size → listed.getD j false = true → apartB ops i j = true := fun j h1 h2 h3 =>
      ((okB_spec hB j h2).2 i h1).resolve_right fun hmem => by
        have := dep_in hcl ops.size j (hcl j h3) i hmem
        rw [hnot] at this; cases this
    have hearlier : ∀ j, j < i → listed.getD j false = false → apartB ops j i = true := fun j h1 h3 =>
      ((okB_spec hB i hlt).2 j h1).resolve_right fun hmem => by
        have := hdeps j hmem
        rw [h3] at this; cases this
    have hacts : ∀ n, i ≤ n → n ≤ ops.size → ∀ t, t ∈ o.looksAt ops → (acts ops a vs (fun j => listed.getD j false) n).tmps[t]? = (acts ops a vs (fun _ => true) i).tmps[t]? := by
      intro n hin
      obtain ⟨k, rfl⟩ := Nat.exists_eq_add_of_le hin
      clear hin
      induction k with
      | zero =>
        intro _ t ht
        refine acts_slot a vs _ _ t i fun j hj hd => ?_
        cases hl : listed.getD j false with
        | true => rfl
        | false =>
          have hap := hearlier j hj hl
          have hoj : ops[j]? = some (ops[j]'(by omega)) := by simp [show j < ops.size from by omega]
          rw [hoj] at hd
          simp only [apartB, hoj, ho] at hap
          exact absurd ht ((Oper.apart_spec hap).1 t hd)
      | succ k ih2 =>
        intro hle t ht
        have ih2 := ih2 (by omega) t ht
        obtain ⟨n, hn⟩ : ∃ n, n = i + k := ⟨_, rfl⟩
        rw [← hn] at ih2
        rw [show i + (k + 1) = n + 1 from by omega]
        simp only [acts]
        by_cases hl : listed.getD n false = true
        · rw [if_pos hl]
          have hni : i ≠ n := fun e => by subst e; rw [hnot] at hl; cases hl
          have hap := hlater n (by omega) (by omega) hl
          have hon : ops[n]? = some (ops[n]'(by omega)) := by simp [show n < ops.size from by omega]
          simp only [apartB, hon, ho] at hap
          rw [put_other _ _ _ _ (fun hd => (Oper.apart_spec hap).2.2 t (by rw [hon] at hd; exact hd) ht)]
          exact ih2
        · rw [if_neg hl]; exact ih2
    have hst2 : stepG P ops o (acts ops a vs (fun j => listed.getD j false) ops.size) w1 (fun u w2 => (if i = p then C w1 w2 else E w1 w2) ∧ Φ i (upd vs i u) w2) :=
      stepG_same (hsel i o · · ho) (fun t ht => (hacts ops.size (by omega) (Nat.le_refl _) t ht).symm) hst
    refine opS_of_stepG ho hst2 ?_
    rintro v w2 ⟨hx2, hv⟩
    have hod : (ops[i]?).bind (·.dst) = o.dst := by rw [ho]; rfl
    rw [← hod, acts_put a vs (fun j => listed.getD j false) i v hnot ops.size hlt (fun j h1 h2 h3 d hd hd2 => by
      have hap := hlater j h1 h2 h3
      have hoj : ops[j]? = some (ops[j]'h2) := by simp [h2]
      simp only [apartB, hoj, ho] at hap
      rw [ho] at hd; rw [hoj] at hd2
      exact (Oper.apart_spec hap).2.1 d hd hd2)]
    have hget : ∀ j, (listed.setIfInBounds i true).getD j false = (listed.getD j false || decide (j = i)) := by
      intro j
      by_cases hji : j = i
      · subst hji; simp [Array.getD_eq_getD_getElem?, show j < listed.size from by omega]
      · rw [getD_set_ne false (Ne.symm hji)]; simp [hji]
    have := ih (listed.setIfInBounds i true) (upd vs i v) w2 (fun j u hj => by
        by_cases hji : j = i
        · subst hji; exact hfix j u _ w2 hj hv
        · simpa [upd, hji] using hfx j u hj) (by simpa using hsz) (by
        rw [Array.toList_setIfInBounds, List.count_set (by simpa using (by omega : i < listed.size))]
        have e : (listed.toList[i]'(by simpa using (by omega : i < listed.size))) = false := by
          rw [Array.getD_eq_getD_getElem?, Array.getElem?_eq_getElem (by omega)] at hnot
          simpa using hnot
        have e' : (listed.toList[i]'(by simpa using (by omega : i < listed.size)) == true) = false := by rw [e]; rfl
        rw [e']; simp only [Bool.false_eq_true, if_false, beq_self_eq_true, if_true]; omega) (by
          split at hx2
          · exact T.tc _ _ _ hx hx2
          · exact T.tc _ _ _ hx (T.sub _ _ hx2))
      (by
        intro j hj k hk
        rw [hget] at hj ⊢
        by_cases hji : j = i
        · subst hji; rw [hdir k hk]; rfl
        · simp only [hji, decide_false, Bool.or_false] at hj
          rw [hcl j hj k hk]; rfl)
      (by
        intro j hj hl
        by_cases hji : j = i
        · subst hji; exact hv
        · rw [hget] at hl
          simp only [hji, decide_false, Bool.or_false] at hl
          have hnd : (depsOf ops ops.size j).contains i = false := by
            rw [Bool.eq_false_iff, ne_eq, List.contains_iff_mem]
            intro h
            have := dep_in hcl ops.size j (hcl j hl) i h
            rw [hnot] at this; cases this
          have hold : Φ j (upd vs i v) w1 := hloc j vs _ _ hj (fun x hx => by
            unfold upd
            split
            · rename_i hxi
              subst hxi
              rcases hx with hx | hx
              · exact absurd hx.symm hji
              · rw [hnd] at hx; cases hx
            · rfl) (hΦ j hj hl)
          split at hx2
          · rename_i hip
            refine hkeepC j _ _ _ hj (fun e => hji (e.trans hip.symm)) ?_ hx2 hold
            rw [← hip]; exact hnd
          · exact hkeep j _ _ _ hj hx2 hold)
    have e2 : (fun j => (listed.setIfInBounds i true).getD j false) = fun j => listed.getD j false || decide (j = i) := funext hget
    rw [e2] at this
    exact this


def Walk (E C : World → World → Prop) (p : Nat) (P : Program) (ops : Array Oper) (w : World) (Q : Exit → Act → World → Prop) : Nat → List Oper → List Spec → List (Nat × (World → Prop)) → List (Nat × Value) → Act → Prop
  | _, [], _, env, _, a => ∀ w1, C w w1 → (∀ j f, (j, f) ∈ env → f w1) → Q .normal a w1
  | _, _ :: _, [], _, _, _ => False
  | i, o :: rest, .val v :: ss, env, us, a => (∀ w1, C w w1 → Have ops i env w1 → stepG P ops o a w1 (fun u w2 => (if i = p then C w1 w2 else E w1 w2) ∧ u = v)) ∧ Walk E C p P ops w Q (i + 1) rest ss env ((i, v) :: us) (a.put o.dst v)
  | i, o :: rest, .fact f :: ss, env, us, a => (∀ w1, C w w1 → Have ops i env w1 → stepG P ops o a w1 (fun u w2 => (if i = p then C w1 w2 else E w1 w2) ∧ f u w2)) ∧ ∀ u, Walk E C p P ops w Q (i + 1) rest ss ((i, f u) :: env) ((i, u) :: us) (a.put o.dst u)
  | i, o :: rest, .on js f :: ss, env, us, a => (∀ w1, C w w1 → Have ops i env w1 → stepG P ops o a w1 (fun u w2 => (if i = p then C w1 w2 else E w1 w2) ∧ f (js.map (look us)) u w2)) ∧ ∀ u, Walk E C p P ops w Q (i + 1) rest ss ((i, f (js.map (look us)) u) :: env) ((i, u) :: us) (a.put o.dst u)
def keepsS (E C : World → World → Prop) (ops : Array Oper) (p : Nat) : Nat → List Spec → Prop
  | _, [] => True
  | i, .val _ :: r => keepsS E C ops p (i + 1) r
  | i, .fact f :: r => (∀ u w1 w2, E w1 w2 → f u w1 → f u w2) ∧ (i ≠ p → (depsOf ops ops.size i).contains p = false → ∀ u w1 w2, C w1 w2 → f u w1 → f u w2) ∧ keepsS E C ops p (i + 1) r
  | i, .on _ f :: r => (∀ l u w1 w2, E w1 w2 → f l u w1 → f l u w2) ∧ (i ≠ p → (depsOf ops ops.size i).contains p = false → ∀ l u w1 w2, C w1 w2 → f l u w1 → f l u w2) ∧ keepsS E C ops p (i + 1) r
theorem keepsS_get {E C : World → World → Prop} {p : Nat} : ∀ (ss : List Spec) (k i : Nat) (s : Spec), keepsS E C ops p k ss → ss[i]? = some s →
    (∀ vs u w1 w2, E w1 w2 → s.holds vs u w1 → s.holds vs u w2) ∧ (k + i ≠ p → (depsOf ops ops.size (k + i)).contains p = false → ∀ vs u w1 w2, C w1 w2 → s.holds vs u w1 → s.holds vs u w2)
  | [], _, _, _, _, h => by simp at h
  | .val v :: r, k, 0, s, _, h => by simp at h; subst h; exact ⟨fun _ _ _ _ _ h => h, fun _ _ _ _ _ _ _ h => h⟩
  | .val v :: r, k, i + 1, s, hk, h => by
    have := keepsS_get r (k + 1) i s hk (by simpa using h)
    rwa [show k + 1 + i = k + (i + 1) from by omega] at this
  | .fact f :: r, k, 0, s, hk, h => by simp at h; subst h; exact ⟨fun _ => hk.1, fun hi hc _ => hk.2.1 hi hc⟩
  | .fact f :: r, k, i + 1, s, hk, h => by
    have := keepsS_get r (k + 1) i s hk.2.2 (by simpa using h)
    rwa [show k + 1 + i = k + (i + 1) from by omega] at this
  | .on js f :: r, k, 0, s, hk, h => by simp at h; subst h; exact ⟨fun vs => hk.1 (js.map vs), fun hi hc vs => hk.2.1 hi hc (js.map vs)⟩
  | .on js f :: r, k, i + 1, s, hk, h => by
    have := keepsS_get r (k + 1) i s hk.2.2 (by simpa using h)
    rwa [show k + 1 + i = k + (i + 1) from by omega] at this
theorem walk_at {E C : World → World → Prop} {p : Nat} {w : World} {Q : Exit → Act → World → Prop} {a0 : Act} (ss : List Spec) (hlb : locB ops 0 ss = true) (vs : Nat → Value) (hfx : ∀ j s v, ss[j]? = some s → s.fixed = some v → vs j = v) :
    ∀ (n k : Nat) (rest : List Oper) (env : List (Nat × (World → Prop))) (us : List (Nat × Value)) (a : Act), n + k = ops.size → (∀ j, rest[j]? = ops[k + j]?) → rest.length = n → a = acts ops a0 vs (fun _ => true) k →
      (∀ j q, (j, q) ∈ env → ∃ s, ss[j]? = some s ∧ j < k ∧ q = s.holds vs (vs j)) → (∀ j s, ss[j]? = some s → s.fixed = none → j < k → (j, s.holds vs (vs j)) ∈ env) → (∀ j, j < k → look us j = vs j) → Walk E C p P ops w Q k rest (ss.drop k) env us a →
      (∀ i o, k ≤ i → ops[i]? = some o → ∃ s, ss[i]? = some s ∧ ∀ w1, C w w1 → (∀ j ∈ depsOf ops ops.size i, j < i → ∀ s, ss[j]? = some s → s.holds vs (vs j) w1) → stepG P ops o (acts ops a0 vs (fun _ => true) i) w1 (fun u w2 => (if i = p then C w1 w2 else E w1 w2) ∧ s.holds vs u w2)) ∧
      (∀ w1, C w w1 → (∀ i s, i < ops.size → ss[i]? = some s → s.holds vs (vs i) w1) → Q .normal (acts ops a0 vs (fun _ => true) ops.size) w1) := by
  intro n
  induction n with
  | zero =>
    intro k rest env us a hk hr hl ha henv henv2 hus hw
    obtain rfl : rest = [] := List.length_eq_zero_iff.1 hl
    have e : k = ops.size := by omega
    subst e
    refine ⟨fun i o hi ho => by have := (Array.getElem?_eq_some_iff.1 ho).1; omega, fun w1 hx hall => ?_⟩
    simp only [Walk] at hw
    rw [← ha]
    refine hw w1 hx fun j q hq => ?_
    obtain ⟨s, hs, hj, rfl⟩ := henv j q hq
    exact hall j s hj hs
  | succ n ih =>
    intro k rest env us a hk hr hl ha henv henv2 hus hw
    obtain ⟨o, rest, rfl⟩ : ∃ o r, rest = o :: r := by cases rest with | nil => simp at hl | cons o r => exact ⟨o, r, rfl⟩
    have hok : ops[k]? = some o := by simpa using (hr 0).symm
    have hact : ∀ v, vs k = v → a.put o.dst v = acts ops a0 vs (fun _ => true) (k + 1) := fun v hv => by
      simp only [acts, if_true]; rw [← ha, hok, hv]; rfl
    cases hs : ss[k]? with
    | none =>
      rw [List.drop_eq_nil_of_le (by rcases Nat.lt_or_ge k ss.length with h | h; · rw [List.getElem?_eq_getElem h] at hs; cases hs
                                     · exact h)] at hw
      simp only [Walk] at hw
    | some s =>
      have hlt : k < ss.length := (List.getElem?_eq_some_iff.1 hs).1
      rw [List.drop_eq_getElem_cons hlt, (List.getElem?_eq_some_iff.1 hs).2] at hw
      have hlean : ∀ w1, (∀ j ∈ depsOf ops ops.size k, j < k → ∀ s, ss[j]? = some s → s.holds vs (vs j) w1) → Have ops k env w1 := by
        intro w1 h j q hq hc
        obtain ⟨s, hs, hj, rfl⟩ := henv j q hq
        exact h j (by simpa using hc) hj s hs
      have hr' : ∀ j, rest[j]? = ops[k + 1 + j]? := fun j => by have := hr (j + 1); simpa [Nat.add_assoc, Nat.add_comm 1 j] using this
      have hus' : ∀ v, vs k = v → ∀ j, j < k + 1 → look ((k, v) :: us) j = vs j := fun v hv j hj => by
        simp only [look]
        split
        · rename_i e; rw [← e, hv]
        · rename_i e; exact hus j (by omega)
      have hmap : s.js.map (look us) = s.js.map vs := List.map_congr_left fun j hj => hus j (by have := (locB_get ss 0 k s hlb hs j hj).2; omega)
      cases s with
      | val v =>
        simp only [Walk] at hw
        have hv : vs k = v := hfx k _ v hs rfl
        obtain ⟨h1, h2⟩ := ih (k + 1) rest env _ _ (by omega) hr' (by simpa using hl) (hact v hv) (fun j q hq => by obtain ⟨s, hs, hj, e⟩ := henv j q hq; exact ⟨s, hs, by omega, e⟩)
          (fun j s hs' hf hj => henv2 j s hs' hf (by rcases Nat.lt_or_ge j k with h | h; · exact h
                                                     · obtain rfl : j = k := by omega
                                                       rw [hs] at hs'; cases hs'; cases hf)) (hus' v hv) hw.2
        refine ⟨fun i o' hi ho => ?_, h2⟩
        rcases Nat.lt_or_ge k i with hik | hik
        · exact h1 i o' (by omega) ho
        · obtain rfl : i = k := by omega
          rw [hok] at ho; cases ho
          exact ⟨_, hs, fun w1 hx hd => by rw [← ha]; exact hw.1 w1 hx (hlean w1 hd)⟩
      | fact f =>
        simp only [Walk] at hw
        obtain ⟨h1, h2⟩ := ih (k + 1) rest _ _ _ (by omega) hr' (by simpa using hl) (hact (vs k) rfl)
          (fun j q hq => by
            rcases List.mem_cons.1 hq with e | hq
            · cases e; exact ⟨_, hs, by omega, rfl⟩
            · obtain ⟨s, hs, hj, e⟩ := henv j q hq; exact ⟨s, hs, by omega, e⟩)
          (fun j s hs' hf hj => by
            rcases Nat.lt_or_ge j k with h | h
            · exact List.mem_cons_of_mem _ (henv2 j s hs' hf h)
            · obtain rfl : j = k := by omega
              rw [hs] at hs'; cases hs'; exact List.mem_cons_self) (hus' _ rfl) (hw.2 (vs k))
        refine ⟨fun i o' hi ho => ?_, h2⟩
        rcases Nat.lt_or_ge k i with hik | hik
        · exact h1 i o' (by omega) ho
        · obtain rfl : i = k := by omega
          rw [hok] at ho; cases ho
          exact ⟨_, hs, fun w1 hx hd => by rw [← ha]; exact hw.1 w1 hx (hlean w1 hd)⟩
      | on js f =>
        simp only [Walk] at hw
        simp only [Spec.js] at hmap
        rw [hmap] at hw
        obtain ⟨h1, h2⟩ := ih (k + 1) rest _ _ _ (by omega) hr' (by simpa using hl) (hact (vs k) rfl)
          (fun j q hq => by
            rcases List.mem_cons.1 hq with e | hq
            · cases e; exact ⟨_, hs, by omega, rfl⟩
            · obtain ⟨s, hs, hj, e⟩ := henv j q hq; exact ⟨s, hs, by omega, e⟩)
          (fun j s hs' hf hj => by
            rcases Nat.lt_or_ge j k with h | h
            · exact List.mem_cons_of_mem _ (henv2 j s hs' hf h)
            · obtain rfl : j = k := by omega
              rw [hs] at hs'; cases hs'; exact List.mem_cons_self) (hus' _ rfl) (hw.2 (vs k))
        refine ⟨fun i o' hi ho => ?_, h2⟩
        rcases Nat.lt_or_ge k i with hik | hik
        · exact h1 i o' (by omega) ho
        · obtain rfl : i = k := by omega
          rw [hok] at ho; cases ho
          exact ⟨_, hs, fun w1 hx hd => by rw [← ha]; exact hw.1 w1 hx (hlean w1 hd)⟩

/-- THE RULE, for a region whose operations are written out: a spec for each operation, the walk in the text's order. -/
theorem any_region {E C : World → World → Prop} (T : Two E C) (p : Nat) {Q : Exit → Act → World → Prop} {a : Act} {w : World} {l : List Oper} (ss : List Spec) (hB : okB l.toArray = true) (hlb : locB l.toArray 0 ss = true) (hk : keepsS E C l.toArray p 0 ss)
    (h : Walk E C p P l.toArray w Q 0 l ss [] [] a) : anyS P l.toArray Q l.toArray.size (Array.replicate l.toArray.size false) a { w with drawn := w.drawn + 1 } := by
  have base := fun vs hfx => walk_at (E := E) (C := C) (p := p) (P := P) (ops := l.toArray) (w := w) (Q := Q) (a0 := a) ss hlb vs hfx l.length 0 l [] [] a (by simp) (by simp) rfl rfl (fun _ _ h => by cases h) (fun _ _ _ _ h => by omega) (fun _ h => by omega) h
  refine any_facts T p (fun i vs => match ss[i]? with | some s => s.holds vs (vs i) | none => fun _ => False) (fun i => (ss[i]?).bind Spec.fixed) ?_ ?_ hB ?_ ?_ ?_ ?_
  · intro i v vs w hv hu
    cases hs : ss[i]? with
    | none => simp [hs] at hv
    | some s => cases s with
      | val x => simp only [hs, Option.bind_some, Spec.fixed, Option.some.injEq] at hv; subst hv; simpa [hs, Spec.holds] using hu
      | fact f => simp [hs, Spec.fixed] at hv
      | on js f => simp [hs, Spec.fixed] at hv
  · intro i vs us w hi hj hu
    cases hs : ss[i]? with
    | none => simp [hs] at hu
    | some s =>
      simp only [hs] at hu ⊢
      rw [← hj i (.inl rfl)]
      exact holds_loc (fun j hjs => hj j (.inr (by have := (locB_get ss 0 i s hlb hs j hjs).1; rwa [Nat.zero_add] at this))) hu
  · intro i vs w1 w2 _ hx hu
    cases hs : ss[i]? with
    | none => simp [hs] at hu
    | some s => simp only [hs] at hu ⊢; exact (keepsS_get ss 0 i s hk hs).1 vs _ w1 w2 hx hu
  · intro i vs w1 w2 _ hip hc hx hu
    cases hs : ss[i]? with
    | none => simp [hs] at hu
    | some s => simp only [hs] at hu ⊢; exact (keepsS_get ss 0 i s hk hs).2 (by rw [Nat.zero_add]; exact hip) (by rw [Nat.zero_add]; exact hc) vs _ w1 w2 hx hu
  · intro i o ho vs w1 hfx hx hd
    obtain ⟨h1, -⟩ := base vs fun j s v hs hv => hfx j v (by simp [hs, hv])
    obtain ⟨s, hs, hst⟩ := h1 i o (Nat.zero_le _) ho
    simp only [hs]
    have hst := hst w1 hx fun j hj _ s' hs' => by
      have := hd j hj
      simpa only [hs'] using this
    refine stepG_mono hst fun u w2 ⟨h1, h2⟩ => ⟨h1, ?_⟩
    have e : upd vs i u i = u := by simp [upd]
    rw [e]
    refine holds_loc (fun j hjs => ?_) h2
    have := (locB_get ss 0 i s hlb hs j hjs).2
    simp only [upd]
    rw [if_neg (by omega)]
  · intro vs w1 hfx hx hall
    obtain ⟨-, h2⟩ := base vs fun j s v hs hv => hfx j v (by simp [hs, hv])
    refine h2 w1 hx fun i s hi hs => ?_
    have := hall i hi
    simpa only [hs] using this
theorem wp_region {E C : World → World → Prop} (T : Two E C) (p : Nat) {id : Nat} {Q : Exit → Act → World → Prop} {a : Act} {w : World} {l : List Oper} (ss : List Spec) (hm : P.follows .mixedOrders = true) (hB : okB l.toArray = true) (hlb : locB l.toArray 0 ss = true) (hk : keepsS E C l.toArray p 0 ss)
    (h : Walk E C p P l.toArray w Q 0 l ss [] [] a) : (Code.region id l.toArray true).wp P Q a w :=
  wp_region_any hm (any_of_anyS _ _ _ _ (any_region T p ss hB hlb hk h))
end Facts.Dep.Free
end Go.Proofs.Ytoifmphpeflliaa

namespace Go.Proofs.Ytoifmphpeflliaa
open Go.RowKit
namespace Facts
theorem wp_frame {P : Program} {c : Code} {Q : Exit → Act → World → Prop} {a : Act} {w : World} (h : ∀ A : Act, A = a → Code.wp P c Q A w) : Code.wp P c Q a w := h a rfl
theorem eval_put_same (a : Act) (t : Nat) (v : Value) (h : t < a.tmps.size) : (a.put (some t) v).eval (.tmp t) = v := by
  simp only [Act.put, Act.eval]
  rw [Array.getD_eq_getD_getElem?, Array.getElem?_setIfInBounds_self, if_pos h]; rfl
theorem eval_put_other (a : Act) (d t : Nat) (v : Value) (h : d ≠ t) : (a.put (some d) v).eval (.tmp t) = a.eval (.tmp t) := by
  simp only [Act.put, Act.eval]
  rw [Array.getD_eq_getD_getElem?, Array.getD_eq_getD_getElem?, Array.getElem?_setIfInBounds_ne h]
theorem eval_put_none (a : Act) (v : Value) (o : Operand) : (a.put none v).eval o = a.eval o := rfl
theorem eval_const (a : Act) (v : Value) : a.eval (.const v) = v := rfl
theorem eval_func (a : Act) (f : FuncId) : a.eval (.func f) = .func (.func f) #[] #[] := rfl
theorem size_put (a : Act) (d : Option Tmp) (v : Value) : (a.put d v).tmps.size = a.tmps.size := put_size a d v
end Facts
end Go.Proofs.Ytoifmphpeflliaa

namespace Go.Proofs.Ytoifmphpeflliaa
open Go.RowKit
def findBlock (n : Nat) : Code → Option Code
  | .block i c => if i = n then some (.block i c) else findBlock n c
  | .seq a b => match findBlock n a with
    | some c => some c
    | none => findBlock n b
  | .loop c => findBlock n c
  | .scope c => findBlock n c
  | .cond _ a b => match findBlock n a with
    | some c => some c
    | none => findBlock n b
  | _ => none
def findCond (t : Nat) : Code → Option Code
  | .cond (.tmp i) a b => if i = t then some (.cond (.tmp i) a b) else match findCond t a with
    | some c => some c
    | none => findCond t b
  | .seq a b => match findCond t a with
    | some c => some c
    | none => findCond t b
  | .loop c => findCond t c
  | .scope c => findCond t c
  | .block _ c => findCond t c
  | _ => none
noncomputable def blockOf (f : Func) (n : Nat) : Code := ((f.body.bind (findBlock n)).getD .skip)
noncomputable def condOf (f : Func) (n : Nat) : Code := ((f.body.bind (findCond n)).getD .skip)
end Go.Proofs.Ytoifmphpeflliaa
