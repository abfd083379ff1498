/-
  A LIST OF WORDS APPENDED to a row of words of the call's own; and the letter of a form and fills: filled of the program.
  THE LETTER OF A FORM AND FILLS: filled of the program.
  THE ERROR OF WHAT IS PUT INTO THE ROOMS OF A FORM: fillsError of the program.
  WHAT shortest RETURNS: for each sound the first letter that gives it.
  WHAT IS SO OF A BOOK WITHOUT AN ERROR. Plain facts.
  WHAT IS SO OF A SHELF WITHOUT AN ERROR. Plain facts.
  A LETTER THAT IS MADE: Make of the program.
  WHERE THE WORDS OF A LETTER CAN STAND: given and part.slots of the program.
  WHERE THE WORDS OF A PART CAN STAND: part.slots of the program.
  WHERE THE WORDS OF A LETTER OF A FORM CAN STAND: form.slots of the program.
  WHETHER A WORD CAN STAND IN A SLOT: slot.takes of the program.
  WHICH FILLS COME FIRST: counts.before of the program.
  WHAT IS DONE BY EACH KIND OF MARKS: kinds of the program.
-/
import Derived.Test.YtnfbhicoknpojaaGreatBunAC
import Derived.Outline
import Derived.Laws.IdiomStrings
namespace Go.Proofs.YtnfbhicoknpojaaGreat
set_option linter.unusedSimpArgs false
set_option linter.unusedVariables false
open Go.RowKit
set_option linter.unusedVariables false

theorem infoString : (Tryz.prog.info? 9).map (fun i => (i.zero, i.size, i.bytes)) = some (some (.string ByteArray.empty), 1, 16) := by kernel_rfl
/-- a row of words of the call's own -/
def RowW (base : Nat) (l : List ByteArray) (u : Value) (w : World) : Prop := w.ownsRow base 9 1 u l.length (l.map Value.string)
theorem RowW.ext {base : Nat} {l : List ByteArray} {u : Value} {w w' : World} (h : RowW base l u w) (hx : Ext w w') : RowW base l u w' := Ext.owns h hx
theorem RowW.nil {base : Nat} {w : World} : RowW base [] (.slice none 0 0) w := World.ownsRow_nil _ _ _ _
theorem RowW.at_ {base : Nat} {l : List ByteArray} {u : Value} {w : World} (h : RowW base l u w) (hI : ∀ s ∈ l, s.size ≤ 9223372036854775807) : StrsAt w u l := by
  have hcells := fun g hg => h.cells (g := g) hg
  rcases h.2 with ⟨rfl, hn⟩ | ⟨g, cap, cur, rfl, hb, hg, hnc, hcm, hcs, htake⟩
  · have : l = [] := List.eq_nil_of_length_eq_zero hn
    subst this; exact SliceAt.nil
  · refine ⟨_, _, rfl, hnc, by simpa [maxLen] using hcm, fun i hi => ⟨g, 0, rfl, ?_, hI _ (List.getElem_mem hi)⟩⟩
    have := hcells g rfl i (.string l[i]) (by rw [List.getElem?_eq_getElem (by simpa using hi), List.getElem_map])
    rw [show (⟨g, 0, none⟩ : Addr).add i = ⟨g, 0 + i, none⟩ by unfold Addr.add; split <;> simp_all] at this
    simpa using this
theorem StrsAt.sizes {w : World} {v : Value} {l : List ByteArray} (h : StrsAt w v l) : ∀ s ∈ l, s.size ≤ 9223372036854775807 := fun s hs => by
  obtain ⟨i, hi, rfl⟩ := List.getElem_of_mem hs
  obtain ⟨_, _, -, -, -, hh⟩ := h
  obtain ⟨_, _, -, -, h2⟩ := hh i hi
  exact h2
theorem run_append_strs {w : World} (base : Nat) (t ty : TypeId) (i : TypeInfo) (ht : Tryz.prog.underlying t = some (.slice 9)) (hi : Tryz.prog.info? 9 = some i) (hz : i.zero = some (.string ByteArray.empty)) (hsize : i.size = 1) (hby : i.bytes = 16)
    (v : Value) (l0 : List ByteArray) (hown : RowW base l0 v w) (sv : Value) (l : List ByteArray) (hs : StrsAt w sv l) (hb : (l0.length + l.length) * 16 ≤ 140737488355328) (hbase : base ≤ w.heap.size) :
    ∃ v' w', (Builtin.append_ #[t, t] ty #[v, sv]).run Tryz.prog w = .ok v' w' ∧ RowW base (l0 ++ l) v' w' ∧ w.grownBy w' v.ownBlock ∧ (v'.ownBlock = v.ownBlock ∨ v'.ownBlock = some w.heap.size) := by
  obtain ⟨a, cap, rfl, hlc, hcm⟩ := hs.shape
  cases a with
  | none =>
    have hl : l = [] := by
      rcases Nat.eq_zero_or_pos l.length with h | h
      · exact List.eq_nil_of_length_eq_zero h
      · obtain ⟨b, o, e, -⟩ := hs.get h
        cases e
    subst hl
    refine ⟨v, w, ?_, by rw [List.append_nil]; exact hown, World.grownBy.refl _ _, .inl rfl⟩
    rcases hown.2 with ⟨rfl, hn⟩ | ⟨g, cp, cur, rfl, _, _, hnc, _⟩
    · simp [Builtin.append_, run_underlying ht, sizeOf, typeInfo, hi, Builtin.lenOf, Builtin.firstCells]
    · simp [Builtin.append_, run_underlying ht, sizeOf, typeInfo, hi, Builtin.lenOf, Builtin.firstCells, hnc, storeCells]
  | some ad =>
    obtain ⟨v', w', hr, h2, h3, -, h5⟩ := run_append_own_at (P := Tryz.prog) w base t ty 9 i (.string ByteArray.empty) 1 16 ht hi hz hsize hby (by rfl) (by decide) v l0.length (l0.map Value.string) hown ad l.length cap (l.map Value.string) (by simp) (fun j u hu => by
      have hj : j < l.length := by
        rcases Nat.lt_or_ge j l.length with h | h
        · exact h
        · rw [List.getElem?_eq_none (by simpa using h)] at hu; cases hu
      obtain ⟨b, o, e, h1, -⟩ := hs.get hj
      obtain rfl := Option.some.inj e
      rw [List.getElem?_eq_getElem (by simpa using hj), List.getElem_map] at hu
      obtain rfl := Option.some.inj hu
      rw [show (⟨b, o, none⟩ : Addr).add j = ⟨b, o + j * 1, none⟩ by unfold Addr.add; split <;> simp_all]
      exact h1) (fun u hu => by
      obtain ⟨x, -, rfl⟩ := List.mem_map.1 hu
      simp [Value.oneCell']) (by unfold maxLen; omega) hb hbase
    exact ⟨v', w', hr, by unfold RowW; rw [List.length_append, List.map_append]; exact h2, h3, h5⟩
theorem wpList_append_strs {w : World} {ops : Array Oper} {rest : List Oper} {o : Oper} {a : Act} {Q : Exit → Act → World → Prop} (hgd : o.guard = none) (s x : Operand) (t : TypeId)
    (ho : o.op = .call { callee := .builtin .append, args := #[s, x], argTypes := #[t, t] })
    (base : Nat) (i : TypeInfo) (ht : Tryz.prog.underlying t = some (.slice 9)) (hi : Tryz.prog.info? 9 = some i) (hz : i.zero = some (.string ByteArray.empty)) (hsize : i.size = 1) (hby : i.bytes = 16)
    (v : Value) (l0 : List ByteArray) (hs : a.eval s = v) (hown : RowW base l0 v w) (sv : Value) (hxv : a.eval x = sv) (l : List ByteArray) (hl : StrsAt w sv l) (hb : (l0.length + l.length) * 16 ≤ 140737488355328) (hbase : base ≤ w.heap.size)
    (h : ∀ v' w', RowW base (l0 ++ l) v' w' → w.grownBy w' v.ownBlock → (v'.ownBlock = v.ownBlock ∨ v'.ownBlock = some w.heap.size) → wpList Tryz.prog ops Q rest (a.put o.dst v') w') :
    wpList Tryz.prog ops Q (o :: rest) a w := by
  refine wpList_plain hgd fun K hK => ?_
  obtain ⟨v', w', hr, h2, h3, h5⟩ := run_append_strs base t o.type i ht hi hz hsize hby v l0 hown sv l hl hb hbase
  unfold Oper.wp execOp
  simp only [ho, resolve, invoke, builtin, Sem.run_bind, Sem.run_pure, Result.andThen_ok, List.map_toArray, List.map_cons, List.map_nil, hs, hxv, hr]
  exact hK _ _ (h v' w' h2 h3 h5)
end Go.Proofs.YtnfbhicoknpojaaGreat

namespace Go.Proofs.YtnfbhicoknpojaaGreat
set_option linter.unusedSimpArgs false
set_option linter.unusedVariables false
open Go.RowKit
set_option linter.unusedVariables false

def stepB (ps : List Part) (k : Nat) (st : List ByteArray × List (List ByteArray)) : List ByteArray × List (List ByteArray) :=
  if roomyM (ps.getD k ⟨[], 0, 0⟩) then (st.1 ++ st.2.headD [], st.2.tail) else (st.1 ++ (ps.getD k ⟨[], 0, 0⟩).words, st.2)
def builtTo (ps : List Part) (fs : List (List ByteArray)) : Nat → List ByteArray × List (List ByteArray)
  | 0 => ([], fs)
  | k + 1 => stepB ps k (builtTo ps fs k)
/-- the letter of a form and fills -/
def builtM (ps : List Part) (fs : List (List ByteArray)) : List ByteArray := (builtTo ps fs ps.length).1
theorem FillsAt.tail {w : World} {b o n c : Nat} {x : List ByteArray} {r : List (List ByteArray)} (h : FillsAt w (.slice (some ⟨b, o, none⟩) n c) (x :: r)) : FillsAt w (.slice (some ⟨b, o + 1, none⟩) r.length (c - 1)) r := by
  obtain ⟨a', cap', e, h2, h3, h4⟩ := h
  obtain ⟨rfl, rfl, rfl⟩ := Value.slice.inj e
  have hc : r.length + 1 ≤ c := h2
  refine ⟨_, _, rfl, by omega, by omega, fun i hi => ⟨b, o + 1, rfl, ?_⟩⟩
  obtain ⟨b', o', e', hr⟩ := h4 (i + 1) (by simp; omega)
  simp only [Option.some.injEq, Addr.mk.injEq, and_true] at e'
  obtain ⟨rfl, rfl⟩ := e'
  rw [show o + 1 + i * 1 = o + (i + 1) * 1 by omega]
  exact hr
theorem FillsAt.none_left {w : World} {v : Value} {a : Option Addr} {c : Nat} (hc : c ≤ 9223372036854775807) : FillsAt w (.slice a 0 c) [] := ⟨a, c, rfl, Nat.zero_le _, hc, fun i h => by simp at h⟩
theorem rooms_count (ps : List Part) (k : Nat) (h : k < ps.length) : (roomsM (ps.take (k + 1))).length = (roomsM (ps.take k)).length + if roomyM ps[k] = true then 1 else 0 := by
  cases hr : roomyM ps[k]
  · rw [rooms_no ps k h hr]; simp
  · rw [rooms_yes ps k h hr]; simp

set_option maxRecDepth 100000 in
set_option maxHeartbeats 2000000 in
theorem filled_any (fv v : Value) (f : Form) (fs : List (List ByteArray)) (h5 : f.parts.length ≤ 5) (h3 : ∀ p ∈ f.parts, p.words.length ≤ 3) (hf3 : ∀ l ∈ fs, l.length ≤ 3) (hn : (roomsM f.parts).length = fs.length) (w : World) (hf : FormV w fv f) (hfs : FillsAt w v fs) :
    Calls Tryz.prog 50 #[fv, v] w fun e w' => ∃ u, e = .returned u ∧ StrsAt w' u (builtM f.parts fs) ∧ Ext w w' := by
  obtain ⟨pv, rfl, hns, hp⟩ := hf
  obtain ⟨a, cap, rfl, hlc, hcm⟩ := hp.shape
  obtain ⟨i0, hi, hz0, hz1, hz2⟩ := info_parts infoString
  go_enter Tryz.func50, Tryz.ntmps50
  go_wp2_with fail
  go_loopw [1, 5, 12] (fun r u i wr => ∃ k : Nat, k ≤ f.parts.length ∧ i = .int .i64 k ∧ Ext w wr ∧ RowW w.heap.size (builtTo f.parts fs k).1 u wr ∧ FillsAt w r (builtTo f.parts fs k).2 ∧ (builtTo f.parts fs k).2.length + (roomsM (f.parts.take k)).length = fs.length ∧ (builtTo f.parts fs k).1.length ≤ 3 * k ∧ (∀ l ∈ (builtTo f.parts fs k).2, l.length ≤ 3) ∧ ∀ s ∈ (builtTo f.parts fs k).1, s.size ≤ 9223372036854775807) (fun _ _ i _ => f.parts.length - (intOf i).toNat)
  case atStart => exact ⟨0, Nat.zero_le _, rfl, ext_alloc _ _, RowW.nil, hfs, by simp [builtTo, roomsM], by simp [builtTo], hf3, by simp [builtTo]⟩
  case round =>
    obtain ⟨k, hk, rfl, hxr, hown, hr, hcnt, hlen, hr3, hsz⟩ := hrel
    by_cases hlt : k < f.parts.length
    · have k1 : (k : Int) < (f.parts.length : Int) := by omega
      obtain ⟨b, o, rfl, ⟨u, h1, hs⟩, h2, h3', hlo, hhi⟩ := hp.get hlt
      replace h1 := hxr.cell h1
      replace h2 := hxr.cell h2
      replace h3' := hxr.cell h3'
      have hy3 := h3 f.parts[k] (List.getElem_mem hlt)
      have hst : builtTo f.parts fs (k + 1) = stepB f.parts k (builtTo f.parts fs k) := rfl
      have hgd : f.parts.getD k ⟨[], 0, 0⟩ = f.parts[k] := by rw [List.getD_eq_getElem?_getD, List.getElem?_eq_getElem hlt]; rfl
      have hrc := rooms_count f.parts k hlt
      unfold stepB at hst
      rw [hgd] at hst
      have hmono : (roomsM (f.parts.take (k + 1))).length ≤ fs.length := by
        rw [← hn]
        unfold roomsM
        exact List.Sublist.length_le (List.Sublist.filter _ (List.take_sublist _ _))
      generalize f.parts[k] = y at *
      obtain ⟨ua, uc, rfl, -⟩ := hs.shape
      have hszr := hxr.size
      generalize hbt : builtTo f.parts fs k = bt at *
      obtain ⟨ws, rs⟩ := bt
      simp only at hown hr hcnt hlen hr3 hsz hst
      have Hbt := Lib.hid hbt
      have Hst := Lib.hid hst
      have Hrc := Lib.hid hrc
      have Hs := Lib.hid hs
      have Hr := Lib.hid hr
      have Hcnt := Lib.hid hcnt
      have Hr3 := Lib.hid hr3
      have Hsz := Lib.hid hsz
      have Hmono := Lib.hid hmono
      clear hbt hst hgd hrc hs hcnt hr3 hsz hmono
      cases hro : roomyM y
      · have e0 : ((y.words.length : Int) == 0) = false := by
          unfold roomyM at hro
          simp at hro ⊢
          exact hro
        have Hs2 : Hid (builtTo f.parts fs (k + 1) = (ws ++ y.words, rs)) := Lib.hid (by rw [Hst.out, hro]; rfl)
        have Hc2 : Hid ((roomsM (f.parts.take (k + 1))).length = (roomsM (f.parts.take k)).length) := Lib.hid (by rw [Hrc.out, hro]; simp)
        have Hyz := Lib.hid Hs.out.sizes
        clear hro hr
        go_wp2_with fail
        refine (isRoom_any ua _ uc y.lo y.hi _).mono ?_
        rintro e w1 ⟨rfl, hx1⟩
        rw [e0]
        have hx2 : Ext w w1 := (hxr.alloc _).trans hx1
        have d0 : w1.cell? ⟨wr.heap.size, 0, none⟩ = some (.slice ua y.words.length uc) := hx1.cell (by simp [go_sem])
        have own1 := RowW.ext hown (Ext.trans (ext_alloc _ _) hx1)
        have hs1 := Hs.out.ext hx2
        have hz := hx2.size
        clear e0 h1 h2 h3' hown
        go_wp2_with ((at_builtin; go_loud (refine wpList_append_strs rfl _ _ 48 rfl w.heap.size i0 Tryz.underlying48 hi hz0 hz1 hz2 u5 _ rfl own1 (.slice ua y.words.length uc) rfl y.words hs1 (by omega) (by omega) ?_; intro v' w2 hown' hgrow _)))
        have hx3 : Ext w w2 := Ext.grown hx2 hgrow fun k hk => (World.ownsRow.lt own1 k hk).1
        go_roundw
        case rel => exact ⟨k + 1, by omega, by go_num, hx3, by rw [Hs2.out]; exact hown', by rw [Hs2.out]; exact Hr.out, by rw [Hs2.out, Hc2.out]; exact Hcnt.out, by rw [Hs2.out]; simp only [List.length_append]; omega, by rw [Hs2.out]; exact Hr3.out, by
          rw [Hs2.out]
          intro s hs
          rcases List.mem_append.1 hs with h | h
          · exact Hsz.out s h
          · exact Hyz.out s h⟩
        case measure => simp [intOf]; omega
      · have e0 : ((y.words.length : Int) == 0) = true := by
          unfold roomyM at hro
          simp at hro ⊢
          exact hro
        obtain ⟨x, r2, rfl⟩ : ∃ x r2, rs = x :: r2 := by
          cases rs with
          | nil =>
            exfalso
            have h7 := Hcnt.out
            have h8 := Hmono.out
            rw [Hrc.out, hro] at h8
            simp at h7 h8
            omega
          | cons x r2 => exact ⟨x, r2, rfl⟩
        have Hs2 : Hid (builtTo f.parts fs (k + 1) = (ws ++ x, r2)) := Lib.hid (by rw [Hst.out, hro]; rfl)
        have Hc2 : Hid ((roomsM (f.parts.take (k + 1))).length = (roomsM (f.parts.take k)).length + 1) := Lib.hid (by rw [Hrc.out, hro]; simp)
        have hx3l := Hr3.out x (by simp)
        clear hro
        have hr' := hr
        obtain ⟨ra, rc, rfl, hrl, hrm⟩ := hr'.shape
        obtain ⟨rb, ro, rfl, ⟨xv, g1, hxs⟩⟩ := hr.get (show 0 < (x :: r2).length by simp)
        replace g1 := hxr.cell g1
        simp only [Nat.zero_mul, Nat.add_zero] at g1
        have hrl1 : (x :: r2).length = r2.length + 1 := by simp
        have htail := hr.tail
        rw [hrl1] at hrl ⊢
        have Hxz := Lib.hid hxs.sizes
        have Hxs := Lib.hid hxs
        have Htail := Lib.hid htail
        clear hr hxs htail hrl1
        obtain ⟨xa, xc, rfl, -⟩ := Hxs.out.shape
        go_wp2_with fail
        refine (isRoom_any ua _ uc y.lo y.hi _).mono ?_
        rintro e w1 ⟨rfl, hx1⟩
        rw [e0]
        have hx2 : Ext w w1 := (hxr.alloc _).trans hx1
        have own1 := RowW.ext hown (Ext.trans (ext_alloc _ _) hx1)
        have hs1 := Hxs.out.ext hx2
        have hz := hx2.size
        replace g1 := ((ext_alloc _ _).trans hx1).cell g1
        have kr : (0 : Int) < ((r2.length + 1 : Nat) : Int) := by omega
        clear e0 h1 h2 h3' hown
        by_cases hc1 : rc = 1
        · subst hc1
          obtain rfl : r2 = [] := List.eq_nil_of_length_eq_zero (by omega)
          go_wp2_with ((at_builtin; go_loud (refine wpList_append_strs rfl _ _ 48 rfl w.heap.size i0 Tryz.underlying48 hi hz0 hz1 hz2 u5 _ rfl own1 (.slice xa x.length xc) rfl x hs1 (by omega) (by omega) ?_; intro v' w2 hown' hgrow _)))
          have hx3 : Ext w w2 := Ext.grown hx2 hgrow fun k hk => (World.ownsRow.lt own1 k hk).1
          go_roundw
          case rel => exact ⟨k + 1, by omega, by go_num, hx3, by rw [Hs2.out]; exact hown', by rw [Hs2.out]; exact FillsAt.none_left (v := .slice none 0 0) (by omega), by rw [Hs2.out, Hc2.out]; have := Hcnt.out; simp at this ⊢; omega, by rw [Hs2.out]; simp only [List.length_append]; omega, by rw [Hs2.out]; exact fun l hl => Hr3.out l (List.mem_cons_of_mem _ hl), by
            rw [Hs2.out]
            intro s hs
            rcases List.mem_append.1 hs with h | h
            · exact Hsz.out s h
            · exact Hxz.out s h⟩
          case measure => simp [intOf]; omega
        · go_wp2_with ((at_builtin; go_loud (refine wpList_append_strs rfl _ _ 48 rfl w.heap.size i0 Tryz.underlying48 hi hz0 hz1 hz2 u5 _ rfl own1 (.slice xa x.length xc) rfl x hs1 (by omega) (by omega) ?_; intro v' w2 hown' hgrow _)))
          have hx3 : Ext w w2 := Ext.grown hx2 hgrow fun k hk => (World.ownsRow.lt own1 k hk).1
          go_roundw
          case rel => exact ⟨k + 1, by omega, by go_num, hx3, by rw [Hs2.out]; exact hown', by rw [Hs2.out]; exact Htail.out, by rw [Hs2.out, Hc2.out]; have := Hcnt.out; simp at this ⊢; omega, by rw [Hs2.out]; simp only [List.length_append]; omega, by rw [Hs2.out]; exact fun l hl => Hr3.out l (List.mem_cons_of_mem _ hl), by
            rw [Hs2.out]
            intro s hs
            rcases List.mem_append.1 hs with h | h
            · exact Hsz.out s h
            · exact Hxz.out s h⟩
          case measure => simp [intOf]; omega
    · have hke : k = f.parts.length := by omega
      subst hke
      go_wp2
      go_ret
      exact ⟨_, rfl, RowW.at_ hown hsz, hxr⟩
end Go.Proofs.YtnfbhicoknpojaaGreat

namespace Go.Proofs.YtnfbhicoknpojaaGreat
set_option linter.unusedSimpArgs false
set_option linter.unusedVariables false
open Go.RowKit
set_option linter.unusedVariables false

/-- the error of one fill, by how many come before it -/
def fillErrM (rooms : List Part) (before : List (List ByteArray)) (x : List ByteArray) : Int :=
  if inM x.length (rooms.getD before.length ⟨[], 0, 0⟩).lo (rooms.getD before.length ⟨[], 0, 0⟩).hi = false then 7 else if wordsM x = false then 6 else 0
set_option maxHeartbeats 1000000 in
set_option maxRecDepth 100000 in
theorem fillError1_any (rv v u : Value) (rooms : List Part) (l : List (List ByteArray)) (x : List ByteArray) (p : Addr) (w : World) (hr : PartsAt w rv rooms) (hc : w.cell? p = some rv) (hl : FillsAt w v l) (hk : l.length < rooms.length) (hu : StrsAt w u x) :
    Calls Tryz.prog 92 #[v, u, .pointer (some p)] w fun e w' => e = .returned (.int .i64 (fillErrM rooms l x)) ∧ Ext w w' := by
  obtain ⟨ra, rc, rfl, hrc, hrm⟩ := hr.shape
  obtain ⟨a, cap, rfl, hlc, hcm⟩ := hl.shape
  obtain ⟨ua, uc, rfl, huc, hum⟩ := hu.shape
  obtain ⟨b, off, rfl, -, h1, h2, i1, i2⟩ := hr.get hk
  have hd : rooms.getD l.length ⟨[], 0, 0⟩ = rooms[l.length] := by simp [hk]
  have he : fillErrM rooms l x = if inM x.length rooms[l.length].lo rooms[l.length].hi = false then 7 else if wordsM x = false then 6 else 0 := by rw [fillErrM, hd]
  have He := Lib.hid he
  clear he hd
  generalize hy : rooms[l.length] = y at *
  clear hy
  have hxl : I64 (x.length : Int) := ⟨by omega, by omega⟩
  have k1 : (l.length : Int) < (rooms.length : Int) := by omega
  have zp := cell_lt hc
  have zb := cell_lt h1
  go_enter Tryz.func92, Tryz.ntmps92
  go_wp2_with fail
  refine (within_any _ _ _ [(x.length : Int)] _ (IntsAt.oneAt (by simp) hxl)).mono ?_
  rintro e w' ⟨rfl, rfl⟩
  rw [withinM_one]
  cases h3 : inM x.length y.lo y.hi
  · have ho : fillErrM rooms l x = 7 := by rw [He.out, if_pos h3]
    clear h3
    go_wp2
    go_ret
    exact ⟨ret_int ho.symm, (by first | (with_reducible exact Ext.refl _) | (with_reducible assumption) | (show Below _ _ _; go_grown; done))⟩
  · have ho : fillErrM rooms l x = if wordsM x = false then 6 else 0 := by rw [He.out, if_neg (by rw [h3]; decide)]
    have Ho := Lib.hid ho
    clear h3 ho
    go_wp2_with fail
    refine (areWords_any _ x _ (hu.ext (by first | (with_reducible exact Ext.refl _) | (with_reducible assumption) | (show Below _ _ _; go_grown; done)))).mono ?_
    rintro e w1 ⟨rfl, hx1⟩
    have hx2 : Ext w w1 := Ext.trans (by first | (with_reducible exact Ext.refl _) | (with_reducible assumption) | (show Below _ _ _; go_grown; done)) hx1
    clear hx1
    cases h4 : wordsM x
    · have ho : fillErrM rooms l x = 6 := by rw [Ho.out, if_pos h4]
      clear h4
      go_wp2
      go_ret
      exact ⟨ret_int ho.symm, hx2⟩
    · have ho : fillErrM rooms l x = 0 := by rw [Ho.out, if_neg (by rw [h4]; decide)]
      clear h4
      go_wp2
      go_ret
      exact ⟨ret_int ho.symm, hx2⟩

set_option maxHeartbeats 1000000 in
set_option maxRecDepth 100000 in
theorem firstFill_any (rv v : Value) (rooms : List Part) (l : List (List ByteArray)) (p : Addr) (w : World) (hr : PartsAt w rv rooms) (hp : w.cell? p = some rv) (hl : FillsAt w v l) (hle : l.length ≤ rooms.length) :
    Calls Tryz.prog 91 #[v, .func (.func 92) #[] #[.pointer (some p)]] w
      fun e w' => e = .returned (.tuple #[.int .i64 (firstErr (fillErrM rooms) l).1, .int .i64 (firstErr (fillErrM rooms) l).2]) ∧ Ext w w' := by
  obtain ⟨a, cap, rfl, hlc, hcm⟩ := hl.shape
  go_enter Tryz.func91, Tryz.ntmps91
  go_wp2
  go_loopw [11] (fun i wr => ∃ k : Nat, k ≤ l.length ∧ i = .int .i64 k ∧ firstErrFrom (fillErrM rooms) (l.take k) (l.drop k) = firstErr (fillErrM rooms) l ∧ Ext w wr) (fun i _ => l.length - (intOf i).toNat)
  case atStart => exact ⟨0, Nat.zero_le _, rfl, rfl, Ext.refl _⟩
  case round =>
    obtain ⟨k, hk, rfl, hd, hx⟩ := hrel
    have Hd := Lib.hid hd; clear hd
    by_cases hlt : k < l.length
    · have hls := hl.ext hx
      have hkc : k ≤ cap := by omega
      obtain ⟨bb, off, rfl, u, h2, hy2⟩ := hls.get hlt
      rw [Nat.mul_one] at h2
      generalize hy : l[k] = y at *
      have Hy := Lib.hid hy; clear hy
      obtain ⟨ua, uc, rfl, -⟩ := hy2.shape
      have htl : (l.take k).length < rooms.length := by rw [List.length_take]; omega
      have Htl := Lib.hid htl; clear htl
      go_wp2_with fail
      refine (fillError1_any rv _ _ rooms (l.take k) y p _ (hr.ext hx) (hx.cell hp) (hls.take k (by omega)) Htl.out hy2).mono ?_
      rintro e w1 ⟨rfl, hx1⟩
      have hx3 := hx.trans hx1
      by_cases h0 : fillErrM rooms (l.take k) y = 0
      · have H0 := Lib.hid h0
        rw [h0]; clear h0
        go_wp2
        go_roundw
        case rel => exact ⟨k + 1, by omega, by go_num, (firstErrFrom_step (fillErrM rooms) l k hlt y Hy.out H0.out).trans Hd.out, hx3⟩
        case measure => simp [intOf]; omega
      · have H0 := Lib.hid h0
        have h1 : (fillErrM rooms (l.take k) y != 0) = true := by simpa using h0
        clear h0
        go_wp2
        go_ret2
        have := Hd.out
        rw [firstErrFrom_hit (fillErrM rooms) l k hlt y Hy.out H0.out] at this
        exact ⟨ret_two (by rw [← this]), hx3⟩
    · go_wp2
      go_ret2
      have := Hd.out
      rw [firstErrFrom_end _ _ _ (by omega)] at this
      exact ⟨ret_two (by rw [← this]), hx⟩

/-- the error of what is put into a form's rooms -/
def fillsErrM (ps : List Part) (fs : List (List ByteArray)) : Int := if fs.length ≠ (roomsM ps).length then 3 else (firstErr (fillErrM (roomsM ps)) fs).2
set_option maxHeartbeats 1000000 in
set_option maxRecDepth 100000 in
theorem fillsError_any (fv v : Value) (f : Form) (fs : List (List ByteArray)) (h5 : f.parts.length ≤ 5) (w : World) (hf : FormV w fv f) (hfs : FillsAt w v fs) :
    Calls Tryz.prog 49 #[fv, v] w fun e w' => e = .returned (.int .i64 (fillsErrM f.parts fs)) ∧ Ext w w' := by
  have hfv := hf
  obtain ⟨pv, rfl, hns, hp⟩ := hf
  obtain ⟨a, cap, rfl, hlc, hcm⟩ := hfs.shape
  go_enter Tryz.func49, Tryz.ntmps49
  go_wp2_with fail
  refine (rooms_any _ f h5 _ (hfv.ext (by first | (with_reducible exact Ext.refl _) | (with_reducible assumption) | (show Below _ _ _; go_grown; done)))).mono ?_
  rintro e w1 ⟨rv, rfl, hrv, hx1⟩
  have x1 : Ext w w1 := Ext.trans (by first | (with_reducible exact Ext.refl _) | (with_reducible assumption) | (show Below _ _ _; go_grown; done)) hx1
  clear hx1 hfv hp
  obtain ⟨ra, rc, rfl, hrc, hrm⟩ := hrv.shape
  have hR := hrv
  by_cases he : fs.length = (roomsM f.parts).length
  · have ho : fillsErrM f.parts fs = (firstErr (fillErrM (roomsM f.parts)) fs).2 := by rw [fillsErrM, if_neg (fun h => h he)]
    have hne : ((fs.length : Int) != ((roomsM f.parts).length : Int)) = false := by simp [he]
    have Ho := Lib.hid ho
    have He := Lib.hid he
    clear ho he
    go_wp2_with fail
    refine (firstFill_any _ _ (roomsM f.parts) fs ⟨w1.heap.size, 0, none⟩ _ (hrv.ext (by first | (with_reducible exact Ext.refl _) | (with_reducible assumption) | (show Below _ _ _; go_grown; done))) (by simp [go_sem]) (hfs.ext (Ext.trans x1 (by first | (with_reducible exact Ext.refl _) | (with_reducible assumption) | (show Below _ _ _; go_grown; done)))) (by rw [He.out]; exact Nat.le_refl _)).mono ?_
    rintro e w2 ⟨rfl, hx2⟩
    have x2 : Ext w w2 := Ext.trans x1 (Ext.trans (by first | (with_reducible exact Ext.refl _) | (with_reducible assumption) | (show Below _ _ _; go_grown; done)) hx2)
    clear hx2
    go_wp2
    go_ret
    exact ⟨ret_int Ho.out.symm, x2⟩
  · have ho : fillsErrM f.parts fs = 3 := by rw [fillsErrM, if_pos he]
    have hne : ((fs.length : Int) != ((roomsM f.parts).length : Int)) = true := by
      simp only [bne_iff_ne, ne_eq]
      omega
    clear he
    go_wp2_with fail
    go_ret
    exact ⟨ret_int ho.symm, Ext.trans x1 (by first | (with_reducible exact Ext.refl _) | (with_reducible assumption) | (show Below _ _ _; go_grown; done))⟩
end Go.Proofs.YtnfbhicoknpojaaGreat

namespace Go.Proofs.YtnfbhicoknpojaaGreat
set_option linter.unusedSimpArgs false
set_option linter.unusedVariables false
open Go.RowKit
set_option linter.unusedSimpArgs false

def wantedM (heard : List Int) : List Int := if heard = [] then [-1] else heard
def giver (ls : List Letter) (s : Int) : Option Letter := ls.find? fun x => givesM x s
def shortM (ls : List Letter) : List Int → Option (List Int)
  | [] => some []
  | s :: r => match giver ls s, shortM ls r with
    | some x, some l => some (x.c :: l)
    | _, _ => none
/-- the text of the first sounds -/
def textTo (ls : List Letter) (l : List Int) (k : Nat) : List Int := (l.take k).filterMap fun s => (giver ls s).map (·.c)

theorem infoByte : (Tryz.prog.info? 5).map (fun i => (i.zero, i.size, i.bytes)) = some (some (.int .u8 0), 1, 1) := by kernel_rfl
def bytesOf (l : List Int) : List Value := l.map (Value.int .u8)

theorem textTo_succ (ls : List Letter) (l : List Int) (k : Nat) (hk : k < l.length) (x : Letter) (h : giver ls l[k] = some x) : textTo ls l (k + 1) = textTo ls l k ++ [x.c] := by
  unfold textTo
  rw [List.take_succ_eq_append_getElem hk, List.filterMap_append]
  simp [h]
theorem textTo_len (ls : List Letter) (l : List Int) (k : Nat) : (textTo ls l k).length ≤ k := by
  unfold textTo
  have h1 := List.length_filterMap_le (fun s => (giver ls s).map (·.c)) (l.take k)
  have h2 := List.length_take_le k l
  omega
theorem giver_at (ls : List Letter) (s : Int) (m : Nat) (hm : m < ls.length) (h : ∀ j (_ : j < m) (hj : j < ls.length), givesM ls[j] s = false) (hy : givesM ls[m] s = true) : giver ls s = some ls[m] := by
  rw [giver, List.find?_eq_some_iff_getElem]
  exact ⟨hy, m, hm, rfl, fun j hj => by simpa using h j hj (by omega)⟩
theorem giver_none (ls : List Letter) (s : Int) (h : ∀ j (hj : j < ls.length), givesM ls[j] s = false) : giver ls s = none := by
  rw [giver, List.find?_eq_none]
  intro x hx
  obtain ⟨j, hj, rfl⟩ := List.getElem_of_mem hx
  simp [h j hj]
def shortE (ls : List Letter) (l : List Int) : Int := if l.all fun s => (giver ls s).isSome then 0 else 9
def shortS (ls : List Letter) (l : List Int) : List Int := if l.all fun s => (giver ls s).isSome then textTo ls l l.length else []
theorem shortE_no (ls : List Letter) (l : List Int) (k : Nat) (hk : k < l.length) (h : giver ls l[k] = none) : shortE ls l = 9 ∧ shortS ls l = [] := by
  have : (l.all fun s => (giver ls s).isSome) = false := by
    rw [List.all_eq_false]
    exact ⟨l[k], List.getElem_mem hk, by simp [h]⟩
  simp [shortE, shortS, this]
theorem shortE_yes (ls : List Letter) (l : List Int) (h : ∀ j (hj : j < l.length), (giver ls l[j]).isSome = true) : shortE ls l = 0 ∧ shortS ls l = textTo ls l l.length := by
  have : (l.all fun s => (giver ls s).isSome) = true := by
    rw [List.all_eq_true]
    intro x hx
    obtain ⟨j, hj, rfl⟩ := List.getElem_of_mem hx
    exact h j hj
  simp [shortE, shortS, this]
def strOf (l : List Int) : ByteArray := ⟨(l.map fun n => UInt8.ofNat n.toNat).toArray⟩
theorem textTo_full (ls : List Letter) (l : List Int) (k : Nat) (hk : k ≤ l.length) (h : ∀ j (_ : j < k) (hj : j < l.length), (giver ls l[j]).isSome = true) : (textTo ls l k).length = k := by
  induction k with
  | zero => simp [textTo]
  | succ k ih =>
    obtain ⟨x, hx⟩ := Option.isSome_iff_exists.1 (h k (by omega) (by omega))
    rw [textTo_succ ls l k (by omega) x hx, List.length_append, ih (by omega) fun j hj hl => h j (by omega) hl]; rfl
theorem textTo_U8 (ls : List Letter) (l : List Int) (k : Nat) (h : ∀ x ∈ ls, U8 x.c) : ∀ n ∈ textTo ls l k, U8 n := by
  intro n hn
  simp only [textTo, List.mem_filterMap, Option.map_eq_some_iff] at hn
  obtain ⟨s, -, x, hx, rfl⟩ := hn
  exact h x (List.mem_of_find?_eq_some hx)
theorem byte_back (n : Int) (h : U8 n) : ((UInt8.ofNat n.toNat).toNat : Int) = n := by
  obtain ⟨h0, h1⟩ := h
  rw [UInt8.toNat_ofNat', Nat.mod_eq_of_lt (by omega)]; omega
/-- bytes that are owned, as a string -/
theorem convert_own {w : World} {B : Nat} {v : Value} {l : List Int} (hl : l ≠ []) (hU : ∀ n ∈ l, U8 n) (h : w.ownsRow B 5 1 v l.length (bytesOf l)) :
    (convert 26 9 v).run Tryz.prog w = .ok (.string (strOf l)) w := by
  rcases h.2 with ⟨rfl, hn⟩ | ⟨g, cap, cur, rfl, hb, hg, hnc, hcm, hcs, htake⟩
  · exact absurd (List.eq_nil_of_length_eq_zero hn) hl
  · have := run_convert_bytes_back (P := Tryz.prog) w 26 9 5 ⟨g, 0, none⟩ cap (l.map fun n => UInt8.ofNat n.toNat) Tryz.underlying26 Tryz.underlying5 Tryz.underlying9 (fun j hj => by
      have hj' : j < l.length := by simpa using hj
      rw [h.cells (g := g) rfl j (.int .u8 l[j]) (by simp [bytesOf, hj'])]
      rw [List.getElem_map, byte_back _ (hU _ (List.getElem_mem hj'))])
    rw [List.length_map] at this
    exact this
theorem ret_strInt {a b : ByteArray} {c d : Int} (h : a = b) (h2 : c = d) : Ending.returned (.tuple #[.string a, .int .i64 c]) = .returned (.tuple #[.string b, .int .i64 d]) := by rw [h, h2]
theorem snoc_bytes {w : World} {B : Nat} {e : TypeId} {v : Value} {l l' : List Int} {x : Int} (hb : l' = l ++ [x]) (h : w.ownsRow B e 1 v (l.length + 1) (bytesOf l ++ [.int .u8 x])) :
    w.ownsRow B e 1 v l'.length (bytesOf l') := by
  subst hb
  simpa [bytesOf] using h

set_option maxRecDepth 100000 in
set_option maxHeartbeats 1000000 in
theorem shortest_any (bv hv : Value) (b : Book) (n : Nat) (hn : n < b.alphabets.length) (heard : List Int) (hS : ∀ s ∈ heard, 0 ≤ s ∧ s ≤ 3) (h5 : heard.length ≤ 5) (hf : ∀ x ∈ (b.alphabets[n]).letters, FineL x) (w : World) (hb : BookAt w bv b) (hh : IntsAt w hv heard) :
    Calls Tryz.prog 25 #[bv, .int .i64 n, hv] w
      fun e w' => e = .returned (.tuple #[.string (strOf (shortS (b.alphabets[n]).letters (wantedM heard))), .int .i64 (shortE (b.alphabets[n]).letters (wantedM heard))]) ∧ Ext w w' := by
  obtain ⟨ba, bc, bs, bd, rfl, -, hbl, hbc, hsl, hsc, -, hA, hP⟩ := hb.open
  obtain ⟨_, _, he, -, -, hq⟩ := hA
  obtain ⟨ab, ao, rfl, -, -, lv, a1, hlv⟩ := hq n hn
  cases he
  clear hq
  generalize (b.alphabets[n]).letters = ls at *
  obtain ⟨la, lc, rfl, hllc, hlcm⟩ := hlv.shape
  obtain ⟨ha, hc, rfl, hhc, hhm⟩ := hh.shape
  have z1 := cell_lt a1
  have HU : Hid (∀ x ∈ ls, U8 x.c) := Lib.hid fun x hx => (hlv.fine x hx).1
  have Hf := Lib.hid hf
  have HS := Lib.hid hS
  clear hf hS
  obtain ⟨i0, hi, hz0, hz1, hz2⟩ := info_parts infoByte
  by_cases hnil : heard.length = 0
  · have h0 : heard = [] := List.eq_nil_of_length_eq_zero hnil
    subst h0
    obtain ⟨wl, hwl⟩ : ∃ wl : List Int, wl = [-1] := ⟨_, rfl⟩
    have Hlen : Hid (wl.length = 1) := Lib.hid (by rw [hwl]; rfl)
    have Hwm : Hid (wantedM [] = wl) := Lib.hid (by rw [hwl]; rfl)
    have Hrange : Hid (∀ x ∈ wl, -1 ≤ x ∧ x ≤ 3) := Lib.hid (fun x hx => by rw [hwl] at hx; simp at hx; omega)
    have Hwant : Hid (IntsAt ((w.alloc (.cells #[.int .i64 b.sounds, .slice (some ⟨ab, ao, none⟩) b.alphabets.length bc, .slice bs b.spellings.length bd] 70)).alloc (.cells #[.int .i64 (-1)] 3)) (.slice (some ⟨w.heap.size + 1, 0, none⟩) 1 1) wl) := Lib.hid (by rw [hwl]; exact IntsAt.oneAt (by simp) (by omega))
    clear hwl
    go_enter Tryz.func25, Tryz.ntmps25
    go_wp2
    go_step3
    go_wp2
    go_step3
    go_wp2
    have hx0 : Ext w ((w.alloc (.cells #[.int .i64 b.sounds, .slice (some ⟨ab, ao, none⟩) b.alphabets.length bc, .slice bs b.spellings.length bd] 70)).alloc (.cells #[.int .i64 (-1)] 3)) := (by first | (with_reducible exact Ext.refl _) | (with_reducible assumption) | (show Below _ _ _; go_grown; done))
    have hbx : ((w.alloc (.cells #[.int .i64 b.sounds, .slice (some ⟨ab, ao, none⟩) b.alphabets.length bc, .slice bs b.spellings.length bd] 70)).alloc (.cells #[.int .i64 (-1)] 3)).cell? ⟨w.heap.size, 1, none⟩ = some (.slice (some ⟨ab, ao, none⟩) b.alphabets.length bc) := by simp [go_sem]
    go_loopw [9, 21] (fun t i wr => ∃ k : Nat, k ≤ 1 ∧ i = .int .i64 k ∧ Ext ((w.alloc (.cells #[.int .i64 b.sounds, .slice (some ⟨ab, ao, none⟩) b.alphabets.length bc, .slice bs b.spellings.length bd] 70)).alloc (.cells #[.int .i64 (-1)] 3)) wr ∧
      wr.ownsRow (w.heap.size + 2) 5 1 t (textTo ls (wl) k).length (bytesOf (textTo ls (wl) k)) ∧ ∀ j (_ : j < k) (hj : j < wl.length), (giver ls (wl)[j]).isSome = true) (fun _ i _ => 1 - (intOf i).toNat)
    case atStart => exact ⟨0, Nat.zero_le _, rfl, Ext.refl _, World.ownsRow_nil _ _ _ _, fun j hj => absurd hj (Nat.not_lt_zero _)⟩
    case round =>
      obtain ⟨k, hk, rfl, hx, hown, hall⟩ := hrel
      have Hall := Lib.hid hall
      clear hall
      have hx1 := hx0.trans hx
      have hbx1 := hx.cell hbx
      have a11 := hx1.cell a1
      have z2 := cell_lt hbx1
      by_cases hkt : k < 1
      · have hkl : k < wl.length := by rw [Hlen.out]; exact hkt
        obtain rfl : k = 0 := by omega
        obtain ⟨_, _, he, -, -, hq⟩ := Hwant.out.ext hx
        obtain ⟨wb, wo, ew, w1, ws⟩ := hq 0 hkl
        rw [ew] at he
        simp only [Value.slice.injEq, Option.some.injEq, Addr.mk.injEq, and_true] at he
        obtain ⟨⟨rfl, rfl⟩, -, -⟩ := he
        clear hq
        have hsr : -1 ≤ (wl)[0] ∧ (wl)[0] ≤ 3 := Hrange.out _ (List.getElem_mem hkl)
        generalize hs : (wl)[0] = s at *
        have Hs := Lib.hid hs
        clear hs
        simp only [Nat.zero_mul, Nat.add_zero] at w1
        go_wp2
        go_step3
        go_wp2
        go_step3
        go_wp2
        obtain ⟨wo, hwo⟩ : ∃ wo : World, wo = wr := ⟨_, rfl⟩
        subst hwo
        obtain ⟨tv, htv⟩ : ∃ tv : Value, tv = u9 := ⟨_, rfl⟩
        rw [← htv] at hown
        go_loopw [9, 33] (fun t j wq => ∃ m : Nat, m ≤ ls.length ∧ t = tv ∧ j = .int .i64 m ∧ Ext wo wq ∧ ∀ j (_ : j < m) (hj : j < ls.length), givesM ls[j] s = false) (fun _ j _ => ls.length - (intOf j).toNat)
        case atStart => exact ⟨0, Nat.zero_le _, htv.symm, rfl, Ext.refl _, fun j hj => absurd hj (Nat.not_lt_zero _)⟩
        case round =>
          clear htv
          obtain ⟨m, hm, rfl, rfl, hxq, hno⟩ := hrel
          have Hno := Lib.hid hno
          clear hno
          by_cases hmt : m < ls.length
          · obtain ⟨_, _, he, -, -, hq⟩ := (hlv.ext hx1).ext hxq
            obtain ⟨lb, lo, rfl, c0, c1, c2, hu, hI⟩ := hq m hmt
            cases he
            clear hq
            have hfy := Hf.out _ (List.getElem_mem hmt)
            generalize hy : ls[m] = y at *
            have Hy := Lib.hid hy
            have HI := Lib.hid hI
            clear hy hI
            go_wp2_with fail
            refine (gives_any _ y s ⟨rfl, hu, HI.out⟩ hfy hsr _).mono ?_
            rintro e w2 ⟨rfl, hg⟩
            have hxg : Ext wo w2 := hxq.trans hg.of_alloc
            have hwq := cell_lt c0
            have p0 : w2.cell? ⟨wr.heap.size, 0, none⟩ = some (.int .u8 y.c) := hg.cell (by simp [go_sem])
            cases hgv : givesM y s
            · have Hgv := Lib.hid hgv
              clear hgv
              go_wp2_with fail
              go_roundw
              case rel => exact ⟨m + 1, by omega, rfl, by go_num, hxg, fun j hj hl => by
                rcases Nat.lt_or_ge j m with hjm | hjm
                · exact Hno.out j hjm hl
                · obtain rfl : j = m := by omega
                  rw [Hy.out]; exact Hgv.out⟩
              case measure => simp [intOf]; omega
            · have Hgv := Lib.hid hgv
              clear hgv
              have hown2 := Ext.owns hown hxg
              have hml : (textTo ls wl 0).length ≤ 5 := by have := textTo_len ls wl 0; omega
              have hsz2 := hxg.size
              go_wp2_with ((at_builtin; refine wpList_append_own _ rfl _ _ 26 rfl (w.heap.size + 2) 5 i0 (.int .u8 0) 1 1 Tryz.underlying26 hi hz0 hz1 hz2 rfl (by decide) _ _ _ rfl (hown2.alloc _) ⟨w2.heap.size, 0, none⟩ 1 1 [.int .u8 y.c] rfl rfl (cell_one_new _ _ _) (by simp [Value.oneCell']) (by unfold maxLen; omega) (by omega) (by simp; omega) ?_; intro v' w3 hown' hgrow _))
              have hx3 : Ext ((w.alloc (.cells #[.int .i64 b.sounds, .slice (some ⟨ab, ao, none⟩) b.alphabets.length bc, .slice bs b.spellings.length bd] 70)).alloc (.cells #[.int .i64 (-1)] 3)) w3 :=
                Ext.grown ((hx.trans hxg).alloc _) hgrow fun k hk => by have := (hown2.lt k hk).1; simpa using this
              have hgs := giver_at ls s m hmt Hno.out (by rw [Hy.out]; exact Hgv.out)
              rw [Hy.out] at hgs
              have Hgs := Lib.hid hgs
              clear hgs
              simp only [Exit.noGoto, Exit.inBlock, if_true]
              go_wp2
              go_roundw
              case rel => exact ⟨1, by omega, rfl, hx3, snoc_bytes (textTo_succ ls wl 0 hkl y (by rw [Hs.out]; exact Hgs.out)) hown', fun j hj hl => by
                rcases Nat.lt_or_ge j 0 with hjk | hjk
                · exact Hall.out j hjk hl
                · obtain rfl : j = 0 := by omega
                  rw [Hs.out, Hgs.out]; rfl⟩
              case measure => simp [intOf]
          · have hgs := giver_none ls s fun j hj => Hno.out j (by omega) hj
            have hsh := shortE_no ls wl 0 hkl (by rw [Hs.out]; exact hgs)
            have Hsh := Lib.hid hsh
            clear hgs hsh
            go_wp2
            simp +zetaDelta only [Exit.noGoto, Exit.inBlock, Exit.then]
            go_ret2
            exact ⟨ret_strInt (by rw [Hwm.out, Hsh.out.2]; rfl) (by rw [Hwm.out, Hsh.out.1]), hx1.trans hxq⟩
      · have hke : k = 1 := by omega
        have hfull := textTo_full ls wl k (by rw [Hlen.out]; exact hk) Hall.out
        have hcv := convert_own (l := textTo ls wl k) (fun e => absurd hfull (by rw [e, hke]; decide)) (textTo_U8 ls wl k HU.out) hown
        have hsh := shortE_yes ls wl fun j hj => Hall.out j (by rw [Hlen.out] at hj; omega) hj
        rw [Hlen.out] at hsh
        have Hsh := Lib.hid hsh
        clear hsh hfull
        go_wp2
        go_ret2
        exact ⟨ret_strInt (by rw [Hwm.out, Hsh.out.2]) (by rw [Hwm.out, Hsh.out.1]), hx1⟩
  · have hne : ((heard.length : Int) == 0) = false := by simpa using hnil
    have Hwm : Hid (wantedM heard = heard) := Lib.hid (by rw [wantedM, if_neg (fun e => hnil (by rw [e]; rfl))])
    have Hrange : Hid (∀ x ∈ heard, -1 ≤ x ∧ x ≤ 3) := Lib.hid (fun x hx => by have := HS.out x hx; omega)
    have hwant := hh.ext (ext_alloc w (.cells #[.int .i64 b.sounds, .slice (some ⟨ab, ao, none⟩) b.alphabets.length bc, .slice bs b.spellings.length bd] 70))
    go_enter Tryz.func25, Tryz.ntmps25
    go_wp2
    go_step3
    go_wp2
    go_step3
    go_wp2
    have hx0 : Ext w (w.alloc (.cells #[.int .i64 b.sounds, .slice (some ⟨ab, ao, none⟩) b.alphabets.length bc, .slice bs b.spellings.length bd] 70)) := (by first | (with_reducible exact Ext.refl _) | (with_reducible assumption) | (show Below _ _ _; go_grown; done))
    have hbx : (w.alloc (.cells #[.int .i64 b.sounds, .slice (some ⟨ab, ao, none⟩) b.alphabets.length bc, .slice bs b.spellings.length bd] 70)).cell? ⟨w.heap.size, 1, none⟩ = some (.slice (some ⟨ab, ao, none⟩) b.alphabets.length bc) := by simp [go_sem]
    go_loopw [9, 21] (fun t i wr => ∃ k : Nat, k ≤ (heard).length ∧ i = .int .i64 k ∧ Ext (w.alloc (.cells #[.int .i64 b.sounds, .slice (some ⟨ab, ao, none⟩) b.alphabets.length bc, .slice bs b.spellings.length bd] 70)) wr ∧
      wr.ownsRow (w.heap.size + 1) 5 1 t (textTo ls (heard) k).length (bytesOf (textTo ls (heard) k)) ∧ ∀ j (_ : j < k) (hj : j < (heard).length), (giver ls (heard)[j]).isSome = true) (fun _ i _ => (heard).length - (intOf i).toNat)
    case atStart => exact ⟨0, Nat.zero_le _, rfl, Ext.refl _, World.ownsRow_nil _ _ _ _, fun j hj => absurd hj (Nat.not_lt_zero _)⟩
    case round =>
      obtain ⟨k, hk, rfl, hx, hown, hall⟩ := hrel
      have Hall := Lib.hid hall
      clear hall
      have hx1 := hx0.trans hx
      have hbx1 := hx.cell hbx
      have a11 := hx1.cell a1
      have z2 := cell_lt hbx1
      by_cases hkt : k < (heard).length
      · obtain ⟨_, _, he, -, -, hq⟩ := hwant.ext hx
        obtain ⟨wb, wo, rfl, w1, ws⟩ := hq k hkt
        cases he
        clear hq
        have hsr : -1 ≤ (heard)[k] ∧ (heard)[k] ≤ 3 := Hrange.out _ (List.getElem_mem hkt)
        generalize hs : (heard)[k] = s at *
        have Hs := Lib.hid hs
        clear hs
        simp only [Nat.mul_one] at w1
        go_wp2
        go_step3
        go_wp2
        go_step3
        go_wp2
        obtain ⟨wo, hwo⟩ : ∃ wo : World, wo = wr := ⟨_, rfl⟩
        subst hwo
        obtain ⟨tv, htv⟩ : ∃ tv : Value, tv = u9 := ⟨_, rfl⟩
        rw [← htv] at hown
        go_loopw [9, 33] (fun t j wq => ∃ m : Nat, m ≤ ls.length ∧ t = tv ∧ j = .int .i64 m ∧ Ext wo wq ∧ ∀ j (_ : j < m) (hj : j < ls.length), givesM ls[j] s = false) (fun _ j _ => ls.length - (intOf j).toNat)
        case atStart => exact ⟨0, Nat.zero_le _, htv.symm, rfl, Ext.refl _, fun j hj => absurd hj (Nat.not_lt_zero _)⟩
        case round =>
          clear htv
          obtain ⟨m, hm, rfl, rfl, hxq, hno⟩ := hrel
          have Hno := Lib.hid hno
          clear hno
          by_cases hmt : m < ls.length
          · obtain ⟨_, _, he, -, -, hq⟩ := (hlv.ext hx1).ext hxq
            obtain ⟨lb, lo, rfl, c0, c1, c2, hu, hI⟩ := hq m hmt
            cases he
            clear hq
            have hfy := Hf.out _ (List.getElem_mem hmt)
            generalize hy : ls[m] = y at *
            have Hy := Lib.hid hy
            have HI := Lib.hid hI
            clear hy hI
            go_wp2_with fail
            refine (gives_any _ y s ⟨rfl, hu, HI.out⟩ hfy hsr _).mono ?_
            rintro e w2 ⟨rfl, hg⟩
            have hxg : Ext wo w2 := hxq.trans hg.of_alloc
            have hwq := cell_lt c0
            have p0 : w2.cell? ⟨wr.heap.size, 0, none⟩ = some (.int .u8 y.c) := hg.cell (by simp [go_sem])
            cases hgv : givesM y s
            · have Hgv := Lib.hid hgv
              clear hgv
              go_wp2_with fail
              go_roundw
              case rel => exact ⟨m + 1, by omega, rfl, by go_num, hxg, fun j hj hl => by
                rcases Nat.lt_or_ge j m with hjm | hjm
                · exact Hno.out j hjm hl
                · obtain rfl : j = m := by omega
                  rw [Hy.out]; exact Hgv.out⟩
              case measure => simp [intOf]; omega
            · have Hgv := Lib.hid hgv
              clear hgv
              have hown2 := Ext.owns hown hxg
              have hml : (textTo ls heard k).length ≤ 5 := by have := textTo_len ls heard k; omega
              have hsz2 := hxg.size
              go_wp2_with ((at_builtin; refine wpList_append_own _ rfl _ _ 26 rfl (w.heap.size + 1) 5 i0 (.int .u8 0) 1 1 Tryz.underlying26 hi hz0 hz1 hz2 rfl (by decide) _ _ _ rfl (hown2.alloc _) ⟨w2.heap.size, 0, none⟩ 1 1 [.int .u8 y.c] rfl rfl (cell_one_new _ _ _) (by simp [Value.oneCell']) (by unfold maxLen; omega) (by omega) (by simp; omega) ?_; intro v' w3 hown' hgrow _))
              have hx3 : Ext (w.alloc (.cells #[.int .i64 b.sounds, .slice (some ⟨ab, ao, none⟩) b.alphabets.length bc, .slice bs b.spellings.length bd] 70)) w3 :=
                Ext.grown ((hx.trans hxg).alloc _) hgrow fun k hk => by have := (hown2.lt k hk).1; simpa using this
              have hgs := giver_at ls s m hmt Hno.out (by rw [Hy.out]; exact Hgv.out)
              rw [Hy.out] at hgs
              have Hgs := Lib.hid hgs
              clear hgs
              simp only [Exit.noGoto, Exit.inBlock, if_true]
              go_wp2
              go_roundw
              case rel => exact ⟨k + 1, by omega, by go_num, hx3, snoc_bytes (textTo_succ ls heard k hkt y (by rw [Hs.out]; exact Hgs.out)) hown', fun j hj hl => by
                rcases Nat.lt_or_ge j k with hjk | hjk
                · exact Hall.out j hjk hl
                · obtain rfl : j = k := by omega
                  rw [Hs.out, Hgs.out]; rfl⟩
              case measure => simp [intOf]; omega
          · have hgs := giver_none ls s fun j hj => Hno.out j (by omega) hj
            have hsh := shortE_no ls heard k hkt (by rw [Hs.out]; exact hgs)
            have Hsh := Lib.hid hsh
            clear hgs hsh
            go_wp2
            simp +zetaDelta only [Exit.noGoto, Exit.inBlock, Exit.then]
            go_ret2
            exact ⟨ret_strInt (by rw [Hwm.out, Hsh.out.2]; rfl) (by rw [Hwm.out, Hsh.out.1]), hx1.trans hxq⟩
      · have hke : k = heard.length := by omega
        have hfull := textTo_full ls heard k hk Hall.out
        have hcv := convert_own (l := textTo ls heard k) (fun e => hnil (by rw [e] at hfull; simp only [List.length_nil] at hfull; omega)) (textTo_U8 ls heard k HU.out) hown
        have hsh := shortE_yes ls heard fun j hj => Hall.out j (by omega) hj
        rw [← hke] at hsh
        have Hsh := Lib.hid hsh
        clear hsh hfull hke
        go_wp2
        go_ret2
        exact ⟨ret_strInt (by rw [Hwm.out, Hsh.out.2]) (by rw [Hwm.out, Hsh.out.1]), hx1⟩
end Go.Proofs.YtnfbhicoknpojaaGreat

namespace Go.Proofs.YtnfbhicoknpojaaGreat
set_option linter.unusedSimpArgs false
set_option linter.unusedVariables false
open Go.RowKit

theorem firstErrFrom_ok {α : Type} (f : List α → α → Int) : ∀ (r pre : List α), (firstErrFrom f pre r).2 = 0 → ∀ k (hk : k < r.length), f (pre ++ r.take k) r[k] = 0
  | [], _, _, k, hk => by simp at hk
  | x :: r, pre, h, k, hk => by
    unfold firstErrFrom at h
    split at h
    · rename_i h0
      cases k with
      | zero => simpa using h0
      | succ k =>
        have := firstErrFrom_ok f r (pre ++ [x]) h k (by simpa using hk)
        simpa using this
    · rename_i h0
      exact absurd h h0
theorem firstErr_ok {α : Type} (f : List α → α → Int) (l : List α) (h : (firstErr f l).2 = 0) : ∀ k (hk : k < l.length), f (l.take k) l[k] = 0 := by
  intro k hk
  have := firstErrFrom_ok f l [] h k hk
  simpa using this

theorem inM_iff (n lo hi : Int) : inM n lo hi = true ↔ lo ≤ n ∧ n ≤ hi := by simp [inM]
theorem inM_true {n lo hi : Int} (h : ¬ inM n lo hi = false) : lo ≤ n ∧ n ≤ hi := by
  rw [← inM_iff]; simpa using h

structure ValidLetter (S : Int) (x : Letter) : Prop where
  c : 97 ≤ x.c ∧ x.c ≤ 122
  s : 0 ≤ x.sounds ∧ x.sounds ≤ maskM S
  g : x.sounds ≠ 0 ∨ x.silent = true
theorem letterErr_ok {S : Int} {l : List Letter} {x : Letter} (h : letterErrM S l x = 0) : ValidLetter S x ∧ (l.any fun y => y.c == x.c) = false := by
  unfold letterErrM at h
  split at h
  · cases h
  rename_i h1
  split at h
  · cases h
  rename_i h2
  split at h
  · cases h
  rename_i h3
  split at h
  · cases h
  rename_i h4
  exact ⟨⟨inM_true h1, inM_true h3, by
    simp only [Bool.and_eq_true, beq_iff_eq, Bool.not_eq_true', not_and, Bool.not_eq_false] at h4
    by_cases e : x.sounds = 0
    · exact .inr (h4 e)
    · exact .inl e⟩, by simpa using h2⟩
structure ValidAlphabet (S : Int) (x : Alphabet) : Prop where
  n : nameM x.name = true
  l : 1 ≤ x.letters.length ∧ x.letters.length ≤ 6
  fine : ∀ k (hk : k < x.letters.length), ValidLetter S x.letters[k] ∧ ((x.letters.take k).any fun y => y.c == (x.letters[k]).c) = false
theorem alphabetErr_ok {S : Int} {l : List Alphabet} {x : Alphabet} (h : alphabetErrM S l x = 0) : ValidAlphabet S x ∧ (l.any fun y => y.name.toList == x.name.toList) = false := by
  unfold alphabetErrM at h
  split at h
  · cases h
  rename_i h1
  split at h
  · cases h
  rename_i h2
  split at h
  · cases h
  rename_i h3
  have h3 := inM_true h3
  exact ⟨⟨by simpa using h1, by omega, fun k hk => letterErr_ok (firstErr_ok _ _ h k hk)⟩, by simpa using h2⟩
structure ValidSpelling (al : List Alphabet) (x : Spelling) : Prop where
  a : 0 ≤ x.alphabet ∧ x.alphabet < al.length
  t : 1 ≤ x.text.size ∧ x.text.size ≤ 5
  k : ∀ j, j < x.text.size → knownB (lettersOf al x.alphabet) x.text j = true
theorem textOk_spec {ls : List Letter} {s : ByteArray} (h : textOk ls s = true) : ∀ j, j < s.size → knownB ls s j = true := by
  unfold textOk at h
  rw [List.all_eq_true] at h
  exact fun j hj => h j (List.mem_range.2 hj)
theorem spellingErr_ok {al : List Alphabet} {x : Spelling} (h : spellingErrM al x = 0) : ValidSpelling al x := by
  unfold spellingErrM at h
  split at h
  · cases h
  rename_i h1
  split at h
  · cases h
  rename_i h2
  split at h
  · cases h
  rename_i h3
  have h1 := inM_true h1
  have h2 := inM_true h2
  exact ⟨by omega, by omega, textOk_spec (by simpa using h3)⟩
structure Valid (b : Book) : Prop where
  s : 1 ≤ b.sounds ∧ b.sounds ≤ 4
  a : 1 ≤ b.alphabets.length ∧ b.alphabets.length ≤ 3
  al : ∀ k (hk : k < b.alphabets.length), ValidAlphabet b.sounds b.alphabets[k] ∧ ((b.alphabets.take k).any fun y => y.name.toList == (b.alphabets[k]).name.toList) = false
  n : b.spellings.length ≤ 5
  sp : ∀ k (hk : k < b.spellings.length), ValidSpelling b.alphabets b.spellings[k]
theorem valid_of {b : Book} (h : errM b = 0) : Valid b := by
  unfold errM checkM at h
  split at h
  · cases h
  rename_i h1
  split at h
  · cases h
  rename_i h2
  split at h
  · rename_i h3; exact absurd h h3
  rename_i h3
  split at h
  · cases h
  rename_i h4
  split at h
  · rename_i h5; exact absurd h h5
  rename_i h5
  have h1 := inM_true h1
  have h2 := inM_true h2
  have h3 : (alphErr b).2 = 0 := by simpa using h3
  have h5 : (spelErr b).2 = 0 := by simpa using h5
  exact ⟨h1, by omega, fun k hk => alphabetErr_ok (firstErr_ok _ _ h3 k hk), by omega, fun k hk => spellingErr_ok (firstErr_ok _ _ h5 k hk)⟩
theorem mask_le {S : Int} (h : 1 ≤ S ∧ S ≤ 4) : maskM S ≤ 15 := by
  have h4 : S = 1 ∨ S = 2 ∨ S = 3 ∨ S = 4 := by omega
  rcases h4 with rfl | rfl | rfl | rfl <;> decide
theorem Valid.fine {b : Book} (h : Valid b) (k : Nat) (hk : k < b.alphabets.length) : ∀ x ∈ (b.alphabets[k]).letters, FineL x := by
  intro x hx
  obtain ⟨j, hj, rfl⟩ := List.getElem_of_mem hx
  have := ((h.al k hk).1.fine j hj).1.s
  have := mask_le h.s
  exact ⟨by omega, by omega⟩
theorem withinM_spec {lo hi : Int} {l : List Int} (h : withinM lo hi l = true) : ∀ x ∈ l, lo ≤ x ∧ x ≤ hi := by
  unfold withinM at h
  rw [List.all_eq_true] at h
  exact fun x hx => (inM_iff _ _ _).1 (h x hx)
end Go.Proofs.YtnfbhicoknpojaaGreat

namespace Go.Proofs.YtnfbhicoknpojaaGreat
set_option linter.unusedSimpArgs false
set_option linter.unusedVariables false
open Go.RowKit

structure ValidPart (p : Part) : Prop where
  n : p.words.length ≤ 3
  w : wordsM p.words = true
  z : p.words ≠ [] → p.lo = 0 ∧ p.hi = 0
  r : p.words = [] → 0 ≤ p.lo ∧ p.lo ≤ p.hi ∧ 1 ≤ p.hi ∧ p.hi ≤ 3
theorem partErr_ok {p : Part} (h : partErrM p = 0) : ValidPart p := by
  unfold partErrM at h
  split at h
  · cases h
  rename_i h1
  split at h
  · cases h
  rename_i h2
  have hw : wordsM p.words = true := by simpa using h2
  split at h
  · rename_i h3
    split at h
    · rename_i h4
      exact ⟨by omega, hw, fun _ => h4, fun e => absurd (by rw [e]; rfl) h3⟩
    · cases h
  · rename_i h3
    split at h
    · cases h
    rename_i h4
    split at h
    · cases h
    rename_i h5
    have a := inM_true (fun e => h4 (.inl e))
    have b := inM_true (fun e => h4 (.inr (.inl e)))
    have c : p.hi ≠ 0 := fun e => h4 (.inr (.inr e))
    exact ⟨by omega, hw, fun e => absurd (List.eq_nil_of_length_eq_zero (by omega)) e, fun _ => ⟨a.1, by omega, by omega, b.2⟩⟩
theorem ValidPart.room {p : Part} (h : ValidPart p) (hr : roomyM p = true) : 0 ≤ p.lo ∧ p.lo ≤ p.hi ∧ 1 ≤ p.hi ∧ p.hi ≤ 3 :=
  h.r (List.eq_nil_of_length_eq_zero (by simpa [roomyM] using hr))

structure ValidForm (f : Form) : Prop where
  name : nameM f.name = true
  n : f.parts.length ≤ 5
  parts : ∀ p ∈ f.parts, ValidPart p
theorem formErr_ok {l : List Form} {f : Form} (h : formErrM l f = 0) : ValidForm f ∧ (l.any fun y => y.name.toList == f.name.toList) = false := by
  unfold formErrM at h
  split at h
  · cases h
  rename_i h1
  split at h
  · cases h
  rename_i h2
  split at h
  · cases h
  rename_i h3
  refine ⟨⟨by simpa using h1, by omega, fun p hp => ?_⟩, by simpa using h2⟩
  obtain ⟨k, hk, rfl⟩ := List.getElem_of_mem hp
  exact partErr_ok (firstErr_ok _ _ h k hk)

structure ValidShelf (s : Shelf) : Prop where
  w : 8 ≤ s.width ∧ s.width ≤ 30
  n : s.forms.length ≤ 4
  forms : ∀ f ∈ s.forms, ValidForm f
theorem errS_ok {s : Shelf} (h : errS s = 0) : ValidShelf s := by
  unfold errS checkS at h
  split at h
  · cases h
  rename_i h1
  split at h
  · cases h
  rename_i h2
  split at h
  · rename_i h3
    exact absurd h h3
  rename_i h3
  refine ⟨inM_true h1, by omega, fun f hf => ?_⟩
  obtain ⟨k, hk, rfl⟩ := List.getElem_of_mem hf
  exact (formErr_ok (firstErr_ok _ _ (by simpa using h3) k hk)).1
theorem openErr_ok {s : Shelf} {n : Int} (h : openErrM s n = 0) : ValidShelf s ∧ 0 ≤ n ∧ n < s.forms.length := by
  unfold openErrM at h
  split at h
  · rename_i h1; exact absurd h h1
  rename_i h1
  split at h
  · cases h
  rename_i h2
  have := inM_true h2
  exact ⟨errS_ok (by simpa using h1), by omega, by omega⟩
theorem fillsErr_ok {ps : List Part} {fs : List (List ByteArray)} (hv : ∀ p ∈ ps, ValidPart p) (h : fillsErrM ps fs = 0) : fs.length = (roomsM ps).length ∧ ∀ l ∈ fs, l.length ≤ 3 ∧ wordsM l = true := by
  unfold fillsErrM at h
  split at h
  · cases h
  rename_i h1
  have hl : fs.length = (roomsM ps).length := by simpa using h1
  refine ⟨hl, fun l hm => ?_⟩
  obtain ⟨k, hk, rfl⟩ := List.getElem_of_mem hm
  have h2 := firstErr_ok _ _ h k hk
  have hk2 : k < (roomsM ps).length := by omega
  have e : (fs.take k).length = k := by rw [List.length_take]; omega
  unfold fillErrM at h2
  rw [e, show (roomsM ps).getD k ⟨[], 0, 0⟩ = (roomsM ps)[k] by simp [hk2]] at h2
  split at h2
  · cases h2
  rename_i h3
  split at h2
  · cases h2
  rename_i h4
  have hin := inM_true h3
  have hmem := List.getElem_mem hk2
  have hmf := List.mem_filter.mp (show (roomsM ps)[k] ∈ ps.filter roomyM from hmem)
  have hr := (hv _ hmf.1).room hmf.2
  exact ⟨by omega, by simpa using h4⟩
end Go.Proofs.YtnfbhicoknpojaaGreat

namespace Go.Proofs.YtnfbhicoknpojaaGreat
set_option linter.unusedSimpArgs false
set_option linter.unusedVariables false
open Go.RowKit
set_option linter.unusedVariables false

def formOf (s : Shelf) (n : Int) : Form := s.forms.getD n.toNat ⟨⟨#[]⟩, []⟩
/-- the error of a shelf, a form and fills -/
def makeErrM (s : Shelf) (n : Int) (fs : List (List ByteArray)) : Int := if openErrM s n ≠ 0 then openErrM s n else fillsErrM (formOf s n).parts fs
/-- a letter, if there is no error -/
def MadeL (w : World) (l : List ByteArray) (e : Int) (v : Value) : Prop := ∃ u, v = .tuple #[u, .int .i64 e] ∧ (e = 0 → StrsAt w u l) ∧ (e ≠ 0 → u = .slice none 0 0)
set_option maxHeartbeats 1000000 in
set_option maxRecDepth 100000 in
theorem make_any (sv v : Value) (s : Shelf) (n : Int) (hn : I64 n) (fs : List (List ByteArray)) (w : World) (hs : ShelfAt w sv s) (hfs : FillsAt w v fs) :
    Calls Tryz.prog 12 #[sv, .int .i64 n, v] w fun e w' => ∃ u, e = .returned u ∧ MadeL w' (builtM (formOf s n).parts fs) (makeErrM s n fs) u ∧ Ext w w' := by
  have hsW := hs
  obtain ⟨a, c, rfl, hw, hc1, hc2, hf⟩ := hs.open
  obtain ⟨fa, fc, rfl, hfc, hfm⟩ := hfs.shape
  clear hf hs
  go_enter Tryz.func12, Tryz.ntmps12
  go_wp2_with fail
  refine (openF_any _ s n hn w _ (by first | (with_reducible exact Ext.refl _) | (with_reducible assumption) | (show Below _ _ _; go_grown; done)) hsW).mono ?_
  rintro e w1 ⟨uu, rfl, ⟨u, rfl, h1, h2⟩, hx1⟩
  have x1 : Ext w w1 := Ext.trans (by first | (with_reducible exact Ext.refl _) | (with_reducible assumption) | (show Below _ _ _; go_grown; done)) hx1
  clear hx1
  obtain ⟨nm, pa, pn, pc, rfl⟩ : ∃ nm pa pn pc, u = .agg #[.string nm, .slice pa pn pc] := by
    by_cases h : openErrM s n = 0
    · obtain ⟨i, hi, -, uu, rfl, -, hp⟩ := h1 h
      obtain ⟨pa, pc, rfl, -⟩ := hp.shape
      exact ⟨_, _, _, _, rfl⟩
    · exact ⟨_, _, _, _, h2 h⟩
  clear h2
  by_cases h0 : openErrM s n = 0
  · have ho : makeErrM s n fs = fillsErrM (formOf s n).parts fs := by rw [makeErrM, if_neg (by simpa using h0)]
    obtain ⟨hV, -, -⟩ := openErr_ok h0
    obtain ⟨i, hi, rfl, hfv⟩ := h1 h0
    have hfo : formOf s (i : Int) = s.forms[i] := by unfold formOf; simp [hi]
    have hv := hV.forms _ (List.getElem_mem hi)
    rw [hfo] at ho
    rw [h0]
    have Ho := Lib.hid ho
    clear ho hV h0 h1
    generalize s.forms[i] = f at *
    have Hfo := Lib.hid hfo
    clear hfo
    have Hv := Lib.hid hv
    clear hv
    go_wp2_with fail
    refine (fillsError_any _ _ f fs Hv.out.n _ ((hfv.ext x1).ext (by first | (with_reducible exact Ext.refl _) | (with_reducible assumption) | (show Below _ _ _; go_grown; done))) (hfs.ext (Ext.trans x1 (by first | (with_reducible exact Ext.refl _) | (with_reducible assumption) | (show Below _ _ _; go_grown; done))))).mono ?_
    rintro e w2 ⟨rfl, hx2⟩
    have x2 : Ext w1 w2 := Ext.trans (by first | (with_reducible exact Ext.refl _) | (with_reducible assumption) | (show Below _ _ _; go_grown; done)) hx2
    have b0 : w2.cell? ⟨w1.heap.size, 0, none⟩ = some (.string nm) := hx2.cell (by simp [go_sem])
    have b1 : w2.cell? ⟨w1.heap.size, 1, none⟩ = some (.slice pa pn pc) := hx2.cell (by simp [go_sem])
    clear hx2
    by_cases h3 : fillsErrM f.parts fs = 0
    · have hm : makeErrM s i fs = 0 := Ho.out.trans h3
      obtain ⟨g1, g2⟩ := fillsErr_ok Hv.out.parts h3
      have G1 := Lib.hid g1
      have G2 := Lib.hid g2
      have Hm := Lib.hid hm
      rw [h3]
      clear h3 hm g1 g2 Ho
      go_wp2_with fail
      refine (filled_any _ _ f fs Hv.out.n (fun p hp => (Hv.out.parts p hp).n) (fun l hl => (G2.out l hl).1) G1.out.symm w2 (hfv.ext (Ext.trans x1 x2)) (hfs.ext (Ext.trans x1 x2))).mono ?_
      rintro e w3 ⟨u, rfl, hu, hx3⟩
      obtain ⟨ua, uc, rfl, -⟩ := hu.shape
      go_wp2
      go_ret2
      exact ⟨_, rfl, ⟨.slice ua (builtM f.parts fs).length uc, by rw [Hm.out]; rfl, fun _ => by rw [Hfo.out]; exact hu, fun h => absurd Hm.out h⟩, Ext.trans x1 (Ext.trans x2 hx3)⟩
    · have hm : makeErrM s i fs = fillsErrM f.parts fs := Ho.out
      have h3' : (fillsErrM f.parts fs != 0) = true := by simpa using h3
      have Hm := Lib.hid hm
      have H3 := Lib.hid h3
      clear h3 hm Ho
      go_wp2_with fail
      go_ret2
      exact ⟨_, rfl, ⟨.slice none 0 0, by rw [Hm.out]; rfl, fun h => absurd (Hm.out.symm.trans h) H3.out, fun _ => rfl⟩, Ext.trans x1 x2⟩
  · have ho : makeErrM s n fs = openErrM s n := by rw [makeErrM, if_pos h0]
    have h0' : (openErrM s n != 0) = true := by simpa using h0
    have Ho := Lib.hid ho
    have H0 := Lib.hid h0
    clear h0 ho h1
    go_wp2_with fail
    go_ret2
    exact ⟨_, rfl, ⟨.slice none 0 0, by rw [Ho.out]; rfl, fun h => absurd (Ho.out.symm.trans h) H0.out, fun _ => rfl⟩, Ext.trans x1 (by first | (with_reducible exact Ext.refl _) | (with_reducible assumption) | (show Below _ _ _; go_grown; done))⟩
end Go.Proofs.YtnfbhicoknpojaaGreat

namespace Go.Proofs.YtnfbhicoknpojaaGreat
set_option linter.unusedSimpArgs false
set_option linter.unusedVariables false
open Go.RowKit
set_option linter.unusedVariables false

structure Slot where
  word : ByteArray
  free : Bool
def slotR (w : World) (b o : Nat) (s : Slot) : Prop := w.cell? ⟨b, o, none⟩ = some (.string s.word) ∧ w.cell? ⟨b, o + 1, none⟩ = some (.bool s.free) ∧ s.word.size ≤ 9223372036854775807
theorem slotR.keeps : Keeps slotR := fun _ _ _ _ _ hx h => ⟨hx.cell h.1, hx.cell h.2.1, h.2.2⟩
abbrev SlotsAt : World → Value → List Slot → Prop := SliceAt 2 slotR
theorem SlotsAt.ext {w w' : World} {v : Value} {l : List Slot} (h : SlotsAt w v l) (hx : Ext w w') : SlotsAt w' v l := SliceAt.ext slotR.keeps h hx
def cellsS (l : List Slot) : List Value := l.flatMap fun s => [.string s.word, .bool s.free]
theorem cellsS_len (l : List Slot) : (cellsS l).length = l.length * 2 := by
  induction l with
  | nil => rfl
  | cons x l ih => simp only [cellsS, List.flatMap_cons, List.length_append, List.length_cons, List.length_nil] at *; omega
theorem cellsS_get (l : List Slot) (i : Nat) (h : i < l.length) : (cellsS l)[i * 2]? = some (.string l[i].word) ∧ (cellsS l)[i * 2 + 1]? = some (.bool l[i].free) := by
  induction l generalizing i with
  | nil => simp at h
  | cons x l ih =>
    cases i with
    | zero => simp [cellsS]
    | succ i =>
      have := ih i (by simpa using h)
      have e : (i + 1) * 2 = i * 2 + 2 := by omega
      rw [e]
      simpa [cellsS] using this
theorem cellsS_app (l r : List Slot) : cellsS (l ++ r) = cellsS l ++ cellsS r := by simp [cellsS]
/-- a row of slots of the call's own -/
def RowS (base : Nat) (l : List Slot) (u : Value) (w : World) : Prop := w.ownsRow base 192 2 u l.length (cellsS l)
theorem RowS.ext {base : Nat} {l : List Slot} {u : Value} {w w' : World} (h : RowS base l u w) (hx : Ext w w') : RowS base l u w' := Ext.owns h hx
theorem RowS.nil {base : Nat} {w : World} : RowS base [] (.slice none 0 0) w := World.ownsRow_nil _ _ _ _
theorem RowS.snoc {base : Nat} {l : List Slot} {a : ByteArray} {b : Bool} {u : Value} {w : World} (h : w.ownsRow base 192 2 u (l.length + 1) (cellsS l ++ [.string a, .bool b])) : RowS base (l ++ [⟨a, b⟩]) u w := by
  unfold RowS
  rw [cellsS_app, List.length_append]
  exact h
theorem RowS.lower {base base' : Nat} {l : List Slot} {u : Value} {w : World} (h : RowS base l u w) (hb : base' ≤ base) : RowS base' l u w := by
  refine ⟨h.1, ?_⟩
  rcases h.2 with h | ⟨g, cap, cur, e, h1, h2⟩
  · exact .inl h
  · exact .inr ⟨g, cap, cur, e, Nat.le_trans hb h1, h2⟩
theorem RowS.at_ {base : Nat} {l : List Slot} {u : Value} {w : World} (h : RowS base l u w) (hI : ∀ s ∈ l, s.word.size ≤ 9223372036854775807) : SlotsAt w u l := by
  have hcells := fun g hg => h.cells (g := g) hg
  rcases h.2 with ⟨rfl, hn⟩ | ⟨g, cap, cur, rfl, hb, hg, hnc, hcm, hcs, htake⟩
  · have : l = [] := List.eq_nil_of_length_eq_zero hn
    subst this; exact SliceAt.nil
  · refine ⟨_, _, rfl, hnc, by simpa [maxLen] using hcm, fun i hi => ⟨g, 0, rfl, ?_⟩⟩
    obtain ⟨c0, c1⟩ := cellsS_get l i hi
    have r0 := hcells g rfl _ _ c0
    have r1 := hcells g rfl _ _ c1
    have ea : ∀ j, (⟨g, 0, none⟩ : Addr).add j = ⟨g, 0 + j, none⟩ := fun j => by unfold Addr.add; split <;> simp_all
    rw [ea] at r0 r1
    exact ⟨r0, r1, hI _ (List.getElem_mem hi)⟩
theorem cell_two_newS (w : World) (a b : Value) (t : TypeId) : ∀ j u, [a, b][j]? = some u → (w.alloc (.cells #[a, b] t)).cell? ((⟨w.heap.size, 0, none⟩ : Addr).add j) = some u := by
  intro j u h
  match j, h with
  | 0, h => simp at h; subst h; simp [go_sem]
  | 1, h => simp at h; subst h; simp [go_sem]
  | j + 2, h => simp at h
theorem infoSlot : (Tryz.prog.info? 192).map (fun i => (i.zero, i.size, i.bytes)) = some (some (.agg #[.string ByteArray.empty, .bool false]), 2, 24) := by kernel_rfl
/-- the slots of words that are given -/
def givenM (l : List ByteArray) : List Slot := l.map fun s => ⟨s, false⟩

set_option maxRecDepth 100000 in
set_option maxHeartbeats 2000000 in
theorem given_any (v : Value) (l : List ByteArray) (h5 : l.length ≤ 1000) (w : World) (hl : StrsAt w v l) :
    Calls Tryz.prog 57 #[v] w fun e w' => ∃ u, e = .returned u ∧ RowS w.heap.size (givenM l) u w' ∧ Ext w w' := by
  obtain ⟨a, cap, rfl, hlc, hcm⟩ := hl.shape
  obtain ⟨i0, hi, hz0, hz1, hz2⟩ := info_parts infoSlot
  go_enter Tryz.func57, Tryz.ntmps57
  go_wp2_with fail
  go_loopw [3, 8] (fun v i wr => ∃ k : Nat, k ≤ l.length ∧ i = .int .i64 k ∧ Ext w wr ∧ RowS w.heap.size (givenM (l.take k)) v wr) (fun _ i _ => l.length - (intOf i).toNat)
  case atStart => exact ⟨0, Nat.zero_le _, rfl, Ext.refl _, RowS.nil⟩
  case round =>
    obtain ⟨k, hk, rfl, hxr, hown⟩ := hrel
    by_cases hlt : k < l.length
    · have k1 : (k : Int) < (l.length : Int) := by omega
      obtain ⟨b, o, rfl, h1, -⟩ := hl.get hlt
      replace h1 := hxr.cell h1
      rw [Nat.mul_one] at h1
      have hst : givenM (l.take (k + 1)) = givenM (l.take k) ++ [⟨l[k], false⟩] := by rw [List.take_succ_eq_append_getElem hlt]; unfold givenM; rw [List.map_append]; rfl
      have hlen : (givenM (l.take k)).length = k := by simp [givenM]; omega
      generalize l[k] = y at *
      have Hst := Lib.hid hst
      have Hlen := Lib.hid hlen
      have Hown := Lib.hid hown
      have hszr := hxr.size
      clear hst hlen hown
      have hc2 := cellsS_len (givenM (l.take k))
      generalize hG : givenM (l.take k) = G at *
      have HG := Lib.hid hG
      clear hG
      have hGk : G.length ≤ 1000 := by have := Hlen.out; omega
      go_wp2_with (at_builtin; go_loud (refine wpList_append_own_at _ rfl _ _ 116 rfl w.heap.size 192 i0 (.agg #[.string ByteArray.empty, .bool false]) 2 24 Tryz.underlying116 hi hz0 hz1 hz2 rfl (by decide) u3 G.length (cellsS G) rfl (World.ownsRow.alloc Hown.out _) ⟨wr.heap.size, 0, none⟩ 1 1 [.string y, .bool false] rfl rfl (cell_two_newS _ _ _ _) (by simp [Value.oneCell']) (by unfold maxLen; omega) (by omega) (by simp; omega) ?_; intro v' w2 hown' hgrow _ _))
      have hx3 : Ext w w2 := Ext.grown (hxr.alloc _) hgrow fun k hk => (Hown.out.lt k hk).1
      go_roundw
      case rel => exact ⟨k + 1, by omega, by go_num, hx3, by rw [Hst.out]; exact RowS.snoc hown'⟩
      case measure => simp [intOf]; omega
    · have hke : k = l.length := by omega
      subst hke
      rw [List.take_length] at hown
      go_wp2
      go_ret
      exact ⟨_, rfl, hown, hxr⟩
end Go.Proofs.YtnfbhicoknpojaaGreat

namespace Go.Proofs.YtnfbhicoknpojaaGreat
set_option linter.unusedSimpArgs false
set_option linter.unusedVariables false
open Go.RowKit
set_option linter.unusedVariables false

/-- the slots of a room -/
def roomSlotsM (lo : Int) (n : Nat) : List Slot := (List.range n).map fun (k : Nat) => ⟨ByteArray.empty, decide (lo ≤ (k : Int))⟩
/-- the slots of a part -/
def partSlotsM (p : Part) : List Slot := givenM p.words ++ roomSlotsM p.lo p.hi.toNat
theorem roomSlots_step (lo : Int) (n : Nat) : roomSlotsM lo (n + 1) = roomSlotsM lo n ++ [⟨ByteArray.empty, decide (lo ≤ (n : Int))⟩] := by
  unfold roomSlotsM
  rw [List.range_succ, List.map_append]; rfl

set_option maxRecDepth 100000 in
set_option maxHeartbeats 2000000 in
theorem partSlots_any (pv : Value) (p : Part) (hn : p.words.length ≤ 3) (h3 : p.hi ≤ 3) (w : World) (hp : PartV w pv p) :
    Calls Tryz.prog 114 #[pv] w fun e w' => ∃ u, e = .returned u ∧ RowS w.heap.size (partSlotsM p) u w' ∧ Ext w w' := by
  obtain ⟨u, rfl, hs, hlo, hhi⟩ := hp
  obtain ⟨a, cap, rfl, hlc, hcm⟩ := hs.shape
  obtain ⟨i0, hi, hz0, hz1, hz2⟩ := info_parts infoSlot
  have hlo' : -9223372036854775808 ≤ p.lo ∧ p.lo ≤ 9223372036854775807 := hlo
  go_enter Tryz.func114, Tryz.ntmps114
  go_wp2_with fail
  refine (given_any _ p.words (by omega) _ (hs.ext (by first | (with_reducible exact Ext.refl _) | (with_reducible assumption) | (show Below _ _ _; go_grown; done)))).mono ?_
  rintro e w1 ⟨gv, rfl, hg, hx1⟩
  have x1 : Ext ((w.alloc (.cells #[.slice a p.words.length cap, .int .i64 p.lo, .int .i64 p.hi] 172))) w1 := hx1
  have b2 : w1.cell? ⟨w.heap.size, 2, none⟩ = some (.int .i64 p.hi) := hx1.cell (by simp [go_sem])
  have hg' : RowS (w.heap.size + 1) (givenM p.words) gv w1 := hg.lower (by simp)
  clear hx1 hg
  have hz0' : ((w.alloc (.cells #[.slice a p.words.length cap, .int .i64 p.lo, .int .i64 p.hi] 172))).heap.size = w.heap.size + 1 := by simp [go_sem]
  have Hg := Lib.hid hg'
  clear hg'
  go_wp2_with fail
  go_loopw [3, 13] (fun v i wr => ∃ k : Nat, k ≤ p.hi.toNat ∧ i = .int .i64 k ∧ Ext ((w.alloc (.cells #[.slice a p.words.length cap, .int .i64 p.lo, .int .i64 p.hi] 172))) wr ∧ RowS (w.heap.size + 1) (givenM p.words ++ roomSlotsM p.lo k) v wr) (fun _ i _ => p.hi.toNat - (intOf i).toNat)
  case atStart => exact ⟨0, Nat.zero_le _, rfl, x1, by simpa [roomSlotsM] using Hg.out⟩
  case round =>
    obtain ⟨k, hk, rfl, hxr, hown⟩ := hrel
    have b1 : wr.cell? ⟨w.heap.size, 1, none⟩ = some (.int .i64 p.lo) := hxr.cell (by simp [go_sem])
    by_cases hlt : k < p.hi.toNat
    · have k1 : (k : Int) < p.hi := by omega
      have hst : givenM p.words ++ roomSlotsM p.lo (k + 1) = (givenM p.words ++ roomSlotsM p.lo k) ++ [⟨ByteArray.empty, decide (p.lo ≤ (k : Int))⟩] := by rw [roomSlots_step, List.append_assoc]
      have hlen : (givenM p.words ++ roomSlotsM p.lo k).length ≤ 6 := by simp [givenM, roomSlotsM]; omega
      have hszr := hxr.size
      have hc2 := cellsS_len (givenM p.words ++ roomSlotsM p.lo k)
      generalize hG : givenM p.words ++ roomSlotsM p.lo k = G at *
      have Hst := Lib.hid hst
      have Hown := Lib.hid hown
      clear hG hst hown Hg
      generalize hbd : decide (p.lo ≤ (k : Int)) = bd at *
      go_wp2_with (at_builtin; go_loud (refine wpList_append_own_at _ rfl _ _ 116 rfl (w.heap.size + 1) 192 i0 (.agg #[.string ByteArray.empty, .bool false]) 2 24 Tryz.underlying116 hi hz0 hz1 hz2 rfl (by decide) u3 G.length (cellsS G) rfl (World.ownsRow.alloc Hown.out _) ⟨wr.heap.size, 0, none⟩ 1 1 [.string ByteArray.empty, .bool _] rfl rfl (cell_two_newS _ _ _ _) (by simp [Value.oneCell']) (by unfold maxLen; omega) (by omega) (by simp; omega) ?_; intro v' w2 hown' hgrow _ _))
      have hx3 : Ext ((w.alloc (.cells #[.slice a p.words.length cap, .int .i64 p.lo, .int .i64 p.hi] 172))) w2 := Ext.grown (hxr.alloc _) hgrow fun k hk => by rw [hz0']; exact (Hown.out.lt k hk).1
      go_roundw
      case rel => exact ⟨k + 1, by omega, by go_num, hx3, by rw [Hst.out]; exact RowS.snoc hown'⟩
      case measure => simp [intOf]; omega
    · have hke : k = p.hi.toNat := by omega
      subst hke
      have k1 : ¬ ((p.hi.toNat : Int) < p.hi) := by omega
      go_wp2
      go_ret
      exact ⟨_, rfl, hown.lower (by omega), hxr.of_alloc⟩
end Go.Proofs.YtnfbhicoknpojaaGreat

namespace Go.Proofs.YtnfbhicoknpojaaGreat
set_option linter.unusedSimpArgs false
set_option linter.unusedVariables false
open Go.RowKit
set_option linter.unusedVariables false

/-- the slots of a form -/
def formSlotsM (ps : List Part) : List Slot := ps.flatMap partSlotsM
theorem partSlots_len {p : Part} (h : ValidPart p) : 1 ≤ (partSlotsM p).length ∧ (partSlotsM p).length ≤ 3 := by
  have e : (partSlotsM p).length = p.words.length + p.hi.toNat := by simp [partSlotsM, givenM, roomSlotsM]
  have hn := h.n
  rw [e]
  by_cases hw : p.words = []
  · have := h.r hw
    rw [hw]
    simp
    omega
  · have := h.z hw
    have hp : 0 < p.words.length := List.length_pos_iff.mpr hw
    rw [this.2]
    simp
    omega
theorem formSlots_step (ps : List Part) (k : Nat) (h : k < ps.length) : formSlotsM (ps.take (k + 1)) = formSlotsM (ps.take k) ++ partSlotsM ps[k] := by
  unfold formSlotsM
  rw [List.take_succ_eq_append_getElem h, List.flatMap_append]
  simp
theorem formSlots_len {ps : List Part} (h : ∀ p ∈ ps, ValidPart p) : (formSlotsM ps).length ≤ 3 * ps.length := by
  induction ps with
  | nil => simp [formSlotsM]
  | cons p r ih =>
    have h1 := ih fun q hq => h q (List.mem_cons_of_mem _ hq)
    have h2 := (partSlots_len (h p List.mem_cons_self)).2
    simp only [formSlotsM, List.flatMap_cons, List.length_append, List.length_cons] at *
    omega
theorem cellsS_one (l : List Slot) : ∀ u ∈ cellsS l, u.oneCell' = true := by
  intro u hu
  obtain ⟨s, -, hs⟩ := List.mem_flatMap.1 hu
  simp only [List.mem_cons, List.not_mem_nil, or_false] at hs
  rcases hs with rfl | rfl <;> rfl
/-- the block of a row that holds something -/
theorem RowS.some {base : Nat} {l : List Slot} {u : Value} {w : World} (h : RowS base l u w) (hn : 1 ≤ l.length) : ∃ g c, u = .slice (some ⟨g, 0, none⟩) l.length c ∧ ∀ j x, (cellsS l)[j]? = some x → w.cell? ((⟨g, 0, none⟩ : Addr).add j) = some x := by
  have hcells := fun g hg => h.cells (g := g) hg
  rcases h.2 with ⟨rfl, h0⟩ | ⟨g, cap, cur, rfl, -⟩
  · omega
  · exact ⟨g, cap, rfl, fun j x hx => hcells g rfl j x hx⟩

set_option maxRecDepth 100000 in
set_option maxHeartbeats 2000000 in
theorem formSlots_any (fv : Value) (f : Form) (hV : ValidForm f) (w : World) (hf : FormV w fv f) :
    Calls Tryz.prog 82 #[fv] w fun e w' => ∃ u, e = .returned u ∧ RowS w.heap.size (formSlotsM f.parts) u w' ∧ Ext w w' := by
  obtain ⟨pv, rfl, hns, hp⟩ := hf
  obtain ⟨a, cap, rfl, hlc, hcm⟩ := hp.shape
  obtain ⟨i0, hi, hz0, hz1, hz2⟩ := info_parts infoSlot
  have h5 := hV.n
  go_enter Tryz.func82, Tryz.ntmps82
  go_wp2_with fail
  go_loopw [3, 10] (fun v i wr => ∃ k : Nat, k ≤ f.parts.length ∧ i = .int .i64 k ∧ Ext w wr ∧ RowS w.heap.size (formSlotsM (f.parts.take k)) v wr) (fun _ i _ => f.parts.length - (intOf i).toNat)
  case atStart => exact ⟨0, Nat.zero_le _, rfl, ext_alloc _ _, RowS.nil⟩
  case round =>
    obtain ⟨k, hk, rfl, hxr, hown⟩ := hrel
    by_cases hlt : k < f.parts.length
    · have k1 : (k : Int) < (f.parts.length : Int) := by omega
      obtain ⟨b, o, rfl, ⟨u, h1, hs⟩, h2, h3, hlo, hhi⟩ := hp.get hlt
      replace h1 := hxr.cell h1
      replace h2 := hxr.cell h2
      replace h3 := hxr.cell h3
      have hst := formSlots_step f.parts k hlt
      have hvp := hV.parts _ (List.getElem_mem hlt)
      have hgl : (formSlotsM (f.parts.take k)).length ≤ 15 := by
        have := formSlots_len (ps := f.parts.take k) fun p hp => hV.parts p (List.mem_of_mem_take hp)
        rw [List.length_take] at this
        omega
      generalize f.parts[k] = y at *
      obtain ⟨ua, uc, rfl, -⟩ := hs.shape
      have hc2 := cellsS_len (formSlotsM (f.parts.take k))
      generalize hG : formSlotsM (f.parts.take k) = G at *
      have Hst := Lib.hid hst
      have Hown := Lib.hid hown
      have Hvp := Lib.hid hvp
      have hszr := hxr.size
      clear hG hst hown hvp
      go_wp2_with fail
      refine (partSlots_any _ y Hvp.out.n (by
        by_cases hw : y.words = []
        · exact (Hvp.out.r hw).2.2.2
        · rw [(Hvp.out.z hw).2]; decide) _ ⟨_, rfl, (hs.ext hxr).ext (by first | (with_reducible exact Ext.refl _) | (with_reducible assumption) | (show Below _ _ _; go_grown; done)), hlo, hhi⟩).mono ?_
      rintro e w1 ⟨sv, rfl, hsv, hx1⟩
      have hx2 : Ext wr w1 := Ext.trans (by first | (with_reducible exact Ext.refl _) | (with_reducible assumption) | (show Below _ _ _; go_grown; done)) hx1
      have own1 := Hown.out.ext hx2
      obtain ⟨hl1, hl2⟩ := partSlots_len Hvp.out
      obtain ⟨g, c, rfl, hcs⟩ := hsv.some hl1
      have hcl := cellsS_len (partSlotsM y)
      have hz := hx2.size
      have Hcs := Lib.hid hcs
      have Own1 := Lib.hid own1
      generalize hP : partSlotsM y = P at *
      clear hcs own1 hsv hx1 hP h1 h2 h3
      go_wp2_with (at_builtin; go_loud (refine wpList_append_own_at _ rfl _ _ 116 rfl w.heap.size 192 i0 (.agg #[.string ByteArray.empty, .bool false]) 2 24 Tryz.underlying116 hi hz0 hz1 hz2 rfl (by decide) u3 G.length (cellsS G) rfl Own1.out ⟨g, 0, none⟩ P.length c (cellsS P) rfl hcl Hcs.out (cellsS_one _) (by unfold maxLen; omega) (by omega) (by omega) ?_; intro v' w2 hown' hgrow _ _))
      have hx3 : Ext w w2 := Ext.grown (hxr.trans hx2) hgrow fun k hk => (Own1.out.lt k hk).1
      go_roundw
      case rel => exact ⟨k + 1, by omega, by go_num, hx3, by rw [Hst.out]; unfold RowS; rw [List.length_append, cellsS_app]; exact hown'⟩
      case measure => simp [intOf]; omega
    · have hke : k = f.parts.length := by omega
      subst hke
      rw [List.take_length] at hown
      go_wp2
      go_ret
      exact ⟨_, rfl, hown, hxr⟩
end Go.Proofs.YtnfbhicoknpojaaGreat

namespace Go.Proofs.YtnfbhicoknpojaaGreat
set_option linter.unusedSimpArgs false
set_option linter.unusedVariables false
open Go.RowKit
set_option linter.unusedVariables false

def takesM (s : Slot) (x : ByteArray) : Bool := s.word.toList.isEmpty || s.word.toList == x.toList
/-- a slot, handed in -/
def slotV (s : Slot) : Value := .agg #[.string s.word, .bool s.free]
set_option maxRecDepth 100000 in
theorem takes_any (s : Slot) (x : ByteArray) (w : World) :
    Calls Tryz.prog 125 #[slotV s, .string x] w fun e w' => e = .returned (.bool (takesM s x)) ∧ Ext w w' := by
  unfold slotV
  go_enter Tryz.func125, Tryz.ntmps125
  go_wp2_with fail
  · go_ret
    rename_i h
    exact ⟨ret_bool (by rw [takesM, h]; rfl), (by first | (with_reducible exact Ext.refl _) | (with_reducible assumption) | (show Below _ _ _; go_grown; done))⟩
  · go_ret
    exact ⟨rfl, (by first | (with_reducible exact Ext.refl _) | (with_reducible assumption) | (show Below _ _ _; go_grown; done))⟩
end Go.Proofs.YtnfbhicoknpojaaGreat

namespace Go.Proofs.YtnfbhicoknpojaaGreat
set_option linter.unusedSimpArgs false
set_option linter.unusedVariables false
open Go.RowKit
set_option linter.unusedVariables false

set_option maxHeartbeats 1000000 in
theorem eq_counts (a b c d e a' b' c' d' e' : Int) (k : Nat) (w : World) :
    (Op.equalIn (k + 2) 146 (.agg #[.int .i64 a, .int .i64 b, .int .i64 c, .int .i64 d, .int .i64 e]) (.agg #[.int .i64 a', .int .i64 b', .int .i64 c', .int .i64 d', .int .i64 e'])).run Tryz.prog w =
      .ok (a == a' && (b == b' && (c == c' && (d == d' && e == e')))) w := by
  have ha : ∀ w, (isAgg 3).run Tryz.prog w = .ok false w := fun _ => by kernel_rfl
  rw [Op.equalIn]
  simp only [go_sem]
  simp [List.range', go_sem]
  by_cases h1 : a = a' <;> by_cases h2 : b = b' <;> by_cases h3 : c = c' <;> by_cases h4 : d = d' <;> by_cases h5 : e = e' <;> simp [h1, h2, h3, h4, h5]
/-- how many words are in each part -/
def countsV (c : Nat → Int) : Value := .agg #[.int .i64 (c 0), .int .i64 (c 1), .int .i64 (c 2), .int .i64 (c 3), .int .i64 (c 4)]
def lexL : List Int → List Int → Bool
  | x :: xs, y :: ys => if x = y then lexL xs ys else decide (x < y)
  | _, _ => false
def beforeM (c o : Nat → Int) : Bool := lexL [c 0, c 1, c 2, c 3, c 4] [o 0, o 1, o 2, o 3, o 4]
def sameC (c o : Nat → Int) : Bool := c 0 == o 0 && (c 1 == o 1 && (c 2 == o 2 && (c 3 == o 3 && c 4 == o 4)))
theorem before_same {c o : Nat → Int} (h : sameC c o = true) : beforeM c o = false := by
  simp [sameC] at h
  simp [beforeM, lexL, h]
theorem before_hit {c o : Nat → Int} {k : Nat} (hk : k < 5) (h : ∀ j, j < k → c j = o j) (hne : c k ≠ o k) : beforeM c o = decide (c k < o k) := by
  unfold beforeM
  match k, hk with
  | 0, _ => simp [lexL, hne]
  | 1, _ => simp [lexL, h 0 (by omega), hne]
  | 2, _ => simp [lexL, h 0 (by omega), h 1 (by omega), hne]
  | 3, _ => simp [lexL, h 0 (by omega), h 1 (by omega), h 2 (by omega), hne]
  | 4, _ => simp [lexL, h 0 (by omega), h 1 (by omega), h 2 (by omega), h 3 (by omega), hne]
  | n + 5, h => omega
theorem before_stop {c o : Nat → Int} (h : sameC c o = false) (k : Nat) (hk : k < 5) (h1 : ∀ j, j < k → c j = o j) (he : c k = o k) : k + 1 < 5 := by
  rcases Nat.lt_or_ge (k + 1) 5 with h2 | h2
  · exact h2
  · obtain rfl : k = 4 := by omega
    simp [sameC, h1 0 (by omega), h1 1 (by omega), h1 2 (by omega), h1 3 (by omega), he] at h
theorem cells_five {w : World} {B : Nat} {c : Nat → Int} (h0 : w.cell? ⟨B, 0, none⟩ = some (.int .i64 (c 0))) (h1 : w.cell? ⟨B, 1, none⟩ = some (.int .i64 (c 1))) (h2 : w.cell? ⟨B, 2, none⟩ = some (.int .i64 (c 2))) (h3 : w.cell? ⟨B, 3, none⟩ = some (.int .i64 (c 3))) (h4 : w.cell? ⟨B, 4, none⟩ = some (.int .i64 (c 4))) (k : Nat) (hk : k < 5) : w.cell? ⟨B, k, none⟩ = some (.int .i64 (c k)) := by
  match k, hk with
  | 0, _ => exact h0
  | 1, _ => exact h1
  | 2, _ => exact h2
  | 3, _ => exact h3
  | 4, _ => exact h4
  | n + 5, h => omega
set_option maxHeartbeats 1000000 in
set_option maxRecDepth 100000 in
theorem before_any (c o : Nat → Int) (w : World) :
    Calls Tryz.prog 112 #[countsV c, countsV o] w fun e w' => e = .returned (.bool (beforeM c o)) ∧ Ext w w' := by
  unfold countsV
  go_enter Tryz.func112, Tryz.ntmps112
  go_wp2_with fail
  rw [eq_counts]
  change Oper.upon _ _ _ _ _ ((Result.ok (sameC c o) _).andThen _ |>.andThen _)
  cases hs : sameC c o
  · go_simp
    go_wp2_with fail
    have g0 := cells_five (w := (w.alloc (.cells #[.int .i64 (c 0), .int .i64 (c 1), .int .i64 (c 2), .int .i64 (c 3), .int .i64 (c 4)] 146)).alloc (.cells #[.int .i64 (o 0), .int .i64 (o 1), .int .i64 (o 2), .int .i64 (o 3), .int .i64 (o 4)] 146)) (B := w.heap.size) (c := c) (by simp [go_sem]) (by simp [go_sem]) (by simp [go_sem]) (by simp [go_sem]) (by simp [go_sem])
    have g1 := cells_five (w := (w.alloc (.cells #[.int .i64 (c 0), .int .i64 (c 1), .int .i64 (c 2), .int .i64 (c 3), .int .i64 (c 4)] 146)).alloc (.cells #[.int .i64 (o 0), .int .i64 (o 1), .int .i64 (o 2), .int .i64 (o 3), .int .i64 (o 4)] 146)) (B := w.heap.size + 1) (c := o) (by simp [go_sem]) (by simp [go_sem]) (by simp [go_sem]) (by simp [go_sem]) (by simp [go_sem])
    have Hs := Lib.hid hs
    clear hs
    go_loopw [5] (fun i wr => ∃ k : Nat, k < 5 ∧ i = .int .i64 k ∧ (∀ j, j < k → c j = o j) ∧ (∀ j, j < 5 → wr.cell? ⟨w.heap.size, j, none⟩ = some (.int .i64 (c j))) ∧ (∀ j, j < 5 → wr.cell? ⟨w.heap.size + 1, j, none⟩ = some (.int .i64 (o j))) ∧ Ext w wr) (fun i _ => 5 - (intOf i).toNat)
    case atStart => exact ⟨0, by omega, rfl, fun j h => by omega, g0, g1, (by first | (with_reducible exact Ext.refl _) | (with_reducible assumption) | (show Below _ _ _; go_grown; done))⟩
    case round =>
      obtain ⟨k, hk, rfl, hj, e0, e1, hx⟩ := hrel
      have k0 := e0 k hk
      have k1 := e1 k hk
      have k5 : (k : Int) < 5 := by omega
      have Hj := Lib.hid hj
      have E0 := Lib.hid e0
      have E1 := Lib.hid e1
      clear hj e0 e1 g0 g1
      go_wp2_with fail
      apply Facts.wp_region [.val _, .val _, .val _, .val _, .val _, .val _, .val _] (by kernel_rfl) (by kernel_rfl) trivial ?main
      case main =>
        iterate 7 (refine ⟨fun w1 hx hh => ?_, ?_⟩; focus (clear hh; have a0 := hx.cell k0; have a1 := hx.cell k1; go_simp; exact ⟨Ext.refl _, rfl⟩))
        intro w1 hx1 hh
        clear hh
        go_simp
        by_cases he : c k = o k
        · have hb : (c k == o k) = true := by simpa using he
          have hn := before_stop Hs.out k hk Hj.out he
          have He := Lib.hid he
          clear he
          rw [hb]
          go_wp2
          go_roundw
          case rel => exact ⟨k + 1, hn, by go_num, fun j h => by
            rcases Nat.lt_or_ge j k with h1 | h1
            · exact Hj.out j h1
            · obtain rfl : j = k := by omega
              exact He.out, fun j h => hx1.cell (E0.out j h), fun j h => hx1.cell (E1.out j h), hx.trans hx1⟩
          case measure => simp [intOf]; omega
        · have hb : (c k == o k) = false := by simpa using he
          have ho := before_hit hk Hj.out he
          have Ho := Lib.hid ho
          clear he ho
          replace k0 := hx1.cell k0
          replace k1 := hx1.cell k1
          rw [hb]
          go_wp2_with fail
          apply Facts.wp_region [.val _, .val _, .val _, .val _, .val _, .val _, .val _, .val _] (by kernel_rfl) (by kernel_rfl) trivial ?main
          case main =>
            iterate 8 (refine ⟨fun w1 hx hh => ?_, ?_⟩; focus (clear hh; have a0 := hx.cell k0; have a1 := hx.cell k1; go_simp; exact ⟨Ext.refl _, rfl⟩))
            intro w2 hx2 hh
            clear hh
            go_simp
            go_wp2
            go_ret
            exact ⟨ret_bool Ho.out.symm, hx.trans (hx1.trans hx2)⟩
  · go_simp
    go_wp2_with fail
    go_ret
    exact ⟨ret_bool (before_same hs).symm, (by first | (with_reducible exact Ext.refl _) | (with_reducible assumption) | (show Below _ _ _; go_grown; done))⟩
end Go.Proofs.YtnfbhicoknpojaaGreat

namespace Go.Proofs.YtnfbhicoknpojaaGreat
set_option linter.unusedSimpArgs false
set_option linter.unusedVariables false
open Go.RowKit
set_option linter.unusedVariables false

/-- what lies in the table for each kind: keep, turn, drop, put, pass -/
def kindV : Nat → List Value
  | 0 => [.int .i64 1, .int .i64 1, .int .i64 0, .bool false, .func (.func 124) #[] #[], .func (.func 121) #[] #[]]
  | 1 => [.int .i64 1, .int .i64 1, .int .i64 1, .bool true, .func (.func 126) #[] #[], .func (.func 123) #[] #[]]
  | 2 => [.int .i64 1, .int .i64 0, .int .i64 1, .bool false, .func (.func 120) #[] #[], .func (.func 122) #[] #[]]
  | 3 => [.int .i64 0, .int .i64 1, .int .i64 1, .bool true, .func (.func 120) #[] #[], .func (.func 123) #[] #[]]
  | _ => [.int .i64 0, .int .i64 1, .int .i64 0, .bool false, .func (.func 127) #[] #[], .func (.func 122) #[] #[]]
def KindsAt (w : World) (B : Nat) : Prop := ∀ k j u, k < 5 → (kindV k)[j]? = some u → w.cell? ⟨B, k * 6 + j, none⟩ = some u
theorem KindsAt.ext {w w' : World} {B : Nat} (h : KindsAt w B) (hx : Ext w w') : KindsAt w' B := fun k j u hk hu => hx.cell (h k j u hk hu)
theorem kinds_laid {w : World} {B : Nat} (h : ∀ i u, (kindV 0 ++ kindV 1 ++ kindV 2 ++ kindV 3 ++ kindV 4)[i]? = some u → w.cell? ⟨B, i, none⟩ = some u) : KindsAt w B := by
  intro k j u hk hu
  refine h _ _ ?_
  have hj : j < 6 := by
    rcases Nat.lt_or_ge j 6 with h | h
    · exact h
    · rw [List.getElem?_eq_none (by match k, hk with
        | 0, _ => exact h
        | 1, _ => exact h
        | 2, _ => exact h
        | 3, _ => exact h
        | 4, _ => exact h)] at hu; cases hu
  rw [← hu]
  have : ∀ k : Fin 5, ∀ j : Fin 6, (kindV 0 ++ kindV 1 ++ kindV 2 ++ kindV 3 ++ kindV 4)[k.1 * 6 + j.1]? = (kindV k.1)[j.1]? := by
    intro k j
    match k, j with
    | ⟨0, _⟩, ⟨0, _⟩ | ⟨0, _⟩, ⟨1, _⟩ | ⟨0, _⟩, ⟨2, _⟩ | ⟨0, _⟩, ⟨3, _⟩ | ⟨0, _⟩, ⟨4, _⟩ | ⟨0, _⟩, ⟨5, _⟩ => rfl
    | ⟨1, _⟩, ⟨0, _⟩ | ⟨1, _⟩, ⟨1, _⟩ | ⟨1, _⟩, ⟨2, _⟩ | ⟨1, _⟩, ⟨3, _⟩ | ⟨1, _⟩, ⟨4, _⟩ | ⟨1, _⟩, ⟨5, _⟩ => rfl
    | ⟨2, _⟩, ⟨0, _⟩ | ⟨2, _⟩, ⟨1, _⟩ | ⟨2, _⟩, ⟨2, _⟩ | ⟨2, _⟩, ⟨3, _⟩ | ⟨2, _⟩, ⟨4, _⟩ | ⟨2, _⟩, ⟨5, _⟩ => rfl
    | ⟨3, _⟩, ⟨0, _⟩ | ⟨3, _⟩, ⟨1, _⟩ | ⟨3, _⟩, ⟨2, _⟩ | ⟨3, _⟩, ⟨3, _⟩ | ⟨3, _⟩, ⟨4, _⟩ | ⟨3, _⟩, ⟨5, _⟩ => rfl
    | ⟨4, _⟩, ⟨0, _⟩ | ⟨4, _⟩, ⟨1, _⟩ | ⟨4, _⟩, ⟨2, _⟩ | ⟨4, _⟩, ⟨3, _⟩ | ⟨4, _⟩, ⟨4, _⟩ | ⟨4, _⟩, ⟨5, _⟩ => rfl
  exact this ⟨k, hk⟩ ⟨j, hj⟩

set_option maxHeartbeats 1000000 in
set_option maxRecDepth 100000 in
theorem kinds_any (w : World) :
    Calls Tryz.prog 98 #[] w fun e w' => (∃ B, e = .returned (.slice (some ⟨B, 0, none⟩) 5 5) ∧ KindsAt w' B) ∧ Ext w w' := by
  go_enter Tryz.func98, Tryz.ntmps98
  go_wp2_with fail
  go_ret
  refine ⟨⟨_, rfl, kinds_laid fun i u hu => ?_⟩, (by first | (with_reducible exact Ext.refl _) | (with_reducible assumption) | (show Below _ _ _; go_grown; done))⟩
  rw [← hu]
  exact (World.cell?_alloc_new w _ _ _).trans (by first | (rw [List.getElem?_toArray]; rfl) | simp [kindV])
end Go.Proofs.YtnfbhicoknpojaaGreat
