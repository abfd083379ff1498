/-
  ERRORS BEHIND ONE ANOTHER: letter and form of the reference, valid of the statements.
  A LETTER MADE OF A FORM: Rooms, Put, Built and Make of the reference.
  ANY FILLS OF A FORM, by turns: Any of the statements: they are right for its rooms.
  WHETHER LETTERS, LISTS OF LETTERS AND MARKS ARE THE SAME, and how many of some marks are corrections: Same, Sames, Equal and Corrections of the reference.
  WHETHER TWO LISTS OF MARKS ARE THE SAME: Equal of the reference.
  WHAT Awake RETURNS: true.
  BY WAY OF A THIRD LETTER there are no fewer corrections.
-/
import Derived.Test.YtnfbhicoknpojaaGreatBunAK
import Derived.Test.YtnfbhicoknpojaaGreatBunAB
import Derived.Test.YtnfbhicoknpojaaGreatBunAD
import Derived.Test.YtnfbhicoknpojaaGreatBunAG
import Derived.Laws.AppendOwnNone
import Derived.Test.YtnfbhicoknpojaaGreatBunAA
import Derived.Test.YtnfbhicoknpojaaGreatBunAI
import Derived.Test.YtnfbhicoknpojaaGreatBunAJ
namespace Go.Proofs.YtnfbhicoknpojaaGreat
set_option linter.unusedSimpArgs false
set_option linter.unusedVariables false
open Go.RowKit
set_option linter.unusedVariables false

end Go.Proofs.YtnfbhicoknpojaaGreat

namespace Go.Proofs.YtnfbhicoknpojaaGreat
set_option linter.unusedSimpArgs false
set_option linter.unusedVariables false
open Go.RowKit
set_option linter.unusedVariables false

def spanR (w : World) (b o : Nat) (p : Part) : Prop := w.cell? ⟨b, o, none⟩ = some (.int .i64 p.lo) ∧ w.cell? ⟨b, o + 1, none⟩ = some (.int .i64 p.hi) ∧ I64 p.lo ∧ I64 p.hi
theorem spanR.keeps : Keeps spanR := fun _ _ _ _ _ hx h => ⟨hx.cell h.1, hx.cell h.2.1, h.2.2⟩
/-- the rooms of these parts -/
abbrev SpansAt : World → Value → List Part → Prop := SliceAt 2 spanR
theorem SpansAt.ext {w w' : World} {v : Value} {l : List Part} (h : SpansAt w v l) (hx : Ext w w') : SpansAt w' v l := SliceAt.ext spanR.keeps h hx
def cellsU (l : List Part) : List Value := l.flatMap fun s => [.int .i64 s.lo, .int .i64 s.hi]
theorem cellsU_len (l : List Part) : (cellsU l).length = l.length * 2 := by
  induction l with
  | nil => rfl
  | cons x l ih => simp only [cellsU, List.flatMap_cons, List.length_append, List.length_cons, List.length_nil] at *; omega
theorem cellsU_get (l : List Part) (i : Nat) (h : i < l.length) : (cellsU l)[i * 2]? = some (.int .i64 l[i].lo) ∧ (cellsU l)[i * 2 + 1]? = some (.int .i64 l[i].hi) := by
  induction l generalizing i with
  | nil => simp at h
  | cons x l ih =>
    cases i with
    | zero => simp [cellsU]
    | succ i =>
      have := ih i (by simpa using h)
      have e : (i + 1) * 2 = i * 2 + 2 := by omega
      rw [e]
      simpa [cellsU] using this
theorem cellsU_app (l r : List Part) : cellsU (l ++ r) = cellsU l ++ cellsU r := by simp [cellsU]
def RowU (base : Nat) (l : List Part) (u : Value) (w : World) : Prop := w.ownsRow base 96 2 u l.length (cellsU l)
theorem RowU.ext {base : Nat} {l : List Part} {u : Value} {w w' : World} (h : RowU base l u w) (hx : Ext w w') : RowU base l u w' := Ext.owns h hx
theorem RowU.nil {base : Nat} {w : World} : RowU base [] (.slice none 0 0) w := World.ownsRow_nil _ _ _ _
theorem RowU.at_ {base : Nat} {l : List Part} {u : Value} {w : World} (h : RowU base l u w) (hI : ∀ s ∈ l, I64 s.lo ∧ I64 s.hi) : SpansAt w u l := by
  have hcells := fun g hg => h.cells (g := g) hg
  rcases h.2 with ⟨rfl, hn⟩ | ⟨g, cap, cur, rfl, hb, hg, hnc, hcm, hcs, htake⟩
  · have : l = [] := List.eq_nil_of_length_eq_zero hn
    subst this; exact SliceAt.nil
  · refine ⟨_, _, rfl, hnc, by simpa [maxLen] using hcm, fun i hi => ⟨g, 0, rfl, ?_⟩⟩
    obtain ⟨c0, c1⟩ := cellsU_get l i hi
    have r0 := hcells g rfl _ _ c0
    have r1 := hcells g rfl _ _ c1
    have ea : ∀ j, (⟨g, 0, none⟩ : Addr).add j = ⟨g, 0 + j, none⟩ := fun j => by unfold Addr.add; split <;> simp_all
    rw [ea] at r0 r1
    exact ⟨r0, r1, hI _ (List.getElem_mem hi)⟩
theorem infoSpan : (Tryz.prog.info? 96).map (fun i => (i.zero, i.size, i.bytes)) = some (some (.agg #[.int .i64 0, .int .i64 0]), 2, 16) := by kernel_rfl
theorem cell_two_span (w : World) (a b : Value) (t : TypeId) : ∀ j u, [a, b][j]? = some u → (w.alloc (.cells #[a, b] t)).cell? ((⟨w.heap.size, 0, none⟩ : Addr).add j) = some u := by
  intro j u hj
  match j, hj with
  | 0, hj => simp at hj; subst hj; simp [go_sem, Addr.add]
  | 1, hj => simp at hj; subst hj; simp [go_sem, Addr.add]
set_option maxRecDepth 100000 in
set_option maxHeartbeats 2000000 in
theorem refRooms_any (v : Value) (f : Form) (h5 : f.parts.length ≤ 5) (w : World) (hv : FormV w v f) :
    Calls Tryz.prog 45 #[v] w fun e w' => ∃ u, e = .returned u ∧ SpansAt w' u (roomsM f.parts) ∧ Ext w w' := by
  obtain ⟨pv, rfl, hns, hp⟩ := hv
  obtain ⟨pa, pc, rfl, hpc, hpm⟩ := hp.shape
  obtain ⟨i0, hi, hz0, hz1, hz2⟩ := info_parts infoSpan
  have q1 : (w.alloc (.cells #[.string f.name, .slice pa f.parts.length pc] 44)).cell? ⟨w.heap.size, 1, none⟩ = some (.slice pa f.parts.length pc) := by simp [go_sem]
  obtain ⟨W, hW⟩ : ∃ W, W = w.alloc (.cells #[.string f.name, .slice pa f.parts.length pc] 44) := ⟨_, rfl⟩
  have xW : Ext w W := by rw [hW]; exact ext_alloc _ _
  have zW : W.heap.size = w.heap.size + 1 := by rw [hW]; simp
  rw [← hW] at q1
  have HW := Lib.hid hW
  have hpW := hp.ext xW
  clear hW
  go_enter Tryz.func45, Tryz.ntmps45
  go_wp2_with fail
  rw [← HW.out]
  clear HW
  go_loopw [3, 4] (fun u i wr => ∃ k : Nat, k ≤ f.parts.length ∧ i = .int .i64 k ∧ Ext W wr ∧ RowU W.heap.size (roomsM (f.parts.take k)) u wr) (fun _ i _ => f.parts.length - (intOf i).toNat)
  case atStart => exact ⟨0, Nat.zero_le _, rfl, Ext.refl _, RowU.nil⟩
  case round =>
    obtain ⟨k, hk, rfl, hxr, hown⟩ := hrel
    have r1 := hxr.cell q1
    have zr := cell_lt r1
    have hszr := hxr.size
    by_cases hlt : k < f.parts.length
    · have k1 : (k : Int) < (f.parts.length : Int) := by omega
      obtain ⟨b, o, rfl, ⟨u, p0, hs⟩, p1, p2, i1, i2⟩ := (hpW.ext hxr).get hlt
      obtain ⟨ua, uc, rfl, -⟩ := hs.shape
      have hno := rooms_no f.parts k hlt
      have hyes := rooms_yes f.parts k hlt
      have hlen : (roomsM (f.parts.take k)).length ≤ 5 := by
        have h1 : (roomsM (f.parts.take k)).length ≤ (f.parts.take k).length := List.length_filter_le _ _
        rw [List.length_take] at h1
        omega
      generalize f.parts[k] = p at *
      generalize roomsM (f.parts.take k) = R at *
      cases hr : roomyM p
      · have e0 : ((p.words.length : Int) == 0) = false := by
          unfold roomyM at hr
          simp at hr ⊢
          exact hr
        have Hst := Lib.hid (hno hr)
        clear hno hyes hr
        go_wp2_with fail
        refine (refRoomy_any ua p.words.length uc p.lo p.hi _).mono ?_
        rintro e w2 ⟨rfl, hx2⟩
        rw [e0]
        have own2 := RowU.ext hown hx2
        have x2 := hxr.trans hx2
        clear hown e0
        go_wp2
        go_roundw
        case rel => exact ⟨k + 1, by omega, by go_num, x2, by rw [Hst.out]; exact own2⟩
        case measure => simp [intOf]; omega
      · have e0 : ((p.words.length : Int) == 0) = true := by
          unfold roomyM at hr
          simp at hr ⊢
          exact hr
        have Hst := Lib.hid (hyes hr)
        clear hno hyes hr
        go_wp2_with fail
        refine (refRoomy_any ua p.words.length uc p.lo p.hi _).mono ?_
        rintro e w2 ⟨rfl, hx2⟩
        rw [e0]
        have own2 := RowU.ext hown hx2
        have x2 := hxr.trans hx2
        have r2 := hx2.cell r1
        have z2 := cell_lt r2
        replace p1 := hx2.cell p1
        replace p2 := hx2.cell p2
        replace p0 := hx2.cell p0
        have hsz2 := hx2.size
        have own3 : (w2.alloc (.cells #[.int .i64 p.lo, .int .i64 p.hi] 96)).ownsRow W.heap.size 96 2 u3 R.length (cellsU R) := RowU.ext own2 (ext_alloc _ _)
        have hownlt := fun k hk => (World.ownsRow.lt own3 k hk).1
        clear hown e0 own2
        go_wp2_with ((at_builtin; go_loud (refine wpList_append_own _ rfl _ _ 101 rfl W.heap.size 96 i0 (.agg #[.int .i64 0, .int .i64 0]) 2 16 Tryz.underlying101 hi hz0 hz1 hz2 rfl (by decide) _ _ _ rfl own3 ⟨w2.heap.size, 0, none⟩ 1 1 [.int .i64 p.lo, .int .i64 p.hi] rfl rfl (cell_two_span _ _ _ _) (by simp [Value.oneCell']) (by unfold maxLen; omega) (by omega) (by simp; omega) ?_; intro v' w4 hown' hgrow _)))
        have hx4 : Ext W w4 := Ext.grown (x2.alloc _) hgrow hownlt
        go_roundw
        case rel => exact ⟨k + 1, by omega, by go_num, hx4, by rw [Hst.out]; unfold RowU; rw [cellsU_app, List.length_append]; exact hown'⟩
        case measure => simp [intOf]; omega
    · obtain rfl : k = f.parts.length := by omega
      rw [List.take_length] at hown
      have hat := RowU.at_ hown (fun p hp => by
        obtain ⟨i, hi', rfl⟩ := List.getElem_of_mem (List.mem_filter.1 hp).1
        obtain ⟨_, _, -, -, -, -, i1, i2⟩ := hpW.get hi'
        exact ⟨i1, i2⟩)
      obtain ⟨oa, oc, rfl, -⟩ := hat.shape
      clear hown
      go_wp2
      go_ret
      exact ⟨_, rfl, hat, xW.trans hxr⟩
/-- what is left of the fills behind the first k parts -/
theorem built_left (ps : List Part) (fs : List (List ByteArray)) : ∀ k, k ≤ ps.length → (builtTo ps fs k).2 = fs.drop (roomsM (ps.take k)).length
  | 0, _ => rfl
  | k + 1, hk => by
    have ih := built_left ps fs k (by omega)
    have hc := rooms_count ps k (by omega)
    have hg : ps.getD k ⟨[], 0, 0⟩ = ps[k] := by simp [show k < ps.length from by omega]
    rw [builtTo, stepB, hg, hc]
    cases roomyM ps[k]
    · simp [ih]
    · simp only [if_true]
      rw [ih, List.tail_drop]
end Go.Proofs.YtnfbhicoknpojaaGreat

namespace Go.Proofs.YtnfbhicoknpojaaGreat
set_option linter.unusedSimpArgs false
set_option linter.unusedVariables false
open Go.RowKit
set_option linter.unusedVariables false

/-- a slice of these values -/
def ValsAt (w : World) (u : Value) (vs : List Value) : Prop := ∃ a c, u = .slice a vs.length c ∧ vs.length ≤ c ∧ c ≤ 9223372036854775807 ∧ ∀ i (h : i < vs.length), ∃ b o, a = some ⟨b, o, none⟩ ∧ w.cell? ⟨b, o + i, none⟩ = some vs[i]
theorem ValsAt.ext {w w' : World} {u : Value} {vs : List Value} (h : ValsAt w u vs) (hx : Ext w w') : ValsAt w' u vs := by
  obtain ⟨a, c, e, h1, h2, h3⟩ := h
  exact ⟨a, c, e, h1, h2, fun i hi => by obtain ⟨b, o, e2, r⟩ := h3 i hi; exact ⟨b, o, e2, hx.cell r⟩⟩
theorem ValsAt.cells' {w w' : World} {pb po n c : Nat} {vs : List Value} (h : ValsAt w (.slice (some ⟨pb, po, none⟩) n c) vs) (hx : Ext w w') : ∀ j u, vs[j]? = some u → w'.cell? ((⟨pb, po, none⟩ : Addr).add j) = some u := by
  intro j u hj
  obtain ⟨a, c', e, h1, h2, h3⟩ := h
  have hjl : j < vs.length := by
    rcases Nat.lt_or_ge j vs.length with h | h
    · exact h
    · rw [List.getElem?_eq_none h] at hj; cases hj
  obtain ⟨b, o, e2, r⟩ := h3 j hjl
  rw [List.getElem?_eq_getElem hjl] at hj
  obtain rfl := Option.some.inj hj
  obtain ⟨rfl, -, -⟩ := Value.slice.inj e
  obtain ⟨rfl, rfl, -⟩ := Addr.mk.inj (Option.some.inj e2)
  rw [show (⟨pb, po, none⟩ : Addr).add j = ⟨pb, po + j, none⟩ by unfold Addr.add; split <;> simp_all]
  exact hx.cell r
theorem OwnR.vals {base : Nat} {vs : List Value} {u : Value} {w : World} (h : OwnR base 48 1 vs.length vs u w) : ValsAt w u vs := by
  have hcells := fun g hg => World.ownsRow.cells (g := g) h hg
  rcases h.2 with ⟨rfl, hn⟩ | ⟨g, cap, cur, rfl, hb, hg, hnc, hcm, hcs, htake⟩
  · exact ⟨none, 0, by rw [hn], by omega, by decide, fun i hi => by omega⟩
  · refine ⟨_, _, rfl, hnc, by simpa [maxLen] using hcm, fun i hi => ⟨g, 0, rfl, ?_⟩⟩
    have := hcells g rfl i vs[i] (List.getElem?_eq_getElem hi)
    rw [show (⟨g, 0, none⟩ : Addr).add i = ⟨g, 0 + i, none⟩ by unfold Addr.add; split <;> simp_all] at this
    exact this
theorem fills_vals {w : World} {u : Value} {fl : List (List ByteArray)} (h : FillsAt w u fl) : ∃ vs : List Value, ValsAt w u vs ∧ vs.length = fl.length ∧ (∀ v ∈ vs, v.oneCell' = true) ∧ ∀ i (h1 : i < vs.length) (h2 : i < fl.length), StrsAt w vs[i] fl[i] := by
  obtain ⟨a, c, rfl, h1, h2⟩ := h.shape
  have hex : ∀ i : Fin fl.length, ∃ v, (∃ b o, a = some ⟨b, o, none⟩ ∧ w.cell? ⟨b, o + i.1, none⟩ = some v) ∧ StrsAt w v fl[i.1] := fun i => by
    obtain ⟨b, o, e, v, r1, r2⟩ := SliceAt.get h i.2
    exact ⟨v, ⟨b, o, e, by simpa using r1⟩, r2⟩
  obtain ⟨f, hf⟩ := Classical.axiomOfChoice hex
  refine ⟨List.ofFn f, ⟨a, c, by rw [List.length_ofFn], by rw [List.length_ofFn]; exact h1, h2, fun i hi => ?_⟩, List.length_ofFn, fun v hv => ?_, fun i h1 h2 => ?_⟩
  · rw [List.length_ofFn] at hi
    obtain ⟨b, o, e, r⟩ := (hf ⟨i, hi⟩).1
    exact ⟨b, o, e, by rw [List.getElem_ofFn]; exact r⟩
  · obtain ⟨i, rfl⟩ := List.mem_ofFn.1 hv
    obtain ⟨a, c, e, -⟩ := (hf i).2.shape
    rw [e]; rfl
  · rw [List.getElem_ofFn]
    exact (hf ⟨i, h2⟩).2
theorem vals_fills {w : World} {u : Value} {vs : List Value} {fl : List (List ByteArray)} (h : ValsAt w u vs) (hn : vs.length = fl.length) (hs : ∀ i (h1 : i < vs.length) (h2 : i < fl.length), StrsAt w vs[i] fl[i]) : FillsAt w u fl := by
  obtain ⟨a, c, rfl, h1, h2, h3⟩ := h
  refine ⟨a, c, by rw [hn], by omega, h2, fun i hi => ?_⟩
  obtain ⟨b, o, e, r⟩ := h3 i (by omega)
  exact ⟨b, o, e, vs[i]'(by omega), by simpa using r, hs i (by omega) hi⟩
/-- fills that are right for these rooms -/
structure PutOk (rooms : List Part) (fs : List (List ByteArray)) : Prop where
  le : fs.length ≤ rooms.length
  at_ : ∀ i (h : i < fs.length) (h2 : i < rooms.length), rooms[i].lo ≤ fs[i].length ∧ (fs[i].length : Int) ≤ rooms[i].hi
  w : ∀ l ∈ fs, ∀ s ∈ l, wordM s = true
theorem PutOk.snoc {rooms : List Part} {fs : List (List ByteArray)} {l : List ByteArray} (h : PutOk rooms fs) (hl : fs.length < rooms.length) (h1 : rooms[fs.length].lo ≤ l.length ∧ (l.length : Int) ≤ rooms[fs.length].hi) (hw : ∀ s ∈ l, wordM s = true) : PutOk rooms (fs ++ [l]) := by
  refine ⟨by simp; omega, fun i hi h2 => ?_, fun x hx => ?_⟩
  · by_cases he : i < fs.length
    · rw [List.getElem_append_left he]
      exact h.at_ i he h2
    · have : i = fs.length := by simp at hi; omega
      subst this
      simpa using h1
  · rcases List.mem_append.1 hx with hx | hx
    · exact h.w x hx
    · rw [List.mem_singleton] at hx; subst hx; exact hw
set_option maxRecDepth 100000 in
set_option maxHeartbeats 8000000 in
theorem any_any (fv xv : Value) (f : Form) (x : List Int) (w : World) (hv : ValidForm f) (hf : FormV w fv f) (hx : BytesAt w xv x) :
    Calls Tryz.prog 9 #[fv, xv] w fun e w' => ∃ u fs, e = .returned u ∧ FillsAt w' u fs ∧ PutOk (roomsM f.parts) fs ∧ fs.length = (roomsM f.parts).length ∧ Ext w w' := by
  obtain ⟨pv, rfl, hns, hp⟩ := hf
  obtain ⟨pa, pc, rfl, -⟩ := hp.shape
  obtain ⟨xa, xc, rfl, hxc, hxm⟩ := hx.shape
  obtain ⟨i0, hi, hz0, hz1, hz2⟩ := info_parts infoString
  obtain ⟨j0, hj, hy0, hy1, hy2⟩ := info_parts infoStrs
  have h5 := hv.n
  have hrs : (roomsM f.parts).length ≤ 5 := Nat.le_trans (List.length_filter_le _ _) h5
  have hrv : ∀ p ∈ roomsM f.parts, 0 ≤ p.lo ∧ p.lo ≤ p.hi ∧ 1 ≤ p.hi ∧ p.hi ≤ 3 := fun p hp => by
    have hm := List.mem_filter.1 hp
    exact (hv.parts p hm.1).room hm.2
  have Hrv := Lib.hid hrv
  clear hrv hv
  go_enter Tryz.func9, Tryz.ntmps9
  go_wp2_with fail
  refine (refRooms_any _ f h5 _ ⟨_, rfl, hns, hp.ext (by first | (with_reducible exact Ext.refl _) | (with_reducible assumption) | (show Below _ _ _; go_grown; done))⟩).mono ?_
  rintro e w1 ⟨ru, rfl, hru, hx1⟩
  have x1 : Ext w w1 := Ext.trans (by first | (with_reducible exact Ext.refl _) | (with_reducible assumption) | (show Below _ _ _; go_grown; done)) hx1
  obtain ⟨ra, rc, rfl, hrc, hrm⟩ := hru.shape
  replace hx := hx.ext x1
  obtain ⟨rooms, hrooms⟩ : ∃ rooms, rooms = roomsM f.parts := ⟨_, rfl⟩
  rw [← hrooms] at hru hrc hrs Hrv ⊢
  have Hrooms := Lib.hid hrooms
  clear hrooms
  clear hx1 hp
  go_wp2_with fail
  go_loopw [6, 7, 8] (fun ov av iv wr => ∃ (at_ : Nat) (fl : List (List ByteArray)), fl.length ≤ rooms.length ∧ at_ ≤ 4 * fl.length ∧ iv = .int .i64 fl.length ∧ av = .int .i64 at_ ∧ Ext w1 wr ∧ FillsAt wr ov fl ∧ (fl.length = 0 → ov = .slice none 0 0) ∧ PutOk rooms fl) (fun _ _ i _ => rooms.length - (intOf i).toNat)
  case atStart => exact ⟨0, [], by simp, by simp, rfl, rfl, Ext.refl _, SliceAt.nil, fun _ => rfl, ⟨by simp, by simp, by simp⟩⟩
  case round =>
    obtain ⟨at_, fl, hk, hat, rfl, rfl, hxr, hfl, hf0, hok⟩ := hrel
    obtain ⟨k, hkl⟩ : ∃ k, k = fl.length := ⟨_, rfl⟩
    rw [← hkl] at hk hat ⊢
    have Hkl := Lib.hid hkl
    have Hok := Lib.hid hok
    have Hf0 := Lib.hid hf0
    have Hfl := Lib.hid hfl
    clear hkl hok hf0 hfl
    by_cases hlt : k < rooms.length
    · have k1 : (k : Int) < (rooms.length : Int) := by omega
      obtain ⟨rb, ro, rfl, c0, c1, -⟩ := (hru.ext hxr).get hlt
      obtain ⟨g1, g2, g3, g4⟩ := Hrv.out _ (List.getElem_mem hlt)
      obtain ⟨a, ha⟩ : ∃ a : Nat, rooms[k].lo = a := ⟨rooms[k].lo.toNat, by omega⟩
      obtain ⟨b, hb⟩ : ∃ b : Nat, rooms[k].hi = b := ⟨rooms[k].hi.toNat, by omega⟩
      have Ha := Lib.hid ha
      have Hb := Lib.hid hb
      rw [ha] at c0 g1 g2
      rw [hb] at c1 g2 g3 g4
      have hx2 := hx.ext hxr
      have t1 := turnM_in hx2 at_
      have ht1 := fun w (h : Ext wr w) => lawTurn_any _ x at_ w (by omega) (hx2.ext h)
      obtain ⟨n, hn⟩ : ∃ n : Nat, turnM x at_ = n := ⟨(turnM x at_).toNat, by omega⟩
      rw [hn] at ht1
      have hab : a ≤ b := by omega
      have hb3 : b ≤ 3 := by omega
      have mq := mod_nat n (b - a + 1)
      have q1 : n % (b - a + 1) < b - a + 1 := Nat.mod_lt _ (by omega)
      generalize n % (b - a + 1) = q at *
      have ed : ((b - a + 1 : Nat) : Int) = (b : Int) - a + 1 := by omega
      rw [ed] at mq
      have w1' : IntKind.i64.wrap ((b : Int) - a) = (b : Int) - a := IntWalk.i64_in _ (by omega)
      have w2' : IntKind.i64.wrap ((b : Int) - a + 1) = (b : Int) - a + 1 := IntWalk.i64_in _ (by omega)
      have w3' : (((b : Int) - a + 1) == 0) = false := by simp; omega
      have w3'' : ¬ ((b : Int) - a + 1 = 0) := by omega
      have wq : IntKind.i64.wrap (q : Int) = q := IntWalk.i64_in _ (by omega)
      have wm : IntKind.i64.wrap ((a : Int) + q) = (a : Int) + q := IntWalk.i64_in _ (by omega)
      have wa : IntKind.i64.wrap ((at_ : Int) + 1) = (at_ : Int) + 1 := IntWalk.i64_in _ (by omega)
      clear t1 hn ha hb ed g1 g2 g3 g4
      go_wp2_with fail
      apply Facts.wp_region [.val _, .val _, .val _, .val _, .val _, .val _, .val _, .val (.int .i64 n), .val _, .val _, .val _, .val _, .val _, .val _, .val _, .val _, .val _, .val _, .val _, .val _, .val _, .val _, .val _] (by kernel_rfl) (by kernel_rfl) trivial ?main
      case main =>
        iterate 7 (refine ⟨fun w1 hx hh => ?_, ?_⟩; focus (clear hh; have e0 := hx.cell c0; have e1 := hx.cell c1; go_simp; first | exact ⟨Ext.refl _, rfl⟩ | exact Ext.refl _))
        refine ⟨fun w1 hx hh => ?_, ?_⟩
        · clear hh
          go_simp
          refine (ht1 _ hx).mono ?_
          rintro e w' ⟨rfl, rfl⟩
          exact ⟨_, rfl, Ext.refl _, rfl⟩
        iterate 15 (refine ⟨fun w1 hx hh => ?_, ?_⟩; focus (clear hh; have e0 := hx.cell c0; have e1 := hx.cell c1; go_simp; first | exact ⟨Ext.refl _, rfl⟩ | exact Ext.refl _))
        intro w2 hx hh
        clear hh
        go_simp
        have Hx := Lib.hid hx
        have hxR : Ext w1 w2 := hxr.trans hx
        have hx3 := hx2.ext hx
        clear hx ht1 c0 c1 hx2 mq w1' w2' w3' w3'' wq
        obtain ⟨mn, hmn⟩ : ∃ mn, mn = a + q := ⟨_, rfl⟩
        have hm1 : (a : Int) + q = (mn : Int) := by omega
        rw [hm1]
        have hmb : mn ≤ b := by omega
        have hma : a ≤ mn := by omega
        clear hm1 hmn wm q1
        go_wp2_with fail
        go_loopw [7, 10, 11] (fun av lv jv wi => ∃ (j : Nat) (ws : List ByteArray), j ≤ mn ∧ ws.length = j ∧ av = .int .i64 ((at_ + 1 + j : Nat) : Int) ∧ jv = .int .i64 j ∧ Ext w2 wi ∧ RowW w2.heap.size ws lv wi ∧ ∀ s ∈ ws, wordM s = true) (fun _ _ j _ => mn - (intOf j).toNat)
        case atStart => exact ⟨0, [], Nat.zero_le _, rfl, by go_num, rfl, Ext.refl _, RowW.nil, by simp⟩
        case round =>
          obtain ⟨j, ws, hj1, hj2, rfl, rfl, hxi, hown, hws⟩ := hrel
          by_cases hjl : j < mn
          · have l1 : (j : Int) < (mn : Int) := by omega
            obtain ⟨la', lc', rfl⟩ := hown.shape
            rw [hj2]
            have hx4 := hx3.ext hxi
            obtain ⟨A, hA⟩ : ∃ A, A = at_ + 1 + j := ⟨_, rfl⟩
            rw [← hA]
            have t1 := turnM_in hx4 A
            have ht2 := fun w (h : Ext wr w) => lawTurn_any _ x A w (by omega) (hx4.ext h)
            obtain ⟨m, hm⟩ : ∃ n : Nat, turnM x A = n := ⟨(turnM x A).toNat, by omega⟩
            rw [hm] at ht2
            have m8 := mod_nat m 8
            have n8 : m % 8 < 8 := Nat.mod_lt _ (by omega)
            generalize m % 8 = sd at *
            have ws' : IntKind.i64.wrap (sd : Int) = sd := IntWalk.i64_in _ (by omega)
            have s8 : (sd : Int) < 8 := by omega
            simp only [Int.cast_ofNat_Int] at m8
            have wA : IntKind.i64.wrap ((A : Int) + 1) = (A : Int) + 1 := IntWalk.i64_in _ (by omega)
            have HA := Lib.hid hA
            clear t1 hm hA
            go_wp2_with fail
            refine (said_any _).mono ?_
            rintro e w4 ⟨⟨B, rfl, hS1⟩, x4⟩
            go_wp2_with fail
            refine (ht2 _ x4).mono ?_
            rintro e w' ⟨rfl, rfl⟩
            go_wp2_with fail
            refine (said_any _).mono ?_
            rintro e w5 ⟨⟨B2, rfl, -⟩, x5⟩
            obtain ⟨b', o', e', s0, -⟩ := (hS1.ext x5).get (said_at sd n8)
            obtain ⟨rfl, rfl⟩ : B = b' ∧ 0 = o' := by simpa using e'
            have hwd := said_words saidL[sd] (List.getElem_mem (said_at sd n8))
            generalize saidL[sd] = wd at *
            have x5' : Ext wr w5 := x4.trans x5
            have hown5 := RowW.ext hown x5'
            have xw5 := hxi.trans x5'
            simp only [Nat.mul_one, Nat.zero_add] at s0
            have zB := cell_lt s0
            have hs5 := xw5.size
            have hownlt := fun k hk => World.ownsRow.lt hown5 k hk
            have wd8 := word_size hwd
            have hone : StrsAt (w5.alloc (.cells #[.string wd] 9)) (.slice (some ⟨w5.heap.size, 0, none⟩) 1 1) [wd] := StrsAt.oneAt (s := wd) (t := 9) rfl (by omega)
            have own1 := RowW.ext hown5 (ext_alloc w5 (.cells #[.string wd] 9))
            clear ht2 hown hS1 x4 x5 e' hown5 hx4
            go_wp2_with (at_builtin; go_loud (refine wpList_append_strs rfl _ _ 48 rfl w2.heap.size i0 Tryz.underlying48 hi hz0 hz1 hz2 (.slice la' ws.length lc') _ (by rw [hj2]; rfl) own1 (.slice (some ⟨w5.heap.size, 0, none⟩) 1 1) rfl [wd] hone (by simp only [List.length_cons, List.length_nil]; omega) (by simp; omega) ?_; intro v' w6 hown' hgrow _))
            go_roundw
            case rel => exact ⟨j + 1, ws ++ [wd], by omega, by simp [hj2], by rw [HA.out]; go_num, by go_num, Ext.grown (xw5.trans (ext_alloc _ _)) hgrow (fun k hk => (hownlt k hk).1), hown', fun s hs => by
              rcases List.mem_append.1 hs with h | h
              · exact hws s h
              · rw [List.mem_singleton] at h; subst h; exact hwd⟩
            case measure => simp [intOf]; omega
          · have l1 : ¬ (j : Int) < (mn : Int) := by omega
            obtain rfl : j = mn := by omega
            have hl := hown.at_ (fun s hs => by have := word_size (hws s hs); omega)
            obtain ⟨la', lc', rfl, -⟩ := hl.shape
            have xwr := (Hx.out.trans hxi)
            obtain ⟨vs, hvs, hvn, hv1, hve⟩ := fills_vals (FillsAt.ext Hfl.out xwr)
            have hfin : ∀ (u : Value) (wc : World), OwnR wr.heap.size 48 1 (vs ++ [Value.slice la' ws.length lc']).length (vs ++ [Value.slice la' ws.length lc']) u wc → Ext wr wc → FillsAt wc u (fl ++ [ws]) ∧ ((fl ++ [ws]).length = 0 → u = .slice none 0 0) ∧ PutOk rooms (fl ++ [ws]) := fun u wc ho hxc => by
              refine ⟨vals_fills ho.vals (by simp [hvn]) (fun i h1 h2 => ?_), fun h => by simp at h, Hok.out.snoc (by have := Hkl.out; omega) ?_ hws⟩
              · by_cases hi : i < vs.length
                · rw [List.getElem_append_left hi, List.getElem_append_left (by omega)]
                  exact (hve i hi (by omega)).ext hxc
                · have e1 : i = vs.length := by simp at h1; omega
                  subst e1
                  simp only [List.getElem_append_right (Nat.le_refl _), Nat.sub_self, List.getElem_cons_zero]
                  have : (fl ++ [ws])[vs.length]'h2 = ws := by simp [hvn]
                  rw [this]
                  exact hl.ext hxc
              · have := Hkl.out
                subst this
                rw [Ha.out, Hb.out]
                omega
            have Hfin := Lib.hid hfin
            have hsl : (Value.slice la' ws.length lc').oneCell' = true := rfl
            rw [hj2] at Hfin ⊢
            have row0 : (wr.alloc (.cells #[] 48)).ownsRow wr.heap.size 48 1 (.slice (some ⟨wr.heap.size, 0, none⟩) 0 0) 0 [] := World.ownsRow_made wr #[] 0 (Nat.le_refl _) (by unfold maxLen; omega) rfl
            have hlen1 := Hkl.out
            have Hlen := Lib.hid hlen1
            have tok1 : True := trivial
            have hfl8 : fl.length + 1 ≤ 5 := by omega
            have wk1 : IntKind.i64.wrap ((k : Int) + 1) = (k : Int) + 1 := IntWalk.i64_in _ (by omega)
            have kl : ((k : Int) + 1) = (((fl ++ [ws]).length : Nat) : Int) := by rw [List.length_append, ← hlen1]; simp
            have Kl := Lib.hid kl
            have hat4 : at_ + 1 + j ≤ 4 * (fl ++ [ws]).length := by rw [List.length_append, ← hlen1]; simp; omega
            have Hat4 := Lib.hid hat4
            have Hn := Lib.hid hvn
            have Hv1 := Lib.hid hv1
            clear kl hat4 hvn hv1 hve hfin hl hown hlen1
            by_cases h0 : k = 0
            · have hu : u6 = .slice none 0 0 := Hf0.out (by have := Hlen.out; omega)
              have hvs0 : vs = [] := List.eq_nil_of_length_eq_zero (by have := Hlen.out; have := Hn.out; omega)
              subst hvs0 hu
              have row1 : ((wr.alloc (.cells #[] 48)).alloc (.cells #[Value.slice la' j lc'] 48)).ownsRow wr.heap.size 48 1 (.slice (some ⟨wr.heap.size, 0, none⟩) 0 0) 0 [] := row0.alloc _
              clear h0
              go_wp2_with (at_builtin; first
                | (have _t := tok1; refine wpList_append_own_none rfl _ _ 40 rfl wr.heap.size 48 j0 1 Tryz.underlying40 hj (.slice (some ⟨wr.heap.size, 0, none⟩) 0 0) 0 [] rfl row0 rfl ?_; clear tok1)
                | (go_loud (refine wpList_append_own_at _ rfl _ _ 40 rfl wr.heap.size 48 j0 (.slice none 0 0) 1 24 Tryz.underlying40 hj hy0 hy1 hy2 rfl (by decide) (.slice (some ⟨wr.heap.size, 0, none⟩) 0 0) 0 [] rfl row1 ⟨wr.heap.size + 1, 0, none⟩ 1 1 [Value.slice la' j lc'] rfl rfl (cell_one_at (by simp [go_sem])) (by simp [Value.oneCell']) (by unfold maxLen; omega) (by omega) (by simp; omega) ?_; intro v' w6 hown' hgrow _ _)))
              have hxc : Ext wr w6 := Ext.grown (((Ext.refl wr).alloc _).alloc _) hgrow (fun k hk => by cases hk; exact Nat.le_refl _)
              obtain ⟨f1, f2, f3⟩ := Hfin.out v' w6 hown' hxc
              go_roundw
              case rel => exact ⟨at_ + 1 + j, fl ++ [ws], f3.le, Hat4.out, by rw [Kl.out], rfl, hxR.trans (hxi.trans hxc), f1, f2, f3⟩
              case measure => simp [intOf]; omega
            · have hfw := FillsAt.ext Hfl.out xwr
              obtain ⟨ua, uc, rfl, -⟩ := hfw.shape
              have hne : 0 < fl.length := by have := Hlen.out; omega
              obtain ⟨pb, po, rfl, -⟩ := SliceAt.get hfw hne
              have hcv := hvs.cells' (ext_alloc wr (.cells #[] 48))
              have hm5 : fl.length ≤ 5 := by omega
              have Hv2 : ∀ v ∈ vs, v.oneCell' = true := Hv1.out
              have hn2 := Hn.out
              clear h0 hfw hne
              go_wp2_with (at_builtin; first
                | (have _t := tok1; go_loud (refine wpList_append_own_at _ rfl _ _ 40 rfl wr.heap.size 48 j0 (.slice none 0 0) 1 24 Tryz.underlying40 hj hy0 hy1 hy2 rfl (by decide) (.slice (some ⟨wr.heap.size, 0, none⟩) 0 0) 0 [] rfl row0 ⟨pb, po, none⟩ fl.length uc vs rfl (by omega) hcv Hv2 (by unfold maxLen; omega) (by omega) (by simp) ?_; intro v1 w6 hown1 hgrow1 _ _); have row1 := World.ownsRow.alloc hown1 (.cells #[Value.slice la' j lc'] 48); clear tok1)
                | (go_loud (refine wpList_append_own_at _ rfl _ _ 40 rfl wr.heap.size 48 j0 (.slice none 0 0) 1 24 Tryz.underlying40 hj hy0 hy1 hy2 rfl (by decide) v1 (0 + fl.length) ([] ++ vs) rfl row1 ⟨w6.heap.size, 0, none⟩ 1 1 [Value.slice la' j lc'] rfl rfl (cell_one_at (by simp [go_sem])) (by simp [Value.oneCell']) (by unfold maxLen; omega) (by omega) (by have := hgrow1.size; simp at this ⊢; omega) ?_; intro v' w7 hown' hgrow2 _ _)))
              have hx6 : Ext wr w6 := Ext.grown ((Ext.refl wr).alloc _) hgrow1 (fun k hk => by cases hk; exact Nat.le_refl _)
              have hxc : Ext wr w7 := Ext.grown (hx6.alloc _) hgrow2 (fun k hk => (World.ownsRow.lt hown1 k hk).1)
              obtain ⟨f1, f2, f3⟩ := Hfin.out v' w7 (by rw [List.length_append, hn2]; rw [List.nil_append, Nat.zero_add] at hown'; exact hown') hxc
              go_roundw
              case rel => exact ⟨at_ + 1 + j, fl ++ [ws], f3.le, Hat4.out, by rw [Kl.out], rfl, hxR.trans (hxi.trans hxc), f1, f2, f3⟩
              case measure => simp [intOf]; omega
    · obtain rfl : k = rooms.length := by omega
      have hk0 := Hkl.out
      have hfl := Hfl.out
      obtain ⟨oa, oc, rfl, -⟩ := hfl.shape
      go_wp2
      go_ret
      exact ⟨_, fl, rfl, hfl, by rw [← Hrooms.out]; exact Hok.out, by rw [← Hrooms.out]; exact hk0.symm, x1.trans hxr⟩
end Go.Proofs.YtnfbhicoknpojaaGreat

namespace Go.Proofs.YtnfbhicoknpojaaGreat
set_option linter.unusedSimpArgs false
set_option linter.unusedVariables false
open Go.RowKit
set_option linter.unusedVariables false

theorem same_step {α : Type} {l m : List α} {k : Nat} (h1 : k < l.length) (h2 : k < m.length) : (l.take (k + 1) = m.take (k + 1)) ↔ (l.take k = m.take k ∧ l[k] = m[k]) := by
  rw [List.take_succ_eq_append_getElem h1, List.take_succ_eq_append_getElem h2]
  constructor
  · intro h
    have := List.append_inj h (by simp; omega)
    exact ⟨this.1, by simpa using this.2⟩
  · rintro ⟨h, e⟩; rw [h, e]
theorem not_same {α : Type} {l m : List α} {k : Nat} (h1 : k < l.length) (h2 : k < m.length) (h : l[k] ≠ m[k]) : l ≠ m := fun e => by subst e; exact h rfl
theorem all_same {α : Type} {l m : List α} (hn : l.length = m.length) {k : Nat} (hk : l.length ≤ k) (h : l.take k = m.take k) : l = m := by
  rwa [List.take_of_length_le hk, List.take_of_length_le (by omega)] at h

set_option maxHeartbeats 1000000 in
set_option maxRecDepth 100000 in
theorem same_any (v u : Value) (l m : List ByteArray) (w : World) (hl : StrsAt w v l) (hm : StrsAt w u m) :
    Calls Tryz.prog 16 #[v, u] w fun r w' => r = .returned (.bool (decide (l = m))) ∧ Ext w w' := by
  obtain ⟨a, cap, rfl, hlc, hcm⟩ := hl.shape
  obtain ⟨a', cap', rfl, hlc', hcm'⟩ := hm.shape
  by_cases hn : l.length = m.length
  · have hn' : ((l.length : Int) != (m.length : Int)) = false := by simp; omega
    have Hn := Lib.hid hn
    clear hn
    go_enter Tryz.func16, Tryz.ntmps16
    go_wp2
    go_loopw [5] (fun i wr => ∃ k : Nat, k ≤ l.length ∧ i = .int .i64 k ∧ Ext w wr ∧ l.take k = m.take k) (fun i _ => l.length - (intOf i).toNat)
    case atStart => exact ⟨0, Nat.zero_le _, rfl, Ext.refl _, rfl⟩
    case round =>
      obtain ⟨k, hk, rfl, hx, hd⟩ := hrel
      have Hd := Lib.hid hd; clear hd
      by_cases h1 : k < l.length
      · have k1 : (k : Int) < (l.length : Int) := by omega
        have h2 : k < m.length := by have := Hn.out; omega
        have k2 : (k : Int) < (m.length : Int) := by omega
        obtain ⟨b, off, rfl, c0, -⟩ := (hl.ext hx).get h1
        obtain ⟨b', off', rfl, c1, -⟩ := (hm.ext hx).get h2
        have hst := same_step h1 h2
        have hno := not_same h1 h2
        generalize hx' : l[k] = x at *
        generalize hy : m[k] = y at *
        have Hst := Lib.hid hst
        have Hno := Lib.hid hno
        clear hx' hy hst hno
        simp only [Nat.mul_one] at c0 c1
        cases h0 : x.toList == y.toList
        · have H0 := Lib.hid h0
          have h0' : (x.toList != y.toList) = true := by simp [bne, h0]
          go_wp2_with fail
          apply Facts.wp_region [.val _, .val _, .val _, .val _, .val _, .val _, .val _, .val _, .val _] (by kernel_rfl) (by kernel_rfl) trivial ?main
          case main =>
            iterate 9 (refine ⟨fun w1 hx hh => ?_, ?_⟩; focus (clear hh; have e0 := hx.cell c0; have e1 := hx.cell c1; go_simp; first | exact ⟨Ext.refl _, rfl⟩ | exact Ext.refl _))
            intro w1 hx1 hh
            have hx3 := hx.trans hx1
            clear hh c0 c1
            go_simp
            go_wp2
            go_ret
            exact ⟨ret_bool (by rw [decide_eq_false (Hno.out (by have := H0.out; rw [beq_str] at this; simpa using this))]), hx3⟩
        · have H0 := Lib.hid h0
          have h0' : (x.toList != y.toList) = false := by simp [bne, h0]
          go_wp2_with fail
          apply Facts.wp_region [.val _, .val _, .val _, .val _, .val _, .val _, .val _, .val _, .val _] (by kernel_rfl) (by kernel_rfl) trivial ?main
          case main =>
            iterate 9 (refine ⟨fun w1 hx hh => ?_, ?_⟩; focus (clear hh; have e0 := hx.cell c0; have e1 := hx.cell c1; go_simp; first | exact ⟨Ext.refl _, rfl⟩ | exact Ext.refl _))
            intro w1 hx1 hh
            have hx3 := hx.trans hx1
            clear hh c0 c1
            go_simp
            go_wp2
            go_roundw
            case rel => exact ⟨k + 1, by omega, by go_num, hx3, Hst.out.2 ⟨Hd.out, by have := H0.out; rw [beq_str] at this; simpa using this⟩⟩
            case measure => simp [intOf]; omega
      · go_wp2
        go_ret
        exact ⟨ret_bool (by rw [decide_eq_true (all_same Hn.out (by omega) Hd.out)]), hx⟩
  · have hn' : ((l.length : Int) != (m.length : Int)) = true := by simp; omega
    have Hne : Hid (decide (l = m) = false) := Lib.hid (decide_eq_false fun e => hn (by rw [e]))
    clear hn
    go_enter Tryz.func16, Tryz.ntmps16
    go_wp2
    go_ret
    exact ⟨ret_bool Hne.out.symm, Ext.refl _⟩

set_option maxHeartbeats 1000000 in
set_option maxRecDepth 100000 in
theorem sames_any (v u : Value) (l m : List (List ByteArray)) (w : World) (hl : FillsAt w v l) (hm : FillsAt w u m) :
    Calls Tryz.prog 41 #[v, u] w fun r w' => r = .returned (.bool (decide (l = m))) ∧ Ext w w' := by
  obtain ⟨a, cap, rfl, hlc, hcm⟩ := hl.shape
  obtain ⟨a', cap', rfl, hlc', hcm'⟩ := hm.shape
  by_cases hn : l.length = m.length
  · have hn' : ((l.length : Int) != (m.length : Int)) = false := by simp; omega
    have Hn := Lib.hid hn
    clear hn
    go_enter Tryz.func41, Tryz.ntmps41
    go_wp2
    go_loopw [5] (fun i wr => ∃ k : Nat, k ≤ l.length ∧ i = .int .i64 k ∧ Ext w wr ∧ l.take k = m.take k) (fun i _ => l.length - (intOf i).toNat)
    case atStart => exact ⟨0, Nat.zero_le _, rfl, Ext.refl _, rfl⟩
    case round =>
      obtain ⟨k, hk, rfl, hx, hd⟩ := hrel
      have Hd := Lib.hid hd; clear hd
      by_cases h1 : k < l.length
      · have k1 : (k : Int) < (l.length : Int) := by omega
        have h2 : k < m.length := by have := Hn.out; omega
        have k2 : (k : Int) < (m.length : Int) := by omega
        obtain ⟨b, off, rfl, x, c0, hxs⟩ := (hl.ext hx).get h1
        obtain ⟨b', off', rfl, y, c1, hys⟩ := (hm.ext hx).get h2
        have hst := same_step h1 h2
        have hno := not_same h1 h2
        generalize hx' : l[k] = xl at *
        generalize hy : m[k] = yl at *
        have Hst := Lib.hid hst
        have Hno := Lib.hid hno
        have Hxs := Lib.hid hxs
        have Hys := Lib.hid hys
        clear hx' hy hst hno hxs hys
        simp only [Nat.mul_one] at c0 c1
        go_wp2_with fail
        apply Facts.wp_region [.val _, .val _, .val _, .val x, .val _, .val _, .val _, .val y, .val (.bool (decide (xl = yl))), .val _] (by kernel_rfl) (by kernel_rfl) trivial ?main
        case main =>
          iterate 8 (refine ⟨fun w1 hx hh => ?_, ?_⟩; focus (clear hh; have e0 := hx.cell c0; have e1 := hx.cell c1; go_simp; first | exact ⟨Ext.refl _, rfl⟩ | exact Ext.refl _))
          refine ⟨fun w1 hx hh => ?_, ?_⟩
          · clear hh
            go_simp
            refine (same_any x y xl yl w1 (Hxs.out.ext hx) (Hys.out.ext hx)).mono ?_
            rintro e w' ⟨rfl, hx2⟩
            exact ⟨_, rfl, hx2, rfl⟩
          iterate 1 (refine ⟨fun w1 hx hh => ?_, ?_⟩; focus (clear hh; skip; go_simp; first | exact ⟨Ext.refl _, rfl⟩ | exact Ext.refl _))
          intro w1 hx1 hh
          have hx3 := hx.trans hx1
          clear hh c0 c1
          by_cases h0 : xl = yl
          · have H0 := Lib.hid h0
            have h0' : decide (xl = yl) = true := decide_eq_true h0
            rw [h0']
            clear h0 h0'
            go_simp
            go_wp2
            go_roundw
            case rel => exact ⟨k + 1, by omega, by go_num, hx3, Hst.out.2 ⟨Hd.out, H0.out⟩⟩
            case measure => simp [intOf]; omega
          · have H0 := Lib.hid h0
            have h0' : decide (xl = yl) = false := decide_eq_false h0
            rw [h0']
            clear h0 h0'
            go_simp
            go_wp2
            go_ret
            exact ⟨ret_bool (by rw [decide_eq_false (Hno.out H0.out)]), hx3⟩
      · go_wp2
        go_ret
        exact ⟨ret_bool (by rw [decide_eq_true (all_same Hn.out (by omega) Hd.out)]), hx⟩
  · have hn' : ((l.length : Int) != (m.length : Int)) = true := by simp; omega
    have Hne : Hid (decide (l = m) = false) := Lib.hid (decide_eq_false fun e => hn (by rw [e]))
    clear hn
    go_enter Tryz.func41, Tryz.ntmps41
    go_wp2
    go_ret
    exact ⟨ret_bool Hne.out.symm, Ext.refl _⟩

def corrN (ms : List Mark) : Nat := (ms.filter fun m => m.kind != 0).length
theorem corrN_step (ms : List Mark) (k : Nat) (h : k < ms.length) : corrN (ms.take (k + 1)) = corrN (ms.take k) + if (ms[k].kind != 0) = true then 1 else 0 := by
  unfold corrN
  rw [List.take_succ_eq_append_getElem h, List.filter_append, List.length_append]
  cases h0 : ms[k].kind != 0 <;> simp [h0]
theorem corrN_le (ms : List Mark) (k : Nat) : corrN (ms.take k) ≤ k := by
  unfold corrN
  have h := List.length_filter_le (fun m : Mark => m.kind != 0) (ms.take k)
  rw [List.length_take] at h
  omega
end Go.Proofs.YtnfbhicoknpojaaGreat

namespace Go.Proofs.YtnfbhicoknpojaaGreat
set_option linter.unusedSimpArgs false
set_option linter.unusedVariables false
open Go.RowKit
set_option linter.unusedVariables false

instance : DecidableEq Mark := fun a b => decidable_of_iff (a.kind = b.kind ∧ a.word = b.word) ⟨fun h => by cases a; cases b; simp_all, fun h => by subst h; exact ⟨rfl, rfl⟩⟩
theorem mark_fields : ∃ f g, (Tryz.prog.fieldsOf 152).toList = [f, g] ∧ f.type = 3 ∧ f.offset = 0 ∧ g.type = 9 ∧ g.offset = 1 ∧ f.name = "Kind" ∧ g.name = "Word" := by
  have hf : ((Tryz.prog.fieldsOf 152).toList.map fun f => (f.name, f.type, f.offset)) = [("Kind", 3, 0), ("Word", 9, 1)] := by kernel_rfl
  generalize (Tryz.prog.fieldsOf 152).toList = fs at *
  obtain ⟨f, g, rfl⟩ : ∃ f g, fs = [f, g] := by
    rcases fs with _ | ⟨f, _ | ⟨g, _ | ⟨h, r⟩⟩⟩
    · simp at hf
    · simp at hf
    · exact ⟨f, g, rfl⟩
    · simp at hf
  simp only [List.map_cons, List.map_nil, List.cons.injEq, Prod.mk.injEq, and_true] at hf
  obtain ⟨⟨h1, h2, h3⟩, h4, h5, h6⟩ := hf
  exact ⟨f, g, rfl, h2, h3, h5, h6, h1, h4⟩
theorem equal_mark (k m : Mark) (w : World) : (Op.equal 152 (.agg #[.int .i64 k.kind, .string k.word]) (.agg #[.int .i64 m.kind, .string m.word])).run Tryz.prog w = .ok (decide (k = m)) w := by
  have hop : ∀ x y : Value, Op.equal 152 x y = Op.equalIn Op.maxDepth 152 x y := fun _ _ => rfl
  obtain ⟨m0, hd⟩ : ∃ m0, Op.maxDepth = m0 + 2 := ⟨9998, by decide⟩
  have ha : ∀ w, (isAgg 3).run Tryz.prog w = .ok false w := fun _ => by kernel_rfl
  have hb : ∀ w, (isAgg 9).run Tryz.prog w = .ok false w := fun _ => by kernel_rfl
  rw [hop, hd]
  rw [run_equalIn_struct _ _ _ _ _ (by kernel_rfl) (by kernel_rfl)]
  obtain ⟨f, g, hfs, h2, h3, h5, h6, n1, n2⟩ := mark_fields
  rw [hfs]
  obtain ⟨a, b⟩ := k
  obtain ⟨c, d⟩ := m
  simp [Op.eqFields, h2, h3, h5, h6, n1, n2, part, ha, hb, go_sem]
  have hbq : (b.toList = d.toList) ↔ b = d := ⟨str_inj, fun e => by rw [e]⟩
  by_cases e1 : a = c <;> by_cases e2 : b = d <;> simp [e1, e2, hbq]
theorem neq_mark (k m : Mark) (w : World) : (binOp .neq 152 (.agg #[.int .i64 k.kind, .string k.word]) (.agg #[.int .i64 m.kind, .string m.word])).run Tryz.prog w = .ok (.bool (!decide (k = m))) w := by
  have h := equal_mark k m w
  have hop : Op.equal 152 (.agg #[.int .i64 k.kind, .string k.word]) (.agg #[.int .i64 m.kind, .string m.word]) = Op.equalIn 10000 152 (.agg #[.int .i64 k.kind, .string k.word]) (.agg #[.int .i64 m.kind, .string m.word]) := rfl
  rw [hop] at h
  rw [run_neq_struct, h]
  rfl
set_option maxHeartbeats 1000000 in
set_option maxRecDepth 100000 in
theorem equal_any (v u : Value) (l m : List Mark) (w : World) (hl : MarksAt w v l) (hm : MarksAt w u m) :
    Calls Tryz.prog 42 #[v, u] w fun r w' => r = .returned (.bool (decide (l = m))) ∧ Ext w w' := by
  obtain ⟨a, cap, rfl, hlc, hcm⟩ := hl.shape
  obtain ⟨a', cap', rfl, hlc', hcm'⟩ := hm.shape
  by_cases hn : l.length = m.length
  · have hn' : ((l.length : Int) != (m.length : Int)) = false := by simp; omega
    have Hn := Lib.hid hn
    clear hn
    go_enter Tryz.func42, Tryz.ntmps42
    go_wp2
    go_loopw [5] (fun i wr => ∃ k : Nat, k ≤ l.length ∧ i = .int .i64 k ∧ Ext w wr ∧ l.take k = m.take k) (fun i _ => l.length - (intOf i).toNat)
    case atStart => exact ⟨0, Nat.zero_le _, rfl, Ext.refl _, rfl⟩
    case round =>
      obtain ⟨k, hk, rfl, hx, hd⟩ := hrel
      have Hd := Lib.hid hd; clear hd
      by_cases h1 : k < l.length
      · have k1 : (k : Int) < (l.length : Int) := by omega
        have h2 : k < m.length := by have := Hn.out; omega
        have k2 : (k : Int) < (m.length : Int) := by omega
        obtain ⟨b, off, rfl, c0, d0, -⟩ := (hl.ext hx).get h1
        obtain ⟨b', off', rfl, c1, d1, -⟩ := (hm.ext hx).get h2
        have hst := same_step h1 h2
        have hno := not_same h1 h2
        generalize hx' : l[k] = x at *
        generalize hy : m[k] = y at *
        have Hst := Lib.hid hst
        have Hno := Lib.hid hno
        clear hx' hy hst hno
        have hnq := fun w => neq_mark x y w
        by_cases h0 : x = y
        · have H0 := Lib.hid h0
          rw [decide_eq_true h0] at hnq
          clear h0
          go_wp2_with fail
          apply Facts.wp_region [.val _, .val _, .val _, .val (.agg #[.int .i64 x.kind, .string x.word]), .val _, .val _, .val _, .val (.agg #[.int .i64 y.kind, .string y.word]), .val (.bool false)] (by kernel_rfl) (by kernel_rfl) trivial ?main
          case main =>
            iterate 8 (refine ⟨fun w1 hx hh => ?_, ?_⟩; focus (clear hh; have e0 := hx.cell c0; have e1 := hx.cell c1; have e2 := hx.cell d0; have e3 := hx.cell d1; go_simp; first | exact ⟨Ext.refl _, rfl⟩ | exact Ext.refl _))
            refine ⟨fun w1 hx hh => ?_, ?_⟩
            · clear hh
              go_simp
              first | exact Ext.refl _ | (rw [hnq]; exact ⟨Ext.refl _, rfl⟩)
            intro w1 hx1 hh
            have hx3 := hx.trans hx1
            clear hh c0 c1
            go_simp
            go_wp2
            go_roundw
            case rel => exact ⟨k + 1, by omega, by go_num, hx3, Hst.out.2 ⟨Hd.out, H0.out⟩⟩
            case measure => simp [intOf]; omega
        · have H0 := Lib.hid h0
          rw [decide_eq_false h0] at hnq
          clear h0
          go_wp2_with fail
          apply Facts.wp_region [.val _, .val _, .val _, .val (.agg #[.int .i64 x.kind, .string x.word]), .val _, .val _, .val _, .val (.agg #[.int .i64 y.kind, .string y.word]), .val (.bool true)] (by kernel_rfl) (by kernel_rfl) trivial ?main
          case main =>
            iterate 8 (refine ⟨fun w1 hx hh => ?_, ?_⟩; focus (clear hh; have e0 := hx.cell c0; have e1 := hx.cell c1; have e2 := hx.cell d0; have e3 := hx.cell d1; go_simp; first | exact ⟨Ext.refl _, rfl⟩ | exact Ext.refl _))
            refine ⟨fun w1 hx hh => ?_, ?_⟩
            · clear hh
              go_simp
              first | exact Ext.refl _ | (rw [hnq]; exact ⟨Ext.refl _, rfl⟩)
            intro w1 hx1 hh
            have hx3 := hx.trans hx1
            clear hh c0 c1
            go_simp
            go_wp2
            go_ret
            exact ⟨ret_bool (by rw [decide_eq_false (Hno.out H0.out)]), hx3⟩
      · go_wp2
        go_ret
        exact ⟨ret_bool (by rw [decide_eq_true (all_same Hn.out (by omega) Hd.out)]), hx⟩
  · have hn' : ((l.length : Int) != (m.length : Int)) = true := by simp; omega
    have Hne : Hid (decide (l = m) = false) := Lib.hid (decide_eq_false fun e => hn (by rw [e]))
    clear hn
    go_enter Tryz.func42, Tryz.ntmps42
    go_wp2
    go_ret
    exact ⟨ret_bool Hne.out.symm, Ext.refl _⟩
end Go.Proofs.YtnfbhicoknpojaaGreat

namespace Go.Proofs.YtnfbhicoknpojaaGreat
set_option linter.unusedSimpArgs false
set_option linter.unusedVariables false
open Go.RowKit
set_option linter.unusedVariables false

theorem lawMarks_any (w : World) : Calls Tryz.prog 38 #[] w fun e w' => (∃ a c, e = .returned (.slice a marksE.length c) ∧ MarksAt w' (.slice a marksE.length c) marksE) ∧ Ext w w' := by
  go_enter Tryz.func38, Tryz.ntmps38
  go_wp2
  go_ret
  refine ⟨⟨_, _, rfl, _, _, rfl, Nat.le_refl _, by decide, fun i hi => ⟨_, _, rfl, ?_⟩⟩, ext_alloc _ _⟩
  have : i = 0 ∨ i = 1 ∨ i = 2 ∨ i = 3 ∨ i = 4 ∨ i = 5 ∨ i = 6 := by simp [marksE] at hi; omega
  have hk : ∀ k : Int, 0 ≤ k ∧ k ≤ 4 → I64 k := fun k h => ⟨by omega, by omega⟩
  rcases this with rfl | rfl | rfl | rfl | rfl | rfl | rfl
  all_goals exact ⟨by simp [go_sem, marksE], by simp [go_sem, marksE, noW, wFor]; first | done | rfl, hk _ (by simp [marksE]), by simp [marksE]; decide⟩
def slA : Value → Option Addr
  | .slice a _ _ => a
  | _ => none
def slC : Value → Nat
  | .slice _ _ c => c
  | _ => 0
theorem SliceAt.form {α : Type} {sz : Nat} {R : World → Nat → Nat → α → Prop} {w : World} {v : Value} {l : List α} (h : SliceAt sz R w v l) : v = .slice (slA v) l.length (slC v) := by
  obtain ⟨a, c, rfl, -⟩ := h.shape
  rfl
theorem FillsAt.twoAt {w : World} {u v : Value} {l m : List ByteArray} {t : TypeId} {B : Nat} (hB : w.heap.size = B) (h : StrsAt w u l) (h' : StrsAt w v m) : FillsAt (w.alloc (.cells #[u, v] t)) (.slice (some ⟨B, 0, none⟩) 2 2) [l, m] := by
  subst hB
  refine ⟨_, _, rfl, Nat.le_refl _, by omega, fun i hi => ?_⟩
  have : i = 0 ∨ i = 1 := by simp at hi; omega
  rcases this with rfl | rfl
  · exact ⟨_, _, rfl, _, by simp [go_sem], h.ext (ext_alloc _ _)⟩
  · exact ⟨_, _, rfl, _, by simp [go_sem], h'.ext (ext_alloc _ _)⟩
def fstV : Value → Value
  | .tuple a => a.getD 0 undef
  | _ => undef
/-- a letter and no error -/
def TupL (l : List ByteArray) (u : Value) (w : World) : Prop := u = .tuple #[fstV u, .int .i64 0] ∧ StrsAt w (fstV u) l
theorem TupL.ext {l : List ByteArray} {u : Value} {w w' : World} (h : TupL l u w) (hx : Ext w w') : TupL l u w' := ⟨h.1, h.2.ext hx⟩
def TupI (l : List Int) (u : Value) (w : World) : Prop := u = .tuple #[fstV u, .int .i64 0] ∧ IntsAt w (fstV u) l
theorem TupI.ext {l : List Int} {u : Value} {w w' : World} (h : TupI l u w) (hx : Ext w w') : TupI l u w' := ⟨h.1, h.2.ext hx⟩
def TupF (l : List (List ByteArray)) (n : Nat) (u : Value) (w : World) : Prop := u = .tuple #[fstV u, .int .i64 n, .int .i64 0] ∧ FillsAt w (fstV u) l
theorem TupF.ext {l : List (List ByteArray)} {n : Nat} {u : Value} {w w' : World} (h : TupF l n u w) (hx : Ext w w') : TupF l n u w' := ⟨h.1, h.2.ext hx⟩

set_option maxRecDepth 100000 in
set_option maxHeartbeats 20000000 in
theorem awakeL_any (w : World) : Calls Tryz.prog 7 #[] w fun e w' => e = .returned (.bool true) ∧ Ext w w' := by
  have hshelf := fun w => Shelf_any w
  have hS : shelfE.forms.length = 3 := rfl
  obtain ⟨S, hSS⟩ : ∃ S, S = shelfE := ⟨_, rfl⟩
  have HMK := Lib.hid e_make
  have HBU := Lib.hid e_built
  have HOC := Lib.hid e_ofC
  have HEC := Lib.hid e_errC
  have HFC := Lib.hid e_fillC
  have HEA := Lib.hid e_errA
  have HTA := Lib.hid e_textA
  have HRA := Lib.hid e_readA
  have HM2 := Lib.hid e_mend2
  have HME2 := Lib.hid e_mendE2
  have HN := Lib.hid e_near
  have HNE := Lib.hid e_nearE
  have HRB := Lib.hid e_readB
  have HRW := Lib.hid e_readW
  have HME3 := Lib.hid e_mendE3
  rw [← hSS] at hS HMK HBU HOC HEC HFC HEA HTA HRA HM2 HME2 HN HNE HRB HRW HME3
  simp only [← hSS] at hshelf
  clear hSS
  have HS := Lib.hid hS
  clear hS
  go_enter Tryz.func7, Tryz.ntmps7
  go_wp2_with fail
  refine (hshelf _).mono ?_
  rintro e w1 ⟨v, rfl, hb, x1⟩
  clear hshelf
  obtain ⟨fa, fc, rfl, -⟩ := hb.open
  rw [HS.out] at hb ⊢
  obtain ⟨q0, q1⟩ : (w1.alloc (.cells #[.int .i64 S.width, .slice fa 3 fc] 38)).cell? ⟨w1.heap.size, 0, none⟩ = some (.int .i64 S.width) ∧ (w1.alloc (.cells #[.int .i64 S.width, .slice fa 3 fc] 38)).cell? ⟨w1.heap.size, 1, none⟩ = some (.slice fa 3 fc) := ⟨by simp [go_sem], by simp [go_sem]⟩
  go_wp2_with fail
  obtain ⟨W, hW⟩ : ∃ W, W = w1.alloc (.cells #[.int .i64 S.width, .slice fa 3 fc] 38) := ⟨_, rfl⟩
  replace hb := hb.ext (ext_alloc w1 (.cells #[.int .i64 S.width, .slice fa 3 fc] 38))
  replace x1 : Ext w W := by rw [hW]; exact x1.alloc _
  rw [← hW] at hb q0 q1 ⊢
  clear hW
  refine (words_any _ letA (by kernel_rfl) (by decide) _).mono ?_
  rintro e w2 ⟨⟨Aa, Ac, rfl, hA, -⟩, hx⟩
  replace hb := hb.ext hx
  replace q0 := hx.cell q0
  replace q1 := hx.cell q1
  replace x1 := x1.trans hx
  clear hx
  go_wp2_with fail
  refine (words_any _ letB (by kernel_rfl) (by decide) _).mono ?_
  rintro e w3 ⟨⟨Ba, Bc, rfl, hB, -⟩, hx⟩
  replace hA := hA.ext hx
  replace hb := hb.ext hx
  replace q0 := hx.cell q0
  replace q1 := hx.cell q1
  replace x1 := x1.trans hx
  clear hx
  -- Make
  go_wp2_with fail
  apply Facts.wp_region [.val (.agg #[.int .i64 S.width, .slice fa 3 fc]), .fact (fun u w => StrsAt w u [wJudge]), .fact (fun u w => StrsAt w u [wMercy]), .fact (fun u w => FillsAt w u [[wJudge], [wMercy]]), .fact (TupL letA), .fact (TupL letA), .fact (fun u w => StrsAt w u letA), .val (.int .i64 0), .fact (fun u w => StrsAt w u letA), .val (.int .i64 0)] (by kernel_rfl) (by kernel_rfl) ⟨fun u a c hx h => StrsAt.ext h hx, fun u a c hx h => StrsAt.ext h hx, fun u a c hx h => FillsAt.ext h hx, fun u a c hx h => TupL.ext h hx, fun u a c hx h => TupL.ext h hx, fun u a c hx h => StrsAt.ext h hx, fun u a c hx h => StrsAt.ext h hx, trivial⟩ ?main
  case main =>
    iterate 1 (refine ⟨fun w1 hx hh => ?_, ?_⟩; focus (clear hh; have f0 := hx.cell q0; have f1 := hx.cell q1; go_simp; first | exact ⟨Ext.refl _, rfl⟩ | exact Ext.refl _))
    refine ⟨fun w1 hx hh => ?_, ?_⟩
    · clear hh
      go_simp
      refine (words_any _ [wJudge] (by kernel_rfl) (by decide) _).mono ?_
      rintro e w' ⟨⟨a, c, rfl, h, -⟩, hx⟩
      exact ⟨_, rfl, hx, h⟩
    intro u1
    refine ⟨fun w1 hx hh => ?_, ?_⟩
    · clear hh
      go_simp
      refine (words_any _ [wMercy] (by kernel_rfl) (by decide) _).mono ?_
      rintro e w' ⟨⟨a, c, rfl, h, -⟩, hx⟩
      exact ⟨_, rfl, hx, h⟩
    intro u2
    refine ⟨fun w1 hx hh => ?_, ?_⟩
    · have h1 : StrsAt w1 u1 [wJudge] := hh 1 _ (List.mem_cons_of_mem _ List.mem_cons_self) (by kernel_rfl)
      have h2 : StrsAt w1 u2 [wMercy] := hh 2 _ List.mem_cons_self (by kernel_rfl)
      clear hh
      have hF := FillsAt.twoAt (t := 48) rfl h1 h2
      have e1 := h1.form
      have e2 := h2.form
      rw [e1, e2] at hF ⊢
      clear e1 e2 h1 h2
      generalize slA u1 = a1 at *
      generalize slC u1 = c1 at *
      generalize slA u2 = a2 at *
      generalize slC u2 = c2 at *
      have HF := Lib.hid hF
      clear hF
      go_simp
      exact ⟨ext_alloc _ _, HF.out⟩
    intro u3
    refine ⟨fun w1 hx hh => ?_, ?_⟩
    · have h1 : FillsAt w1 u3 [[wJudge], [wMercy]] := hh 3 _ List.mem_cons_self (by kernel_rfl)
      have hx2 := hx
      clear hh
      go_simp
      refine (make_any _ _ S 0 (by constructor <;> decide) _ _ (hb.ext hx2) h1).mono ?_
      rw [HMK.out, HBU.out]
      rintro e w' ⟨u, rfl, ⟨v, rfl, hv, -⟩, hx⟩
      exact ⟨_, rfl, hx, ⟨rfl, hv rfl⟩⟩
    intro u4
    (refine ⟨fun w1 hx hh => ?_, ?_⟩; focus (have h4 : TupL letA u4 w1 := hh 4 _ List.mem_cons_self (by kernel_rfl); clear hh; go_simp; first | exact ⟨Ext.refl _, h4⟩ | exact Ext.refl _))
    intro u5
    (refine ⟨fun w1 hx hh => ?_, ?_⟩; focus (have h5 : TupL letA u5 w1 := hh 5 _ List.mem_cons_self (by kernel_rfl); have e := h5.1; have hs := h5.2; clear hh h5; generalize fstV u5 = f5 at *; subst e; go_simp; first | exact ⟨Ext.refl _, hs⟩ | exact ⟨Ext.refl _, rfl⟩ | exact Ext.refl _))
    intro u6
    (refine ⟨fun w1 hx hh => ?_, ?_⟩; focus (have h5 : TupL letA u5 w1 := hh 5 _ (List.mem_cons_of_mem _ List.mem_cons_self) (by kernel_rfl); have e := h5.1; have hs := h5.2; clear hh h5; generalize fstV u5 = f5 at *; subst e; go_simp; first | exact ⟨Ext.refl _, hs⟩ | exact ⟨Ext.refl _, rfl⟩ | exact Ext.refl _))
    (refine ⟨fun w1 hx hh => ?_, ?_⟩; focus (have h6 : (fun w => StrsAt w u6 letA) w1 := hh 6 _ List.mem_cons_self (by kernel_rfl); clear hh; go_simp; first | exact ⟨Ext.refl _, h6⟩ | exact Ext.refl _))
    intro u8
    iterate 1 (refine ⟨fun w1 hx hh => ?_, ?_⟩; focus (clear hh; skip; go_simp; first | exact ⟨Ext.refl _, rfl⟩ | exact Ext.refl _))
    intro w4 hx hh
    have hMade : StrsAt w4 u8 letA := hh 8 _ List.mem_cons_self
    clear hh
    replace hA := hA.ext hx
    replace hB := hB.ext hx
    replace hb := hb.ext hx
    replace q0 := hx.cell q0
    replace q1 := hx.cell q1
    replace x1 := x1.trans hx
    clear hx
    have eM := hMade.form
    generalize slA u8 = ma at *
    generalize slC u8 = mc at *
    subst eM
    go_simp
    go_wp2_with fail
    -- Of
    apply Facts.wp_region [.val (.agg #[.int .i64 S.width, .slice fa 3 fc]), .fact (fun u w => StrsAt w u letC), .fact (TupI [2]), .fact (TupI [2]), .fact (fun u w => IntsAt w u [2]), .val (.int .i64 0), .fact (fun u w => IntsAt w u [2]), .val (.int .i64 0)] (by kernel_rfl) (by kernel_rfl) ⟨fun u a c hx h => StrsAt.ext h hx, fun u a c hx h => TupI.ext h hx, fun u a c hx h => TupI.ext h hx, fun u a c hx h => IntsAt.ext h hx, fun u a c hx h => IntsAt.ext h hx, trivial⟩ ?main
    case main =>
    iterate 1 (refine ⟨fun w1 hx hh => ?_, ?_⟩; focus (clear hh; have f0 := hx.cell q0; have f1 := hx.cell q1; go_simp; first | exact ⟨Ext.refl _, rfl⟩ | exact Ext.refl _))
    refine ⟨fun w1 hx hh => ?_, ?_⟩
    · clear hh
      go_simp
      refine (words_any _ letC (by kernel_rfl) (by decide) _).mono ?_
      rintro e w' ⟨⟨a, c, rfl, h, -⟩, hx⟩
      exact ⟨_, rfl, hx, h⟩
    intro uc1
    refine ⟨fun w1 hx hh => ?_, ?_⟩
    · have h1 : StrsAt w1 uc1 letC := hh 1 _ List.mem_cons_self (by kernel_rfl)
      have hx2 := hx
      clear hh
      go_simp
      refine (of_any _ _ S letC _ (hb.ext hx2) h1).mono ?_
      rw [HOC.out, HEC.out]
      rintro e w' ⟨u, rfl, ⟨v, rfl, hv, -⟩, hx⟩
      exact ⟨_, rfl, hx, ⟨rfl, hv rfl⟩⟩
    intro uc2
    (refine ⟨fun w1 hx hh => ?_, ?_⟩; focus (have h4 : TupI [2] uc2 w1 := hh 2 _ List.mem_cons_self (by kernel_rfl); clear hh; go_simp; first | exact ⟨Ext.refl _, h4⟩ | exact Ext.refl _))
    intro uc3
    (refine ⟨fun w1 hx hh => ?_, ?_⟩; focus (have h5 : TupI [2] uc3 w1 := hh 3 _ List.mem_cons_self (by kernel_rfl); have e := h5.1; have hs := h5.2; clear hh h5; generalize fstV uc3 = f5 at *; subst e; go_simp; first | exact ⟨Ext.refl _, hs⟩ | exact ⟨Ext.refl _, rfl⟩ | exact Ext.refl _))
    intro uc4
    (refine ⟨fun w1 hx hh => ?_, ?_⟩; focus (have h5 : TupI [2] uc3 w1 := hh 3 _ (List.mem_cons_of_mem _ List.mem_cons_self) (by kernel_rfl); have e := h5.1; have hs := h5.2; clear hh h5; generalize fstV uc3 = f5 at *; subst e; go_simp; first | exact ⟨Ext.refl _, hs⟩ | exact ⟨Ext.refl _, rfl⟩ | exact Ext.refl _))
    (refine ⟨fun w1 hx hh => ?_, ?_⟩; focus (have h6 : (fun w => IntsAt w uc4 [2]) w1 := hh 4 _ List.mem_cons_self (by kernel_rfl); clear hh; go_simp; first | exact ⟨Ext.refl _, h6⟩ | exact Ext.refl _))
    intro uc6
    iterate 1 (refine ⟨fun w1 hx hh => ?_, ?_⟩; focus (clear hh; skip; go_simp; first | exact ⟨Ext.refl _, rfl⟩ | exact Ext.refl _))
    intro w5 hx hh
    have hOf : IntsAt w5 uc6 [2] := hh 6 _ List.mem_cons_self
    clear hh
    replace hMade := hMade.ext hx
    replace hA := hA.ext hx
    replace hB := hB.ext hx
    replace hb := hb.ext hx
    replace q0 := hx.cell q0
    replace q1 := hx.cell q1
    replace x1 := x1.trans hx
    clear hx
    have eM := hOf.form
    generalize slA uc6 = oa at *
    generalize slC uc6 = oc at *
    subst eM
    go_simp
    go_wp2_with fail
    -- Fills
    apply Facts.wp_region [.val (.agg #[.int .i64 S.width, .slice fa 3 fc]), .fact (fun u w => StrsAt w u letC), .fact (TupF [[wA], [wB, wC]] 2), .fact (TupF [[wA], [wB, wC]] 2), .fact (fun u w => FillsAt w u [[wA], [wB, wC]]), .val (.int .i64 2), .val (.int .i64 0), .fact (fun u w => FillsAt w u [[wA], [wB, wC]]), .val (.int .i64 2), .val (.int .i64 0)] (by kernel_rfl) (by kernel_rfl) ⟨fun u a c hx h => StrsAt.ext h hx, fun u a c hx h => TupF.ext h hx, fun u a c hx h => TupF.ext h hx, fun u a c hx h => FillsAt.ext h hx, fun u a c hx h => FillsAt.ext h hx, trivial⟩ ?main
    case main =>
    iterate 1 (refine ⟨fun w1 hx hh => ?_, ?_⟩; focus (clear hh; have f0 := hx.cell q0; have f1 := hx.cell q1; go_simp; first | exact ⟨Ext.refl _, rfl⟩ | exact Ext.refl _))
    refine ⟨fun w1 hx hh => ?_, ?_⟩
    · clear hh
      go_simp
      refine (words_any _ letC (by kernel_rfl) (by decide) _).mono ?_
      rintro e w' ⟨⟨a, c, rfl, h, -⟩, hx⟩
      exact ⟨_, rfl, hx, h⟩
    intro ud1
    refine ⟨fun w1 hx hh => ?_, ?_⟩
    · have h1 : StrsAt w1 ud1 letC := hh 1 _ List.mem_cons_self (by kernel_rfl)
      have hx2 := hx
      clear hh
      go_simp
      refine (Fills_any _ _ S 2 (by constructor <;> decide) letC _ (hb.ext hx2) h1).mono ?_
      rw [HFC.out]
      rintro e w' ⟨u, rfl, hv, hx⟩
      exact ⟨_, rfl, hx, ⟨rfl, hv⟩⟩
    intro ud2
    (refine ⟨fun w1 hx hh => ?_, ?_⟩; focus (have h4 : TupF [[wA], [wB, wC]] 2 ud2 w1 := hh 2 _ List.mem_cons_self (by kernel_rfl); clear hh; go_simp; first | exact ⟨Ext.refl _, h4⟩ | exact Ext.refl _))
    intro ud3
    (refine ⟨fun w1 hx hh => ?_, ?_⟩; focus (have h5 : TupF [[wA], [wB, wC]] 2 ud3 w1 := hh 3 _ List.mem_cons_self (by kernel_rfl); have e := h5.1; have hs := h5.2; clear hh h5; generalize fstV ud3 = f5 at *; subst e; go_simp; first | exact ⟨Ext.refl _, hs⟩ | exact ⟨Ext.refl _, rfl⟩ | exact Ext.refl _))
    intro ud4
    (refine ⟨fun w1 hx hh => ?_, ?_⟩; focus (have h5 : TupF [[wA], [wB, wC]] 2 ud3 w1 := hh 3 _ (List.mem_cons_of_mem _ List.mem_cons_self) (by kernel_rfl); have e := h5.1; have hs := h5.2; clear hh h5; generalize fstV ud3 = f5 at *; subst e; go_simp; first | exact ⟨Ext.refl _, hs⟩ | exact ⟨Ext.refl _, rfl⟩ | exact Ext.refl _))
    (refine ⟨fun w1 hx hh => ?_, ?_⟩; focus (have h5 : TupF [[wA], [wB, wC]] 2 ud3 w1 := hh 3 _ (List.mem_cons_of_mem _ List.mem_cons_self) (by kernel_rfl); have e := h5.1; have hs := h5.2; clear hh h5; generalize fstV ud3 = f5 at *; subst e; go_simp; first | exact ⟨Ext.refl _, hs⟩ | exact ⟨Ext.refl _, rfl⟩ | exact Ext.refl _))
    (refine ⟨fun w1 hx hh => ?_, ?_⟩; focus (have h6 : (fun w => FillsAt w ud4 [[wA], [wB, wC]]) w1 := hh 4 _ List.mem_cons_self (by kernel_rfl); clear hh; go_simp; first | exact ⟨Ext.refl _, h6⟩ | exact Ext.refl _))
    intro ud7
    iterate 2 (refine ⟨fun w1 hx hh => ?_, ?_⟩; focus (clear hh; skip; go_simp; first | exact ⟨Ext.refl _, rfl⟩ | exact Ext.refl _))
    intro w6 hx hh
    have hFi : FillsAt w6 ud7 [[wA], [wB, wC]] := hh 7 _ List.mem_cons_self
    clear hh
    replace hMade := hMade.ext hx
    replace hOf := hOf.ext hx
    replace hA := hA.ext hx
    replace hB := hB.ext hx
    replace hb := hb.ext hx
    replace q0 := hx.cell q0
    replace q1 := hx.cell q1
    replace x1 := x1.trans hx
    clear hx
    have eM := hFi.form
    generalize slA ud7 = ia at *
    generalize slC ud7 = ic at *
    subst eM
    go_simp
    go_wp2_with fail
    -- Write
    refine (write_any _ _ S letA _ hb hA).mono ?_
    rw [HTA.out, HEA.out]
    unfold textA
    rintro e w7 ⟨rfl, hx⟩
    replace hA := hA.ext hx
    replace hB := hB.ext hx
    replace hb := hb.ext hx
    replace q0 := hx.cell q0
    replace q1 := hx.cell q1
    replace x1 := x1.trans hx
    replace hMade := hMade.ext hx
    replace hOf := hOf.ext hx
    replace hFi := hFi.ext hx
    clear hx
    go_wp2_with fail
    -- Read
    refine (read_any _ S textA (by decide) _ hb).mono ?_
    rw [HRA.out]
    rintro e w8 ⟨u, rfl, ⟨v, rfl, hRead, -⟩, hx⟩
    replace hA := hA.ext hx
    replace hB := hB.ext hx
    replace hb := hb.ext hx
    replace q0 := hx.cell q0
    replace q1 := hx.cell q1
    replace x1 := x1.trans hx
    replace hMade := hMade.ext hx
    replace hOf := hOf.ext hx
    replace hFi := hFi.ext hx
    clear hx
    obtain ⟨ra, rc, rfl, -⟩ := hRead.shape
    simp only at hRead
    go_wp2_with fail
    -- Fewest
    refine (Fewest_any _ _ letA letB _ hA hB).mono ?_
    rw [e_fewE, e_fewM, e_fewN]
    rintro e w9 ⟨v, rfl, hFew, hx⟩
    replace hA := hA.ext hx
    replace hB := hB.ext hx
    replace hb := hb.ext hx
    replace q0 := hx.cell q0
    replace q1 := hx.cell q1
    replace x1 := x1.trans hx
    replace hMade := hMade.ext hx
    replace hOf := hOf.ext hx
    replace hFi := hFi.ext hx
    replace hRead := hRead.ext hx
    clear hx
    obtain ⟨ka, kc, rfl, -⟩ := hFew.shape
    go_wp2_with fail
    -- marks, Apply
    refine (lawMarks_any _).mono ?_
    rintro e w10 ⟨⟨na, nc, rfl, hMk⟩, hx⟩
    replace hA := hA.ext hx
    replace hB := hB.ext hx
    replace hb := hb.ext hx
    replace q0 := hx.cell q0
    replace q1 := hx.cell q1
    replace x1 := x1.trans hx
    replace hMade := hMade.ext hx
    replace hOf := hOf.ext hx
    replace hFi := hFi.ext hx
    replace hRead := hRead.ext hx
    replace hFew := hFew.ext hx
    clear hx
    go_wp2_with fail
    refine (Apply_any _ _ letA marksE _ hA hMk).mono ?_
    rw [e_apply]
    rintro e w11 ⟨v, rfl, hNow', hx⟩
    have hNow : StrsAt w11 v letB := hNow'.at_ (by decide +kernel)
    replace hA := hA.ext hx
    replace hB := hB.ext hx
    replace hb := hb.ext hx
    replace q0 := hx.cell q0
    replace q1 := hx.cell q1
    replace x1 := x1.trans hx
    replace hMade := hMade.ext hx
    replace hOf := hOf.ext hx
    replace hFi := hFi.ext hx
    replace hRead := hRead.ext hx
    replace hFew := hFew.ext hx
    clear hx hNow' hMk
    obtain ⟨pa, pc, rfl, -⟩ := hNow.shape
    go_wp2_with fail
    -- Mend
    refine (Mend_any _ _ S 2 (by constructor <;> decide) letA _ hb hA).mono ?_
    rw [HM2.out, HME2.out]
    rintro e w12 ⟨rfl, hx⟩
    replace hA := hA.ext hx
    replace hB := hB.ext hx
    replace hb := hb.ext hx
    replace q0 := hx.cell q0
    replace q1 := hx.cell q1
    replace x1 := x1.trans hx
    replace hMade := hMade.ext hx
    replace hOf := hOf.ext hx
    replace hFi := hFi.ext hx
    replace hRead := hRead.ext hx
    replace hFew := hFew.ext hx
    replace hNow := hNow.ext hx
    clear hx
    go_wp2_with fail
    -- Nearest
    refine (Nearest_any _ _ S letA _ hb hA).mono ?_
    rw [HN.out, HNE.out]
    rintro e w13 ⟨rfl, hx⟩
    replace hA := hA.ext hx
    replace hB := hB.ext hx
    replace hb := hb.ext hx
    replace q0 := hx.cell q0
    replace q1 := hx.cell q1
    replace x1 := x1.trans hx
    replace hMade := hMade.ext hx
    replace hOf := hOf.ext hx
    replace hFi := hFi.ext hx
    replace hRead := hRead.ext hx
    replace hFew := hFew.ext hx
    replace hNow := hNow.ext hx
    clear hx
    go_wp2_with fail
    -- Read
    refine (read_any _ S textB (by decide) _ hb).mono ?_
    rintro e w14 ⟨u, rfl, ⟨v, rfl, -, -⟩, hx⟩
    rw [HRB.out]
    replace hA := hA.ext hx
    replace hB := hB.ext hx
    replace hb := hb.ext hx
    replace q0 := hx.cell q0
    replace q1 := hx.cell q1
    replace x1 := x1.trans hx
    replace hMade := hMade.ext hx
    replace hOf := hOf.ext hx
    replace hFi := hFi.ext hx
    replace hRead := hRead.ext hx
    replace hFew := hFew.ext hx
    replace hNow := hNow.ext hx
    clear hx
    go_wp2_with fail
    refine (read_any _ S textW (by decide) _ hb).mono ?_
    rintro e w15 ⟨u2, rfl, ⟨v2, rfl, -, -⟩, hx⟩
    rw [HRW.out]
    replace hA := hA.ext hx
    replace hB := hB.ext hx
    replace hb := hb.ext hx
    replace q0 := hx.cell q0
    replace q1 := hx.cell q1
    replace x1 := x1.trans hx
    replace hMade := hMade.ext hx
    replace hOf := hOf.ext hx
    replace hFi := hFi.ext hx
    replace hRead := hRead.ext hx
    replace hFew := hFew.ext hx
    replace hNow := hNow.ext hx
    clear hx
    go_wp2_with fail
    refine (Mend_any _ _ S 3 (by constructor <;> decide) letA _ hb hA).mono ?_
    rw [HME3.out]
    rintro e w16 ⟨rfl, hx⟩
    replace hA := hA.ext hx
    replace hB := hB.ext hx
    replace hb := hb.ext hx
    replace q0 := hx.cell q0
    replace q1 := hx.cell q1
    replace x1 := x1.trans hx
    replace hMade := hMade.ext hx
    replace hOf := hOf.ext hx
    replace hFi := hFi.ext hx
    replace hRead := hRead.ext hx
    replace hFew := hFew.ext hx
    replace hNow := hNow.ext hx
    clear hx hb q0 q1
    generalize mendM S 3 letA = many3
    go_wp2_with fail
    refine (same_any _ _ letA letA _ hMade hA).mono ?_
    rw [decide_eq_true rfl]
    rintro e w17 ⟨rfl, hx⟩
    replace hA := hA.ext hx
    replace hB := hB.ext hx
    replace hOf := hOf.ext hx
    replace hFi := hFi.ext hx
    replace hRead := hRead.ext hx
    replace hFew := hFew.ext hx
    replace hNow := hNow.ext hx
    replace x1 := x1.trans hx
    clear hx hMade
    go_wp2_with fail
    refine (ints_any _ _ [2] [2] _ (hOf.ext (ext_alloc _ _)) (IntsAt.oneAt (n := 2) (by simp) (by decide))).mono ?_
    rw [show decide (([2] : List Int) = [2]) = true from rfl]
    rintro e w18 ⟨rfl, hx'⟩
    have hx := hx'.of_alloc
    replace hA := hA.ext hx
    replace hB := hB.ext hx
    replace hFi := hFi.ext hx
    replace hRead := hRead.ext hx
    replace hFew := hFew.ext hx
    replace hNow := hNow.ext hx
    replace x1 := x1.trans hx
    clear hx hx' hOf
    go_wp2_with fail
    refine (words_any _ [wA] (by kernel_rfl) (by decide) _).mono ?_
    rintro e w19 ⟨⟨ta, tc, rfl, h1, -⟩, hx⟩
    replace hA := hA.ext hx
    replace hB := hB.ext hx
    replace hFi := hFi.ext hx
    replace hRead := hRead.ext hx
    replace hFew := hFew.ext hx
    replace hNow := hNow.ext hx
    replace x1 := x1.trans hx
    clear hx
    go_wp2_with fail
    refine (words_any _ [wB, wC] (by kernel_rfl) (by decide) _).mono ?_
    rintro e w20 ⟨⟨sa, sc, rfl, h2, -⟩, hx⟩
    replace hA := hA.ext hx
    replace hB := hB.ext hx
    replace hFi := hFi.ext hx
    replace hRead := hRead.ext hx
    replace hFew := hFew.ext hx
    replace hNow := hNow.ext hx
    replace x1 := x1.trans hx
    replace h1 := h1.ext hx
    clear hx
    go_wp2_with fail
    refine (sames_any _ _ [[wA], [wB, wC]] [[wA], [wB, wC]] _ (hFi.ext (ext_alloc _ _)) (FillsAt.twoAt rfl h1 h2)).mono ?_
    rw [decide_eq_true rfl]
    rintro e w21 ⟨rfl, hx'⟩
    have hx := hx'.of_alloc
    clear hx' hFi h1 h2
    replace hA := hA.ext hx
    replace hB := hB.ext hx
    replace hRead := hRead.ext hx
    replace hFew := hFew.ext hx
    replace hNow := hNow.ext hx
    replace x1 := x1.trans hx
    clear hx
    go_wp2_with fail
    refine (same_any _ _ letA letA _ hRead hA).mono ?_
    rw [decide_eq_true rfl]
    rintro e w22 ⟨rfl, hx⟩
    replace hA := hA.ext hx
    replace hB := hB.ext hx
    replace hRead := hRead.ext hx
    replace hFew := hFew.ext hx
    replace hNow := hNow.ext hx
    replace x1 := x1.trans hx
    clear hx
    clear hRead hA
    go_wp2_with fail
    refine (lawMarks_any _).mono ?_
    rintro e w23 ⟨⟨na, nc, rfl, hMk⟩, hx⟩
    replace hB := hB.ext hx
    replace hFew := hFew.ext hx
    replace hNow := hNow.ext hx
    replace x1 := x1.trans hx
    clear hx
    go_wp2_with fail
    refine (equal_any _ _ marksE marksE _ hFew hMk).mono ?_
    rw [decide_eq_true rfl]
    rintro e w24 ⟨rfl, hx⟩
    replace hB := hB.ext hx
    replace hNow := hNow.ext hx
    replace x1 := x1.trans hx
    clear hx hFew hMk
    go_wp2_with fail
    refine (same_any _ _ letB letB _ hNow hB).mono ?_
    rw [decide_eq_true rfl]
    rintro e w25 ⟨rfl, hx⟩
    replace x1 := x1.trans hx
    clear hx hNow hB
    go_wp2
    go_ret
    exact ⟨rfl, x1⟩
end Go.Proofs.YtnfbhicoknpojaaGreat

namespace Go.Proofs.YtnfbhicoknpojaaGreat
set_option linter.unusedSimpArgs false
set_option linter.unusedVariables false
set_option linter.unusedVariables false

/-- a way from one letter to another one, with so many corrections -/
inductive Ed : List ByteArray → List ByteArray → Nat → Prop where
  | nil : Ed [] [] 0
  | keep (x : ByteArray) {a b : List ByteArray} {n : Nat} : Ed a b n → Ed (x :: a) (x :: b) n
  | turn (x y : ByteArray) {a b : List ByteArray} {n : Nat} : Ed a b n → Ed (x :: a) (y :: b) (n + 1)
  | drop (x : ByteArray) {a b : List ByteArray} {n : Nat} : Ed a b n → Ed (x :: a) b (n + 1)
  | put (y : ByteArray) {a b : List ByteArray} {n : Nat} : Ed a b n → Ed a (y :: b) (n + 1)
theorem Ed.puts : ∀ b : List ByteArray, Ed [] b b.length
  | [] => .nil
  | y :: b => .put y (Ed.puts b)
theorem Ed.drops : ∀ a : List ByteArray, Ed a [] a.length
  | [] => .nil
  | x :: a => .drop x (Ed.drops a)
theorem sameW_eq {x s : ByteArray} (h : sameW x s = true) : x = s := toList_inj (eq_of_beq h)
theorem sameW_self (x : ByteArray) : sameW x x = true := by simp [sameW]
theorem ed_far : ∀ (n : Nat) (a b : List ByteArray), a.length + b.length < n → Ed a b (farM n a b)
  | 0, a, b, h => by omega
  | n + 1, [], b, h => by rw [farM]; exact Ed.puts b
  | n + 1, x :: a, [], h => Ed.drops (x :: a)
  | n + 1, x :: a, s :: b, h => by
    simp only [List.length_cons] at h
    have i1 := ed_far n a b (by omega)
    have i2 := ed_far n a (s :: b) (by simp only [List.length_cons]; omega)
    have i3 := ed_far n (x :: a) b (by simp only [List.length_cons]; omega)
    rw [farM]
    have j2 : Ed (x :: a) (s :: b) (1 + farM n a (s :: b)) := by rw [Nat.add_comm]; exact .drop x i2
    have j3 : Ed (x :: a) (s :: b) (1 + farM n (x :: a) b) := by rw [Nat.add_comm]; exact .put s i3
    have j1 : Ed (x :: a) (s :: b) (if sameW x s then farM n a b else 1 + farM n a b) := by
      cases hs : sameW x s
      · simp only [Bool.false_eq_true, if_false]; rw [Nat.add_comm]; exact .turn x s i1
      · obtain rfl := sameW_eq hs
        simp only [if_true]; exact .keep x i1
    generalize (if sameW x s then farM n a b else 1 + farM n a b) = p at *
    generalize 1 + farM n a (s :: b) = q at *
    generalize 1 + farM n (x :: a) b = r at *
    rcases Nat.le_total p (min q r) with h1 | h1
    · rw [Nat.min_eq_left h1]; exact j1
    · rw [Nat.min_eq_right h1]
      rcases Nat.le_total q r with h2 | h2
      · rw [Nat.min_eq_left h2]; exact j2
      · rw [Nat.min_eq_right h2]; exact j3
theorem far_nil (n : Nat) (a : List ByteArray) : farM (n + 1) a [] = a.length := by cases a <;> rfl
theorem far_le {a b : List ByteArray} {k : Nat} (h : Ed a b k) : ∀ n, a.length + b.length < n → farM n a b ≤ k := by
  induction h with
  | nil => intro n hn; obtain ⟨n, rfl⟩ : ∃ m, n = m + 1 := ⟨n - 1, by omega⟩; exact Nat.le_refl _
  | keep x h ih =>
    intro n hn
    obtain ⟨n, rfl⟩ : ∃ m, n = m + 1 := ⟨n - 1, by omega⟩
    simp only [List.length_cons] at hn
    have := ih n (by omega)
    rw [farM, sameW_self, if_pos rfl]
    omega
  | turn x y h ih =>
    intro n hn
    obtain ⟨n, rfl⟩ : ∃ m, n = m + 1 := ⟨n - 1, by omega⟩
    simp only [List.length_cons] at hn
    have := ih n (by omega)
    rw [farM]
    split <;> omega
  | @drop x a b k h ih =>
    intro n hn
    obtain ⟨n, rfl⟩ : ∃ m, n = m + 1 := ⟨n - 1, by omega⟩
    simp only [List.length_cons] at hn
    have h1 := ih n (by omega)
    cases b with
    | nil =>
      obtain ⟨m, rfl⟩ : ∃ m, n = m + 1 := ⟨n - 1, by omega⟩
      rw [far_nil] at h1 ⊢
      simp only [List.length_cons]; omega
    | cons s b => rw [farM]; omega
  | @put y a b k h ih =>
    intro n hn
    obtain ⟨n, rfl⟩ : ∃ m, n = m + 1 := ⟨n - 1, by omega⟩
    simp only [List.length_cons] at hn
    have h1 := ih n (by omega)
    cases a with
    | nil =>
      obtain ⟨m, rfl⟩ : ∃ m, n = m + 1 := ⟨n - 1, by omega⟩
      rw [farM] at h1 ⊢
      simp only [List.length_cons]; omega
    | cons s a => rw [farM]; omega
theorem Ed.comp : ∀ (N : Nat) {a c b : List ByteArray} {n m : Nat}, a.length + c.length + b.length ≤ N → Ed a c n → Ed c b m → ∃ k, k ≤ n + m ∧ Ed a b k := by
  intro N
  induction N with
  | zero =>
    intro a c b n m hN h1 h2
    have ha : a = [] := List.eq_nil_of_length_eq_zero (by omega)
    have hb : b = [] := List.eq_nil_of_length_eq_zero (by omega)
    subst ha; subst hb
    exact ⟨0, Nat.zero_le _, .nil⟩
  | succ N ih =>
    intro a c b n m hN h1 h2
    cases h1 with
    | nil => exact ⟨m, by omega, h2⟩
    | drop x h1 =>
      simp only [List.length_cons] at hN
      obtain ⟨k, hk, h⟩ := ih (by omega) h1 h2
      exact ⟨k + 1, by omega, .drop x h⟩
    | keep x h1 =>
      cases h2 with
      | keep _ h2 =>
        simp only [List.length_cons] at hN
        obtain ⟨k, hk, h⟩ := ih (by omega) h1 h2
        exact ⟨k, by omega, .keep x h⟩
      | turn _ y h2 =>
        simp only [List.length_cons] at hN
        obtain ⟨k, hk, h⟩ := ih (by omega) h1 h2
        exact ⟨k + 1, by omega, .turn x y h⟩
      | drop _ h2 =>
        simp only [List.length_cons] at hN
        obtain ⟨k, hk, h⟩ := ih (by omega) h1 h2
        exact ⟨k + 1, by omega, .drop x h⟩
      | put y h2 =>
        simp only [List.length_cons] at hN
        obtain ⟨k, hk, h⟩ := ih (by simp only [List.length_cons]; omega) (Ed.keep x h1) h2
        exact ⟨k + 1, by omega, .put y h⟩
    | turn x z h1 =>
      cases h2 with
      | keep _ h2 =>
        simp only [List.length_cons] at hN
        obtain ⟨k, hk, h⟩ := ih (by omega) h1 h2
        exact ⟨k + 1, by omega, .turn x z h⟩
      | turn _ y h2 =>
        simp only [List.length_cons] at hN
        obtain ⟨k, hk, h⟩ := ih (by omega) h1 h2
        exact ⟨k + 1, by omega, .turn x y h⟩
      | drop _ h2 =>
        simp only [List.length_cons] at hN
        obtain ⟨k, hk, h⟩ := ih (by omega) h1 h2
        exact ⟨k + 1, by omega, .drop x h⟩
      | put y h2 =>
        simp only [List.length_cons] at hN
        obtain ⟨k, hk, h⟩ := ih (by simp only [List.length_cons]; omega) (Ed.turn x z h1) h2
        exact ⟨k + 1, by omega, .put y h⟩
    | put z h1 =>
      cases h2 with
      | keep _ h2 =>
        simp only [List.length_cons] at hN
        obtain ⟨k, hk, h⟩ := ih (by omega) h1 h2
        exact ⟨k + 1, by omega, .put z h⟩
      | turn _ y h2 =>
        simp only [List.length_cons] at hN
        obtain ⟨k, hk, h⟩ := ih (by omega) h1 h2
        exact ⟨k + 1, by omega, .put y h⟩
      | drop _ h2 =>
        simp only [List.length_cons] at hN
        obtain ⟨k, hk, h⟩ := ih (by omega) h1 h2
        exact ⟨k, by omega, h⟩
      | put y h2 =>
        simp only [List.length_cons] at hN
        obtain ⟨k, hk, h⟩ := ih (by simp only [List.length_cons]; omega) (Ed.put z h1) h2
        exact ⟨k + 1, by omega, .put y h⟩
/-- by way of a third letter no fewer -/
theorem cost_way {a b c : List ByteArray} (hb : ∀ s ∈ b, wordM s = true) (hc : ∀ s ∈ c, wordM s = true) : (costM a (givenM b)).2 ≤ (costM a (givenM c)).2 + (costM c (givenM b)).2 := by
  obtain ⟨N, hN⟩ : ∃ N, N = a.length + b.length + c.length + 1 := ⟨_, rfl⟩
  rw [cost_far N a b (by omega) hb, cost_far N a c (by omega) hc, cost_far N c b (by omega) hb]
  obtain ⟨k, hk, h⟩ := Ed.comp _ (Nat.le_refl _) (ed_far N a c (by omega)) (ed_far N c b (by omega))
  exact Nat.le_trans (far_le h N (by omega)) hk
end Go.Proofs.YtnfbhicoknpojaaGreat
