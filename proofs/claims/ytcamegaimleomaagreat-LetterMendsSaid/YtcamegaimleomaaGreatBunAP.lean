/-
  LetterRoom: with more room no fewer forms; rows of parts and of forms that the call makes itself, as a shelf.
  LetterRoom: the parts of its form are copied.
  LetterRoom, its last loop: what was a form still is.
  THE RULE FOR A REGION THAT DRAWS ITS ORDER, in which several operations may write: of each is told how it may turn the memory, and what is said of the others is kept by those that they need not wait for. Over any program.
  A LETTER WITHOUT ONE WORD, OR WITH ANOTHER ONE IN ITS PLACE, as the statements make it.
  A LETTER THAT IS MADE OF A FORM needs no corrections; one correction more or less, plain.
  LetterMended: a letter is of a form just if Mend says 0; no letter of the form is nearer than Mend says; one correction changes Mend by at most 1.
-/
import Derived.Test.YtcamegaimleomaaGreatBunAO
import Derived.Test.YtcamegaimleomaaGreatBunAM
import Derived.Test.YtcamegaimleomaaGreatBunAJ
import Derived.Test.YtcamegaimleomaaGreatBunAL
import Derived.Test.YtcamegaimleomaaGreatBunAD
namespace Go.Proofs.YtcamegaimleomaaGreat
set_option linter.unusedSimpArgs false
set_option linter.unusedVariables false
open Go.RowKit
set_option linter.unusedVariables false
set_option linter.unusedSimpArgs false

theorem own_cells {w : World} {base : Nat} {e : TypeId} {sz n : Nat} {v : Value} {cs : List Value} (h : w.ownsRow base e sz v n cs) (hn : 0 < n) :
    ∃ g cap, v = .slice (some ⟨g, 0, none⟩) n cap ∧ base ≤ g ∧ g < w.heap.size ∧ n ≤ cap ∧ cap ≤ 9223372036854775807 ∧ (∀ j, j < n * sz → w.cell? ⟨g, j, none⟩ = cs[j]?) ∧ ∀ j, w.frozen? ⟨g, j, none⟩ = false := by
  have hlt := h.lt
  have h0 := h
  rcases h.2 with ⟨rfl, hz⟩ | ⟨g, cap, cur, rfl, hb, hg, hnc, hcm, -⟩
  · omega
  · obtain ⟨k1, k2⟩ := hlt g rfl
    exact ⟨g, cap, rfl, k1, k2, hnc, by simpa [maxLen] using hcm, fun j hj => World.ownsRow.cellAt h0 j hj, fun j => World.ownsRow.frozenAt h0 j⟩
/-- the cells of parts that lie in memory -/
def partF (us : Nat → Value) (ps : Nat → Part) (j : Nat) : Value := if j % 3 = 0 then us (j / 3) else if j % 3 = 1 then .int .i64 (ps (j / 3)).lo else .int .i64 (ps (j / 3)).hi
def partsN (l : List Part) (j : Nat) : Part := l.getD j ⟨[], 0, 0⟩
theorem parts_cells {w : World} {pb po c : Nat} {l : List Part} (h : PartsAt w (.slice (some ⟨pb, po, none⟩) l.length c) l) :
    ∃ us : Nat → Value, (∀ j, j < l.length * 3 → w.cell? ⟨pb, po + j, none⟩ = some (partF us (partsN l) j)) ∧ (∀ j, j < l.length * 3 → (partF us (partsN l) j).oneCell' = true) ∧ (∀ j < l.length, StrsAt w (us j) (partsN l j).words) ∧ ∀ j < l.length, I64 (partsN l j).lo ∧ I64 (partsN l j).hi := by
  have hex : ∀ i : Fin l.length, ∃ u, w.cell? ⟨pb, po + i.1 * 3, none⟩ = some u ∧ StrsAt w u l[i.1].words ∧ w.cell? ⟨pb, po + i.1 * 3 + 1, none⟩ = some (.int .i64 l[i.1].lo) ∧ w.cell? ⟨pb, po + i.1 * 3 + 2, none⟩ = some (.int .i64 l[i.1].hi) ∧ I64 l[i.1].lo ∧ I64 l[i.1].hi := fun i => by
    obtain ⟨b, o, e, ⟨u, h1, h2⟩, h3, h4, h5, h6⟩ := h.get i.2
    obtain ⟨rfl, rfl, -⟩ := Addr.mk.inj (Option.some.inj e)
    exact ⟨u, h1, h2, h3, h4, h5, h6⟩
  obtain ⟨f, hf⟩ := Classical.axiomOfChoice hex
  have hp : ∀ i (hi : i < l.length), partsN l i = l[i] := fun i hi => by unfold partsN; rw [List.getD_eq_getElem?_getD, List.getElem?_eq_getElem hi]; rfl
  refine ⟨fun j => if h : j < l.length then f ⟨j, h⟩ else .bool false, fun j hj => ?_, fun j hj => ?_, fun j hj => ?_, fun j hj => ?_⟩
  · have hi : j / 3 < l.length := by omega
    obtain ⟨h1, h2, h3, h4, -⟩ := hf ⟨j / 3, hi⟩
    unfold partF
    rw [hp _ hi]
    have : j % 3 = 0 ∨ j % 3 = 1 ∨ j % 3 = 2 := by omega
    rcases this with e | e | e
    · rw [if_pos e, show po + j = po + j / 3 * 3 from by omega, h1]
      simp [hi]
    · rw [if_neg (by omega), if_pos e, show po + j = po + j / 3 * 3 + 1 from by omega, h3]
    · rw [if_neg (by omega), if_neg (by omega), show po + j = po + j / 3 * 3 + 2 from by omega, h4]
  · have hi : j / 3 < l.length := by omega
    obtain ⟨h1, h2, -⟩ := hf ⟨j / 3, hi⟩
    unfold partF
    split
    · simp only [hi, dif_pos]
      obtain ⟨a, c, e, -⟩ := h2.shape
      rw [e]; rfl
    · split <;> rfl
  · obtain ⟨h1, h2, -⟩ := hf ⟨j, hj⟩
    simp only [hj, dif_pos]
    rw [hp _ hj]
    exact h2
  · obtain ⟨-, -, -, -, h5, h6⟩ := hf ⟨j, hj⟩
    rw [hp _ hj]
    exact ⟨h5, h6⟩
theorem PRow.of_cells {w : World} {g m : Nat} {us : Nat → Value} {ps : Nat → Part} (h : ∀ j, j < m * 3 → w.cell? ⟨g, j, none⟩ = some (partF us ps j)) (hf : ∀ j, w.frozen? ⟨g, j, none⟩ = false) : PRow w g m us ps := fun j hj => by
  refine ⟨?_, ?_, ?_, hf _, hf _, hf _⟩
  · rw [h _ (by omega)]
    unfold partF
    rw [if_pos (by omega), show j * 3 / 3 = j from by omega]
  · rw [h _ (by omega)]
    unfold partF
    rw [if_neg (by omega), if_pos (by omega), show (j * 3 + 1) / 3 = j from by omega]
  · rw [h _ (by omega)]
    unfold partF
    rw [if_neg (by omega), if_neg (by omega), show (j * 3 + 2) / 3 = j from by omega]
theorem PRow.parts {w : World} {g cap : Nat} {us : Nat → Value} {l : List Part} {F : Part → Part} (h : PRow w g l.length us (fun j => F (partsN l j))) (hs : ∀ j < l.length, StrsAt w (us j) (F (partsN l j)).words) (hI : ∀ p ∈ l, I64 (F p).lo ∧ I64 (F p).hi) (hc : l.length ≤ cap) (hc2 : cap ≤ 9223372036854775807) :
    PartsAt w (.slice (some ⟨g, 0, none⟩) l.length cap) (l.map F) := by
  refine ⟨_, _, by rw [List.length_map], by rw [List.length_map]; exact hc, hc2, fun i hi => ⟨g, 0, rfl, ?_⟩⟩
  rw [List.length_map] at hi
  obtain ⟨h1, h2, h3, -⟩ := h i hi
  have hp : partsN l i = l[i] := by unfold partsN; rw [List.getD_eq_getElem?_getD, List.getElem?_eq_getElem hi]; rfl
  have hsi := hs i hi
  simp only [hp] at h2 h3 hsi
  rw [List.getElem_map, Nat.zero_add]
  exact ⟨⟨_, h1, hsi⟩, h2, h3, hI _ (List.getElem_mem hi)⟩
/-- .. and of forms -/
def formF (ns : Nat → ByteArray) (pv : Nat → Value) (j : Nat) : Value := if j % 2 = 0 then .string (ns (j / 2)) else pv (j / 2)
def formsN (l : List Form) (j : Nat) : Form := l.getD j ⟨ByteArray.empty, []⟩
theorem formsN_is {l : List Form} {i : Nat} (hi : i < l.length) : formsN l i = l[i] := by unfold formsN; rw [List.getD_eq_getElem?_getD, List.getElem?_eq_getElem hi]; rfl
theorem forms_cells {w : World} {pb po c : Nat} {l : List Form} (h : FormsAt w (.slice (some ⟨pb, po, none⟩) l.length c) l) :
    ∃ pv : Nat → Value, (∀ j, j < l.length * 2 → w.cell? ⟨pb, po + j, none⟩ = some (formF (fun j => (formsN l j).name) pv j)) ∧ (∀ j, j < l.length * 2 → (formF (fun j => (formsN l j).name) pv j).oneCell' = true) ∧ (∀ j < l.length, PartsAt w (pv j) (formsN l j).parts) ∧ ∀ j < l.length, (formsN l j).name.size ≤ 9223372036854775807 := by
  have hex : ∀ i : Fin l.length, ∃ u, w.cell? ⟨pb, po + i.1 * 2, none⟩ = some (.string l[i.1].name) ∧ w.cell? ⟨pb, po + i.1 * 2 + 1, none⟩ = some u ∧ PartsAt w u l[i.1].parts ∧ l[i.1].name.size ≤ 9223372036854775807 := fun i => by
    obtain ⟨b, o, e, h1, h2, u, h3, h4⟩ := h.get i.2
    obtain ⟨rfl, rfl, -⟩ := Addr.mk.inj (Option.some.inj e)
    exact ⟨u, h1, h3, h4, h2⟩
  obtain ⟨f, hf⟩ := Classical.axiomOfChoice hex
  refine ⟨fun j => if h : j < l.length then f ⟨j, h⟩ else .bool false, fun j hj => ?_, fun j hj => ?_, fun j hj => ?_, fun j hj => ?_⟩
  · have hi : j / 2 < l.length := by omega
    obtain ⟨h1, h2, -⟩ := hf ⟨j / 2, hi⟩
    unfold formF
    have : j % 2 = 0 ∨ j % 2 = 1 := by omega
    rcases this with e | e
    · rw [if_pos e, show po + j = po + j / 2 * 2 from by omega, h1]
      show some (Value.string l[j / 2].name) = some (Value.string (formsN l (j / 2)).name)
      rw [formsN_is hi]
    · rw [if_neg (by omega), show po + j = po + j / 2 * 2 + 1 from by omega, h2]
      simp [hi]
  · have hi : j / 2 < l.length := by omega
    obtain ⟨h1, h2, h3, -⟩ := hf ⟨j / 2, hi⟩
    unfold formF
    split
    · rfl
    · simp only [hi, dif_pos]
      obtain ⟨a, c, e, -⟩ := h3.shape
      rw [e]; rfl
  · obtain ⟨h1, h2, h3, -⟩ := hf ⟨j, hj⟩
    simp only [hj, dif_pos]
    rw [formsN_is hj]
    exact h3
  · obtain ⟨-, -, -, h4⟩ := hf ⟨j, hj⟩
    rw [formsN_is hj]
    exact h4
/-- a shelf, one form of which has more room, as it lies in rows of the call's own -/
theorem more_shelf {w : World} {g cap k : Nat} {s : Shelf} {a b : Int} {pv : Nat → Value} {nv : Value} (hw : I64 s.width) (hk : k < s.forms.length) (hc : s.forms.length ≤ cap) (hc2 : cap ≤ 9223372036854775807)
    (hn : ∀ j < s.forms.length, w.cell? ⟨g, j * 2, none⟩ = some (.string (formsN s.forms j).name)) (hs : ∀ j < s.forms.length, (formsN s.forms j).name.size ≤ 9223372036854775807)
    (hv : ∀ j < s.forms.length, j ≠ k → w.cell? ⟨g, j * 2 + 1, none⟩ = some (pv j)) (hp : ∀ j < s.forms.length, PartsAt w (pv j) (formsN s.forms j).parts)
    (hv2 : w.cell? ⟨g, k * 2 + 1, none⟩ = some nv) (hp2 : PartsAt w nv ((formsN s.forms k).parts.map (morePart a b))) :
    ShelfAt w (.agg #[.int .i64 s.width, .slice (some ⟨g, 0, none⟩) s.forms.length cap]) (moreShelf a b s k) := by
  have hlen : (moreShelf a b s k).forms.length = s.forms.length := List.length_modify ..
  refine ⟨_, rfl, hw, _, _, by rw [hlen], by rw [hlen]; exact hc, hc2, fun i hi => ⟨g, 0, rfl, ?_⟩⟩
  have hi' : i < s.forms.length := by omega
  have hget : (moreShelf a b s k).forms[i] = if k = i then moreForm a b (s.forms[i]'hi') else s.forms[i]'hi' := List.getElem_modify ..
  rw [hget, Nat.zero_add]
  have hni := hn i hi'
  have hsi := hs i hi'
  rw [formsN_is hi'] at hni hsi
  by_cases e : k = i
  · subst e
    rw [if_pos rfl]
    rw [formsN_is hi'] at hp2
    exact ⟨hni, hsi, nv, hv2, hp2⟩
  · rw [if_neg e]
    have := hp i hi'
    rw [formsN_is hi'] at this
    exact ⟨hni, hsi, pv i, hv i hi' (fun h => e h.symm), this⟩
/-- with more room no fewer forms -/
theorem ofTo_nat (fs : List Form) (l : List ByteArray) : ∀ (k : Nat), ∀ x ∈ ofTo fs l k, ∃ i : Nat, x = i ∧ i < k
  | 0, x, h => by simp [ofTo] at h
  | k + 1, x, h => by
    rw [ofTo, List.mem_append] at h
    rcases h with h | h
    · obtain ⟨i, e, hi⟩ := ofTo_nat fs l k x h
      exact ⟨i, e, by omega⟩
    · split at h
      · exact ⟨k, by simpa using h, by omega⟩
      · simp at h
theorem more_cost {a b : Int} (ha : 0 ≤ a) (hb : 0 ≤ b) {s : Shelf} (h : errS s = 0) (n : Nat) (l : List ByteArray) (i : Nat) (hi : i < s.forms.length) : costOf (moreShelf a b s n).forms l i ≤ costOf s.forms l i := by
  have hlen : (moreShelf a b s n).forms.length = s.forms.length := List.length_modify ..
  have hget : (moreShelf a b s n).forms[i]'(by omega) = if n = i then moreForm a b s.forms[i] else s.forms[i] := List.getElem_modify ..
  unfold costOf
  rw [List.getElem?_eq_getElem hi, List.getElem?_eq_getElem (by omega : i < (moreShelf a b s n).forms.length), hget]
  simp only
  split
  · exact moreForm_cost ha hb ((errS_ok h).forms _ (List.getElem_mem hi)).parts l
  · exact Nat.le_refl _
theorem of_more {a b : Int} (ha : 0 ≤ a) (hb : 0 ≤ b) {s : Shelf} (h : errS s = 0) (n : Nat) (l : List ByteArray) : ∀ x ∈ ofM s l, x ∈ ofM (moreShelf a b s n) l := fun x hx => by
  have hlen : (moreShelf a b s n).forms.length = s.forms.length := List.length_modify ..
  obtain ⟨i, rfl, hi⟩ := ofTo_nat _ _ _ _ hx
  have h1 := cost_of (errS_ok h) l i hi
  have h2 := cost_of (errS_ok (moreShelf_ok ha hb h n)) l i (by omega)
  rw [decide_eq_true hx] at h1
  have h3 : (costOf s.forms l i : Int) = 0 := by simpa using h1.symm
  have h4 := more_cost ha hb h n l i hi
  have h5 : costOf (moreShelf a b s n).forms l i = 0 := by omega
  rw [h5] at h2
  exact of_decide_eq_true h2
theorem mend_more {a b : Int} (ha : 0 ≤ a) (hb : 0 ≤ b) {s : Shelf} (h : errS s = 0) {l : List ByteArray} (hl : letterErrL l = 0) (n : Nat) (hn : n < s.forms.length) :
    openForErrM s n l = 0 ∧ openForErrM (moreShelf a b s n) n l = 0 ∧ mendM (moreShelf a b s n) n l ≤ mendM s n l := by
  have hlen : (moreShelf a b s n).forms.length = s.forms.length := List.length_modify ..
  obtain ⟨h1, h2⟩ := mend_cost h hl n hn
  obtain ⟨h3, h4⟩ := mend_cost (moreShelf_ok ha hb h n) hl n (by omega)
  exact ⟨h1, h3, by rw [h2, h4]; exact more_cost ha hb h n l n hn⟩
end Go.Proofs.YtcamegaimleomaaGreat

namespace Go.Proofs.YtcamegaimleomaaGreat
set_option linter.unusedSimpArgs false
set_option linter.unusedVariables false
open Go.RowKit
set_option linter.unusedVariables false
set_option linter.unusedSimpArgs false

theorem run_append_none {P : Program} (w : World) (base : Nat) (t ty e : TypeId) (i : TypeInfo) (size : Nat) (ht : P.underlying t = some (.slice e)) (hi : P.info? e = some i)
    (v : Value) (n : Nat) (xs : List Value) (c : Nat) (hown : w.ownsRow base e size v n xs) :
    (Builtin.append_ #[t, t] ty #[v, .slice none 0 c]).run P w = .ok v w := by
  rcases hown.2 with ⟨rfl, rfl⟩ | ⟨g, cap, cur, rfl, _, _, hnc, _⟩
  · simp [Builtin.append_, run_underlying ht, sizeOf, typeInfo, hi, Builtin.lenOf, Builtin.firstCells]
  · simp [Builtin.append_, run_underlying ht, sizeOf, typeInfo, hi, Builtin.lenOf, Builtin.firstCells, hnc, storeCells]
theorem wpList_append_none {P : Program} {w : World} {ops : Array Oper} {rest : List Oper} {o : Oper} {a : Act} {Q : Exit → Act → World → Prop} (hgd : o.guard = none) (s x : Operand) (t : TypeId)
    (ho : o.op = .call { callee := .builtin .append, args := #[s, x], argTypes := #[t, t] })
    (base : Nat) (e : TypeId) (i : TypeInfo) (size : Nat) (ht : P.underlying t = some (.slice e)) (hi : P.info? e = some i)
    (v : Value) (n : Nat) (xs : List Value) (c : Nat) (hs : a.eval s = v) (hown : w.ownsRow base e size v n xs) (hx : a.eval x = .slice none 0 c)
    (h : wpList P ops Q rest (a.put o.dst v) w) : wpList P ops Q (o :: rest) a w := by
  refine wpList_plain hgd fun K hK => ?_
  have hrun := run_append_none (P := P) w base t o.type e i size ht hi v n xs c hown
  unfold Oper.wp
  simp [execOp, ho, resolve, invoke, builtin, hs, hx, hrun, Result.andThen]
  exact hK _ _ h
theorem own_cells0 {w : World} {base : Nat} {e : TypeId} {sz n : Nat} {v : Value} {cs : List Value} (h : w.ownsRow base e sz v n cs) (hv : v ≠ .slice none 0 0) :
    ∃ g cap, v = .slice (some ⟨g, 0, none⟩) n cap ∧ base ≤ g ∧ g < w.heap.size ∧ n ≤ cap ∧ cap ≤ 9223372036854775807 ∧ (∀ j, j < n * sz → w.cell? ⟨g, j, none⟩ = cs[j]?) ∧ ∀ j, w.frozen? ⟨g, j, none⟩ = false := by
  have hlt := h.lt
  have h0 := h
  rcases h.2 with ⟨rfl, hz⟩ | ⟨g, cap, cur, rfl, hb, hg, hnc, hcm, -⟩
  · exact absurd rfl hv
  · obtain ⟨k1, k2⟩ := hlt g rfl
    exact ⟨g, cap, rfl, k1, k2, hnc, by simpa [maxLen] using hcm, fun j hj => World.ownsRow.cellAt h0 j hj, fun j => World.ownsRow.frozenAt h0 j⟩
theorem infoPartL : (Tryz.prog.info? 59).map (fun i => (i.zero, i.size, i.bytes)) = some (some (.agg #[.slice none 0 0, .int .i64 0, .int .i64 0]), 3, 40) := by kernel_rfl
theorem range_get (F : Nat → Value) (n : Nat) : ∀ j, j < n → ((List.range n).map F)[j]? = some (F j) := fun j hj => by
  rw [List.getElem?_map, List.getElem?_range hj]; rfl
theorem range_news {w : World} {b o n : Nat} {F : Nat → Value} (h : ∀ j, j < n → w.cell? ⟨b, o + j, none⟩ = some (F j)) : ∀ j u, ((List.range n).map F)[j]? = some u → w.cell? ((⟨b, o, none⟩ : Addr).add j) = some u := fun j u hj => by
  have hlt : j < n := by
    rcases Nat.lt_or_ge j n with h1 | h1
    · exact h1
    · rw [List.getElem?_eq_none (by simpa using h1)] at hj; cases hj
  rw [range_get F n j hlt] at hj
  rw [← hj, show (⟨b, o, none⟩ : Addr).add j = ⟨b, o + j, none⟩ by unfold Addr.add; split <;> simp_all]
  exact h j hlt
theorem range_one {n : Nat} {F : Nat → Value} (h : ∀ j, j < n → (F j).oneCell' = true) : ∀ u ∈ (List.range n).map F, u.oneCell' = true := fun u hu => by
  obtain ⟨j, hj, rfl⟩ := List.mem_map.1 hu
  exact h j (List.mem_range.1 hj)
/-- what region 8 leaves -/
structure R8Post (w0 w : World) (B3 : Nat) (l : List Part) (g cap : Nat) (us : Nat → Value) (wc : World) : Prop where
  c : wc.cell? ⟨B3, 1, none⟩ = some (.slice (some ⟨g, 0, none⟩) l.length cap)
  lt : B3 < g
  z : g < wc.heap.size
  le : l.length ≤ cap
  m : cap ≤ 9223372036854775807
  row : PRow wc g l.length us (partsN l)
  s : ∀ j < l.length, StrsAt w0 (us j) (partsN l j).words
  I : ∀ j < l.length, I64 (partsN l j).lo ∧ I64 (partsN l j).hi
  b : Below B3 w wc
  d : ∀ v, w.cell? ⟨B3, 0, none⟩ = some v → wc.cell? ⟨B3, 0, none⟩ = some v
set_option maxRecDepth 100000 in
set_option maxHeartbeats 2000000 in
theorem room_r8 {u0 u1 u2 u3 u4 u5 u6 u7 u8 u9 u10 u12 u13 u14 u15 u16 u17 u18 u19 u20 u21 u22 u23 u24 u25 u26 u27 u28 u29 u30 u31 u32 u33 u34 u35 u36 u37 u38 u39 u40 u41 u42 u43 u44 u45 u46 u47 u48 u49 u50 u51 u52 u53 u54 u55 u56 u57 u58 u59 u60 u61 u62 u63 u64 u65 u66 u67 u68 u69 u70 u71 u72 u73 u74 u75 u76 u77 u78 u79 u80 u81 u82 u83 u84 u85 u86 u87 u88 u89 u90 u91 u92 u93 u94 u95 u96 u97 u98 u99 u100 u101 u102 u103 u104 u105 u106 u107 u108 u109 u110 u111 u112 u113 u114 u115 u116 u117 u118 u119 u120 u121 u122 u123 u124 u125 u126 u127 u128 u129 u130 u131 u132 u133 u134 u135 u136 u137 u138 u139 u140 u141 u142 u143 u144 u145 u146 u147 u148 u149 u150 u151 u152 u153 u154 u155 u156 u157 u158 u159 u160 u161 u162 u163 u164 u165 u166 u167 u168 u169 u170 : Value} {B3 pc : Nat} {pa : Option Addr} {l : List Part} {w0 w : World} (hx0 : Ext w0 w) (h1 : w.cell? ⟨B3, 1, none⟩ = some (.slice pa l.length pc)) (hf : w.frozen? ⟨B3, 1, none⟩ = false) (hp : PartsAt w0 (.slice pa l.length pc) l) (hn : l.length ≤ 5) (Q : Exit → Act → World → Prop)
    (hQ : ∀ (v63 v64 v65 v66 v67 : Value) (wc : World) (g cap : Nat) (us : Nat → Value), R8Post w0 w B3 l g cap us wc → Q .normal ⟨#[u0, u1, u2, u3, u4, u5, u6, u7, u8, u9, u10, .pointer (some ⟨B3, 0, none⟩), u12, u13, u14, u15, u16, u17, u18, u19, u20, u21, u22, u23, u24, u25, u26, u27, u28, u29, u30, u31, u32, u33, u34, u35, u36, u37, u38, u39, u40, u41, u42, u43, u44, u45, u46, u47, u48, u49, u50, u51, u52, u53, u54, u55, u56, u57, u58, u59, u60, u61, u62, v63, v64, v65, v66, v67, u68, u69, u70, u71, u72, u73, u74, u75, u76, u77, u78, u79, u80, u81, u82, u83, u84, u85, u86, u87, u88, u89, u90, u91, u92, u93, u94, u95, u96, u97, u98, u99, u100, u101, u102, u103, u104, u105, u106, u107, u108, u109, u110, u111, u112, u113, u114, u115, u116, u117, u118, u119, u120, u121, u122, u123, u124, u125, u126, u127, u128, u129, u130, u131, u132, u133, u134, u135, u136, u137, u138, u139, u140, u141, u142, u143, u144, u145, u146, u147, u148, u149, u150, u151, u152, u153, u154, u155, u156, u157, u158, u159, u160, u161, u162, u163, u164, u165, u166, u167, u168, u169, u170], []⟩ wc) :
    Code.wp Tryz.prog (regionOf Tryz.f6 8) Q ⟨#[u0, u1, u2, u3, u4, u5, u6, u7, u8, u9, u10, .pointer (some ⟨B3, 0, none⟩), u12, u13, u14, u15, u16, u17, u18, u19, u20, u21, u22, u23, u24, u25, u26, u27, u28, u29, u30, u31, u32, u33, u34, u35, u36, u37, u38, u39, u40, u41, u42, u43, u44, u45, u46, u47, u48, u49, u50, u51, u52, u53, u54, u55, u56, u57, u58, u59, u60, u61, u62, u63, u64, u65, u66, u67, u68, u69, u70, u71, u72, u73, u74, u75, u76, u77, u78, u79, u80, u81, u82, u83, u84, u85, u86, u87, u88, u89, u90, u91, u92, u93, u94, u95, u96, u97, u98, u99, u100, u101, u102, u103, u104, u105, u106, u107, u108, u109, u110, u111, u112, u113, u114, u115, u116, u117, u118, u119, u120, u121, u122, u123, u124, u125, u126, u127, u128, u129, u130, u131, u132, u133, u134, u135, u136, u137, u138, u139, u140, u141, u142, u143, u144, u145, u146, u147, u148, u149, u150, u151, u152, u153, u154, u155, u156, u157, u158, u159, u160, u161, u162, u163, u164, u165, u166, u167, u168, u169, u170], []⟩ w := by
  conv => arg 2; whnf
  obtain ⟨j0, hj, hj0, hj1, hj2⟩ := info_parts infoPartL
  have row0 : (w.alloc (.cells #[] 59)).ownsRow w.heap.size 59 3 (.slice (some ⟨w.heap.size, 0, none⟩) 0 0) 0 [] := World.ownsRow_made w #[] 0 (Nat.le_refl _) (by unfold maxLen; omega) rfl
  have z1 := cell_lt h1
  have HQ := Lib.hid hQ
  clear hQ
  by_cases h0 : l.length = 0
  · have hl : l = [] := List.eq_nil_of_length_eq_zero h0
    subst hl
    cases pa with
    | none =>
      go_wp2_with (at_builtin; (refine wpList_append_none rfl _ _ 53 rfl w.heap.size 59 j0 3 Tryz.underlying53 hj (.slice (some ⟨w.heap.size, 0, none⟩) 0 0) 0 [] pc rfl row0 rfl ?_))
      exact HQ.out _ _ _ _ _ _ w.heap.size 0 (fun _ => .bool false) ⟨(ext_alloc _ _).cell (set_cell h1 _), z1, by simp [World.setCell], Nat.le_refl _, by omega, fun j hj => absurd hj (by simp), fun j hj => absurd hj (by simp), fun j hj => absurd hj (by simp), ((Below.refl _ _).setCell (p := ⟨B3, 1, none⟩) (Nat.le_refl _) _).alloc (by simp [World.setCell]; omega) _, fun v hv => (ext_alloc _ _).cell (set_other hv (.inr (by simp)) _)⟩
    | some ad =>
      go_wp2_with (at_builtin; go_loud (refine wpList_append_own_at _ rfl _ _ 53 rfl w.heap.size 59 j0 (.agg #[.slice none 0 0, .int .i64 0, .int .i64 0]) 3 40 Tryz.underlying53 hj hj0 hj1 hj2 rfl (by decide) (.slice (some ⟨w.heap.size, 0, none⟩) 0 0) 0 [] rfl row0 ad 0 pc [] rfl rfl (by simp) (by simp) (by unfold maxLen; omega) (by omega) (by simp) ?_; intro v1 w6 hown1 hgrow1 hnil _; have x6 : Ext w w6 := Ext.grown ((Ext.refl w).alloc _) hgrow1 (fun k hk => by cases hk; exact Nat.le_refl _); have m1' := x6.cell h1; have mf' := (x6.frozen z1).trans hf; obtain ⟨g1, cap1, rfl, hg1, hg1z, hc1, hc1m, hgc, hgf⟩ := own_cells0 hown1 (fun e => by have := hnil.1 e; simp at this)))
      exact HQ.out _ _ _ _ _ _ g1 cap1 (fun _ => .bool false) ⟨set_cell m1' _, by omega, by simpa [World.setCell] using hg1z, Nat.zero_le _, hc1m, fun j hj => absurd hj (by simp), fun j hj => absurd hj (by simp), fun j hj => absurd hj (by simp), (Below.mono x6 (Nat.le_of_lt z1)).setCell (p := ⟨B3, 1, none⟩) (Nat.le_refl _) _, fun v hv => set_other (x6.cell hv) (.inr (by simp)) _⟩
  · obtain ⟨pb, po, rfl, -⟩ := hp.get (i := 0) (by omega)
    obtain ⟨us, c1, c2, c3, c4⟩ := parts_cells hp
    have hnews := range_news (w := w.alloc (.cells #[] 59)) (b := pb) (o := po) (fun j hj => (ext_alloc _ _).cell (hx0.cell (c1 j hj)))
    have hone := range_one c2
    obtain ⟨-, hc, hcm⟩ := hp.len
    have Hnews := Lib.hid hnews
    have Hone := Lib.hid hone
    have C3 := Lib.hid c3
    have C4 := Lib.hid c4
    clear hp c1 c2 c3 c4 hnews hone
    go_wp2_with (at_builtin; go_loud (refine wpList_append_own_at _ rfl _ _ 53 rfl w.heap.size 59 j0 (.agg #[.slice none 0 0, .int .i64 0, .int .i64 0]) 3 40 Tryz.underlying53 hj hj0 hj1 hj2 rfl (by decide) (.slice (some ⟨w.heap.size, 0, none⟩) 0 0) 0 [] rfl row0 ⟨pb, po, none⟩ l.length pc _ rfl (by rw [List.length_map, List.length_range]) Hnews.out Hone.out (by unfold maxLen; omega) (by omega) (by simp) ?_; intro v1 w6 hown1 hgrow1 _ _; have x6 : Ext w w6 := Ext.grown ((Ext.refl w).alloc _) hgrow1 (fun k hk => by cases hk; exact Nat.le_refl _); have m1' := x6.cell h1; have mf' := (x6.frozen z1).trans hf; obtain ⟨g1, cap1, rfl, hg1, hg1z, hc1, hc1m, hgc, hgf⟩ := own_cells hown1 (by omega)))
    have hrow : PRow w6 g1 l.length us (partsN l) := PRow.of_cells (fun j hj => by rw [hgc j (by simpa using hj), List.nil_append, range_get _ _ j hj]) hgf
    exact HQ.out _ _ _ _ _ _ g1 cap1 us ⟨by first | exact set_cell m1' _ | (have := set_cell m1' (.slice (some ⟨g1, 0, none⟩) (0 + l.length) cap1); simpa using this), by omega, by simpa [World.setCell] using hg1z, by omega, hc1m, hrow.other (by show B3 ≠ g1; omega) _, C3.out, C4.out, (Below.mono x6 (Nat.le_of_lt z1)).setCell (p := ⟨B3, 1, none⟩) (Nat.le_refl _) _, fun v hv => set_other (x6.cell hv) (.inr (by simp)) _⟩
end Go.Proofs.YtcamegaimleomaaGreat

namespace Go.Proofs.YtcamegaimleomaaGreat
set_option linter.unusedSimpArgs false
set_option linter.unusedVariables false
open Go.RowKit
set_option linter.unusedVariables false
set_option linter.unusedSimpArgs false

set_option maxRecDepth 100000 in
set_option maxHeartbeats 2000000 in
theorem room_b2 {u0 u1 u2 u3 u4 u5 u6 u7 u8 u9 u10 u11 u12 u13 u15 u17 u18 u19 u20 u21 u23 u24 u25 u26 u27 u28 u29 u30 u31 u32 u33 u34 u35 u36 u37 u38 u39 u40 u41 u42 u43 u44 u45 u46 u47 u48 u49 u50 u51 u52 u53 u54 u55 u56 u57 u58 u59 u60 u61 u62 u63 u64 u65 u66 u67 u68 u69 u70 u71 u72 u73 u74 u75 u76 u77 u78 u79 u80 u81 u82 u83 u84 u85 u86 u87 u88 u89 u90 u91 u92 u93 u94 u95 u96 u97 u98 u99 u100 u101 u102 u103 u104 u105 u106 u107 u108 u109 u110 u111 u112 u113 u114 u115 u116 u117 u118 u119 u120 u121 u122 u123 u124 u125 u126 u127 u128 u129 u130 u131 u132 u133 u134 u135 u136 u137 u138 u139 u140 u141 u142 u143 u144 u145 u146 u147 u148 u149 u150 u151 u152 u153 u154 u155 u156 u157 u158 u159 u160 u161 u162 u163 u164 u165 u166 u167 u168 u169 u170 : Value} {aa ba : Option Addr} {ac bc : Nat} {oa ob : List Int} {w : World} (ho : IntsAt w (.slice aa oa.length ac) oa) (ho2 : IntsAt w (.slice ba ob.length bc) ob) (hom : ∀ x ∈ oa, x ∈ ob) (hol : oa.length ≤ 4) (Q : Exit → Act → World → Prop)
    (hQ : ∀ (v6 v22 v157 v158 v159 v160 v161 v162 v163 v164 v165 v166 v167 v168 v169 : Value) (wc : World), Ext w wc → Q .normal ⟨#[u0, u1, u2, u3, u4, u5, v6, u7, u8, u9, u10, u11, u12, u13, .slice aa oa.length ac, u15, .slice ba ob.length bc, u17, u18, u19, u20, u21, v22, u23, u24, u25, u26, u27, u28, u29, u30, u31, u32, u33, u34, u35, u36, u37, u38, u39, u40, u41, u42, u43, u44, u45, u46, u47, u48, u49, u50, u51, u52, u53, u54, u55, u56, u57, u58, u59, u60, u61, u62, u63, u64, u65, u66, u67, u68, u69, u70, u71, u72, u73, u74, u75, u76, u77, u78, u79, u80, u81, u82, u83, u84, u85, u86, u87, u88, u89, u90, u91, u92, u93, u94, u95, u96, u97, u98, u99, u100, u101, u102, u103, u104, u105, u106, u107, u108, u109, u110, u111, u112, u113, u114, u115, u116, u117, u118, u119, u120, u121, u122, u123, u124, u125, u126, u127, u128, u129, u130, u131, u132, u133, u134, u135, u136, u137, u138, u139, u140, u141, u142, u143, u144, u145, u146, u147, u148, u149, u150, u151, u152, u153, u154, u155, u156, v157, v158, v159, v160, v161, v162, v163, v164, v165, v166, v167, v168, v169, u170], []⟩ wc) :
    Code.wp Tryz.prog (blockOf Tryz.f6 2) Q ⟨#[u0, u1, u2, u3, u4, u5, u6, u7, u8, u9, u10, u11, u12, u13, .slice aa oa.length ac, u15, .slice ba ob.length bc, u17, u18, u19, u20, u21, .int .i64 0, u23, u24, u25, u26, u27, u28, u29, u30, u31, u32, u33, u34, u35, u36, u37, u38, u39, u40, u41, u42, u43, u44, u45, u46, u47, u48, u49, u50, u51, u52, u53, u54, u55, u56, u57, u58, u59, u60, u61, u62, u63, u64, u65, u66, u67, u68, u69, u70, u71, u72, u73, u74, u75, u76, u77, u78, u79, u80, u81, u82, u83, u84, u85, u86, u87, u88, u89, u90, u91, u92, u93, u94, u95, u96, u97, u98, u99, u100, u101, u102, u103, u104, u105, u106, u107, u108, u109, u110, u111, u112, u113, u114, u115, u116, u117, u118, u119, u120, u121, u122, u123, u124, u125, u126, u127, u128, u129, u130, u131, u132, u133, u134, u135, u136, u137, u138, u139, u140, u141, u142, u143, u144, u145, u146, u147, u148, u149, u150, u151, u152, u153, u154, u155, u156, u157, u158, u159, u160, u161, u162, u163, u164, u165, u166, u167, u168, u169, u170], []⟩ w := by
  conv => arg 2; whnf
  have Hom := Lib.hid hom
  have HQ := Lib.hid hQ
  clear hom hQ
  go_wp2_with fail
  go_loopw [6, 22] (fun _ iv wr => ∃ j : Nat, j ≤ oa.length ∧ iv = .int .i64 j ∧ Ext w wr) (fun _ i _ => oa.length - (intOf i).toNat)
  case atStart => exact ⟨0, Nat.zero_le _, rfl, Ext.refl _⟩
  case round =>
    obtain ⟨j, hj, rfl, hxr⟩ := hrel
    by_cases hlt : j < oa.length
    · have l1 : (j : Int) < (oa.length : Int) := by omega
      obtain ⟨ab, ao, rfl, c0, -⟩ := SliceAt.get (ho.ext hxr) hlt
      rw [Nat.mul_one] at c0
      have hin := Hom.out _ (List.getElem_mem hlt)
      generalize oa[j] = x at *
      have Hin := Lib.hid hin
      clear hin
      go_wp2_with fail
      refine (has_any _ _ ob _ (ho2.ext hxr)).mono ?_
      rw [decide_eq_true Hin.out]
      rintro e w14 ⟨rfl, hx⟩
      go_wp2
      go_roundw
      case rel => exact ⟨j + 1, by omega, by go_num, hxr.trans hx⟩
      case measure => simp [intOf]; omega
    · obtain rfl : j = oa.length := by omega
      have l1 : ¬ (oa.length : Int) < (oa.length : Int) := by omega
      go_wp2_with fail
      exact HQ.out _ _ _ _ _ _ _ _ _ _ _ _ _ _ _ wr hxr
end Go.Proofs.YtcamegaimleomaaGreat

namespace Go.Proofs.YtcamegaimleomaaGreat
set_option linter.unusedSimpArgs false
set_option linter.unusedVariables false
open Go.RowKit
set_option linter.unusedVariables false
set_option linter.unusedSimpArgs false
namespace Facts.Dep.Many
open Facts.Piv (anyS opS any_of_anyS opS_of_stepG)
/-- how each operation may turn the memory, and how all of them together may -/
structure ManyT (S : Nat → World → World → Prop) (C : World → World → Prop) : Prop where
  sub : ∀ i w w', S i w w' → C w w'
  tc : ∀ a b c, C a b → C b c → C a c
  d : ∀ w : World, C w { w with drawn := w.drawn + 1 }
variable {P : Program} {ops : Array Oper}

theorem any_facts {S : Nat → World → World → Prop} {C : World → World → Prop} (T : ManyT S C) {Q : Exit → Act → World → Prop} {a : Act} {w : World} (Φ : Nat → (Nat → Value) → World → Prop) (fix : Nat → Option Value) (hfix : ∀ i v vs w, fix i = some v → Φ i vs w → vs i = v) (hloc : ∀ i vs us w, i < ops.size → (∀ j, j = i ∨ (depsOf ops ops.size i).contains j = true → vs j = us j) → Φ i vs w → Φ i us w) (hB : okB ops = true)
    (hkeep : ∀ i j vs w1 w2, i < ops.size → j ≠ i → (depsOf ops ops.size i).contains j = false → S j w1 w2 → Φ i vs w1 → Φ i vs w2)
    (hops : ∀ i o, ops[i]? = some o → ∀ (vs : Nat → Value) w1, (∀ j v, fix j = some v → vs j = v) → C w w1 → (∀ j ∈ depsOf ops ops.size i, Φ j vs w1) → stepG P ops o (acts ops a vs (fun _ => true) i) w1 (fun u w2 => S i w1 w2 ∧ Φ i (upd vs i u) w2))
    (hend : ∀ (vs : Nat → Value) w1, (∀ j v, fix j = some v → vs j = v) → C w w1 → (∀ i, i < ops.size → Φ i vs w1) → Q .normal (acts ops a vs (fun _ => true) ops.size) w1) : anyS P ops Q ops.size (Array.replicate ops.size false) a { w with drawn := w.drawn + 1 } := by
  have hsel : ∀ (j : Nat) (o : Oper) cs b, ops[j]? = some o → o.op ≠ .select cs b := by
    have h2 := hB
    simp only [okB, Bool.and_eq_true] at h2
    exact Region.noSelect_spec h2.1
  suffices key : ∀ (fuel : Nat) (listed : Array Bool) (vs : Nat → Value) (w1 : World), (∀ j v, fix j = some v → vs j = v) → listed.size = ops.size → listed.toList.count true + fuel = ops.size → C w w1 →
      (∀ j, listed.getD j false = true → ∀ i ∈ direct ops j, listed.getD i false = true) → (∀ j, j < ops.size → listed.getD j false = true → Φ j vs w1) →
      anyS P ops Q fuel listed (acts ops a vs (fun j => listed.getD j false) ops.size) w1 by
    have h0 := key ops.size (Array.replicate ops.size false) (fun j => (fix j).getD undef) { w with drawn := w.drawn + 1 } (fun j v h => by simp [h]) (by simp) (by simp [List.count_replicate]) (T.d w)
      (fun j hj => by rw [getD_rep] at hj; cases hj) (fun j _ hj => by rw [getD_rep] at hj; cases hj)
    have e : acts ops a (fun j => (fix j).getD undef) (fun j => (Array.replicate ops.size false).getD j false) ops.size = a := by
      have : ∀ n, acts ops a (fun j => (fix j).getD undef) (fun j => (Array.replicate ops.size false).getD j false) n = a := by
        intro n
        induction n with
        | zero => rfl
        | succ n ih => simp only [acts]; rw [if_neg (by rw [getD_rep]; exact Bool.false_ne_true)]; exact ih
      exact this _
    rw [e] at h0
    exact h0
  intro fuel
  have hdone : ∀ (listed : Array Bool) (vs : Nat → Value) (w1 : World), (∀ j v, fix j = some v → vs j = v) → (∀ j, j < ops.size → listed.getD j false = true) → C w w1 → (∀ j, j < ops.size → listed.getD j false = true → Φ j vs w1) →
      Q .normal (acts ops a vs (fun j => listed.getD j false) ops.size) w1 := by
    intro listed vs w1 hfx hall hx hΦ
    have := hend vs w1 hfx hx fun i hi => hΦ i hi (hall i hi)
    rwa [acts_congr a vs vs (fun _ => true) (fun j => listed.getD j false) ops.size fun j hj => ⟨(hall j hj).symm, fun _ => rfl⟩] at this
  induction fuel with
  | zero =>
    intro listed vs w1 hfx hsz hc hx hcl hΦ
    have hall : ∀ j, j < ops.size → listed.getD j false = true := by
      intro j hj
      have hlen : listed.toList.count true = listed.toList.length := by simp only [Array.length_toList]; omega
      have := List.count_eq_length.1 hlen (listed[j]'(by omega)) (by simp)
      rw [Array.getD_eq_getD_getElem?, Array.getElem?_eq_getElem (by omega)]
      exact this.symm
    refine ⟨?_, hdone listed vs w1 hfx hall hx hΦ⟩
    rw [List.eq_nil_iff_forall_not_mem]
    intro i hi
    have hi1 := (mem_ready.1 hi)
    obtain ⟨o, ho, -⟩ := hi1.2
    have hlt : i < ops.size := (Array.getElem?_eq_some_iff.1 ho).1
    have h1 := hall i hlt
    have h2 := hi1.1
    rw [Array.getD_eq_getD_getElem?, Array.getElem?_eq_getElem (by omega)] at h1 h2
    simp only [Option.getD_some] at h1 h2
    rw [h1] at h2; cases h2
  | succ fuel ih =>
    intro listed vs w1 hfx hsz hc hx hcl hΦ
    refine ⟨fun h => hdone listed vs w1 hfx (all_listed hB hsz h) hx hΦ, fun i hi => ?_⟩
    obtain ⟨hi0, o, ho, hafter⟩ := mem_ready.1 hi
    have hlt : i < ops.size := (Array.getElem?_eq_some_iff.1 ho).1
    have hnot : listed.getD i false = false := by
      rw [Array.getD_eq_getD_getElem?, Array.getElem?_eq_getElem (by omega)] at hi0 ⊢
      exact hi0
    have hdir := direct_ready ho hafter
    have hdeps := dep_in hcl ops.size i hdir
    have hdl : ∀ j ∈ depsOf ops ops.size i, j < ops.size := fun j hj => by
      have := hdeps j hj
      rcases Nat.lt_or_ge j listed.size with h' | h'
      · omega
      · simp [Array.getD_eq_getD_getElem?, Array.getElem?_eq_none h'] at this
    have hst := hops i o ho vs w1 hfx hx fun j hj => hΦ j (hdl j hj) (hdeps j hj)
    -- a later one that has come up is apart from this one
    have hlater : ∀ j, i < j → j < ops.size → listed.getD j false = true → apartB ops i j = true := fun j h1 h2 h3 =>
      ((okB_spec hB j h2).2 i h1).resolve_right fun hmem => by
        have := dep_in hcl ops.size j (hcl j h3) i hmem
        rw [hnot] at this; cases this
    have hearlier : ∀ j, j < i → listed.getD j false = false → apartB ops j i = true := fun j h1 h3 =>
      ((okB_spec hB i hlt).2 j h1).resolve_right fun hmem => by
        have := hdeps j hmem
        rw [h3] at this; cases this
    have hacts : ∀ n, i ≤ n → n ≤ ops.size → ∀ t, t ∈ o.looksAt ops → (acts ops a vs (fun j => listed.getD j false) n).tmps[t]? = (acts ops a vs (fun _ => true) i).tmps[t]? := by
      intro n hin
      obtain ⟨k, rfl⟩ := Nat.exists_eq_add_of_le hin
      clear hin
      induction k with
      | zero =>
        intro _ t ht
        refine acts_slot a vs _ _ t i fun j hj hd => ?_
        cases hl : listed.getD j false with
        | true => rfl
        | false =>
          have hap := hearlier j hj hl
          have hoj : ops[j]? = some (ops[j]'(by omega)) := by simp [show j < ops.size from by omega]
          rw [hoj] at hd
          simp only [apartB, hoj, ho] at hap
          exact absurd ht ((Oper.apart_spec hap).1 t hd)
      | succ k ih2 =>
        intro hle t ht
        have ih2 := ih2 (by omega) t ht
        obtain ⟨n, hn⟩ : ∃ n, n = i + k := ⟨_, rfl⟩
        rw [← hn] at ih2
        rw [show i + (k + 1) = n + 1 from by omega]
        simp only [acts]
        by_cases hl : listed.getD n false = true
        · rw [if_pos hl]
          have hni : i ≠ n := fun e => by subst e; rw [hnot] at hl; cases hl
          have hap := hlater n (by omega) (by omega) hl
          have hon : ops[n]? = some (ops[n]'(by omega)) := by simp [show n < ops.size from by omega]
          simp only [apartB, hon, ho] at hap
          rw [put_other _ _ _ _ (fun hd => (Oper.apart_spec hap).2.2 t (by rw [hon] at hd; exact hd) ht)]
          exact ih2
        · rw [if_neg hl]; exact ih2
    have hst2 : stepG P ops o (acts ops a vs (fun j => listed.getD j false) ops.size) w1 (fun u w2 => S i w1 w2 ∧ Φ i (upd vs i u) w2) :=
      stepG_same (hsel i o · · ho) (fun t ht => (hacts ops.size (by omega) (Nat.le_refl _) t ht).symm) hst
    refine opS_of_stepG ho hst2 ?_
    rintro v w2 ⟨hx2, hv⟩
    have hod : (ops[i]?).bind (·.dst) = o.dst := by rw [ho]; rfl
    rw [← hod, acts_put a vs (fun j => listed.getD j false) i v hnot ops.size hlt (fun j h1 h2 h3 d hd hd2 => by
      have hap := hlater j h1 h2 h3
      have hoj : ops[j]? = some (ops[j]'h2) := by simp [h2]
      simp only [apartB, hoj, ho] at hap
      rw [ho] at hd; rw [hoj] at hd2
      exact (Oper.apart_spec hap).2.1 d hd hd2)]
    have hget : ∀ j, (listed.setIfInBounds i true).getD j false = (listed.getD j false || decide (j = i)) := by
      intro j
      by_cases hji : j = i
      · subst hji; simp [Array.getD_eq_getD_getElem?, show j < listed.size from by omega]
      · rw [getD_set_ne false (Ne.symm hji)]; simp [hji]
    have := ih (listed.setIfInBounds i true) (upd vs i v) w2 (fun j u hj => by
        by_cases hji : j = i
        · subst hji; exact hfix j u _ w2 hj hv
        · simpa [upd, hji] using hfx j u hj) (by simpa using hsz) (by
        rw [Array.toList_setIfInBounds, List.count_set (by simpa using (by omega : i < listed.size))]
        have e : (listed.toList[i]'(by simpa using (by omega : i < listed.size))) = false := by
          rw [Array.getD_eq_getD_getElem?, Array.getElem?_eq_getElem (by omega)] at hnot
          simpa using hnot
        have e' : (listed.toList[i]'(by simpa using (by omega : i < listed.size)) == true) = false := by rw [e]; rfl
        rw [e']; simp only [Bool.false_eq_true, if_false, beq_self_eq_true, if_true]; omega) (by
          exact T.tc _ _ _ hx (T.sub _ _ _ hx2))
      (by
        intro j hj k hk
        rw [hget] at hj ⊢
        by_cases hji : j = i
        · subst hji; rw [hdir k hk]; rfl
        · simp only [hji, decide_false, Bool.or_false] at hj
          rw [hcl j hj k hk]; rfl)
      (by
        intro j hj hl
        by_cases hji : j = i
        · subst hji; exact hv
        · rw [hget] at hl
          simp only [hji, decide_false, Bool.or_false] at hl
          have hnd : (depsOf ops ops.size j).contains i = false := by
            rw [Bool.eq_false_iff, ne_eq, List.contains_iff_mem]
            intro h
            have := dep_in hcl ops.size j (hcl j hl) i h
            rw [hnot] at this; cases this
          have hold : Φ j (upd vs i v) w1 := hloc j vs _ _ hj (fun x hx => by
            unfold upd
            split
            · rename_i hxi
              subst hxi
              rcases hx with hx | hx
              · exact absurd hx.symm hji
              · rw [hnd] at hx; cases hx
            · rfl) (hΦ j hj hl)
          exact hkeep j i _ _ _ hj (fun e => hji e.symm) hnd hx2 hold)
    have e2 : (fun j => (listed.setIfInBounds i true).getD j false) = fun j => listed.getD j false || decide (j = i) := funext hget
    rw [e2] at this
    exact this


def Walk (S : Nat → World → World → Prop) (C : World → World → Prop) (P : Program) (ops : Array Oper) (w : World) (Q : Exit → Act → World → Prop) : Nat → List Oper → List Spec → List (Nat × (World → Prop)) → List (Nat × Value) → Act → Prop
  | _, [], _, env, _, a => ∀ w1, C w w1 → (∀ j f, (j, f) ∈ env → f w1) → Q .normal a w1
  | _, _ :: _, [], _, _, _ => False
  | i, o :: rest, .val v :: ss, env, us, a => (∀ w1, C w w1 → Have ops i env w1 → stepG P ops o a w1 (fun u w2 => S i w1 w2 ∧ u = v)) ∧ Walk S C P ops w Q (i + 1) rest ss env ((i, v) :: us) (a.put o.dst v)
  | i, o :: rest, .fact f :: ss, env, us, a => (∀ w1, C w w1 → Have ops i env w1 → stepG P ops o a w1 (fun u w2 => S i w1 w2 ∧ f u w2)) ∧ ∀ u, Walk S C P ops w Q (i + 1) rest ss ((i, f u) :: env) ((i, u) :: us) (a.put o.dst u)
  | i, o :: rest, .on js f :: ss, env, us, a => (∀ w1, C w w1 → Have ops i env w1 → stepG P ops o a w1 (fun u w2 => S i w1 w2 ∧ f (js.map (look us)) u w2)) ∧ ∀ u, Walk S C P ops w Q (i + 1) rest ss ((i, f (js.map (look us)) u) :: env) ((i, u) :: us) (a.put o.dst u)
def keepsS (S : Nat → World → World → Prop) (ops : Array Oper) : Nat → List Spec → Prop
  | _, [] => True
  | i, .val _ :: r => keepsS S ops (i + 1) r
  | i, .fact f :: r => (∀ j, j ≠ i → (depsOf ops ops.size i).contains j = false → ∀ u w1 w2, S j w1 w2 → f u w1 → f u w2) ∧ keepsS S ops (i + 1) r
  | i, .on _ f :: r => (∀ j, j ≠ i → (depsOf ops ops.size i).contains j = false → ∀ l u w1 w2, S j w1 w2 → f l u w1 → f l u w2) ∧ keepsS S ops (i + 1) r
theorem keepsS_get {S : Nat → World → World → Prop} : ∀ (ss : List Spec) (k i : Nat) (s : Spec), keepsS S ops k ss → ss[i]? = some s →
    (∀ j, j ≠ k + i → (depsOf ops ops.size (k + i)).contains j = false → ∀ vs u w1 w2, S j w1 w2 → s.holds vs u w1 → s.holds vs u w2)
  | [], _, _, _, _, h => by simp at h
  | .val v :: r, k, 0, s, _, h => by simp at h; subst h; exact fun _ _ _ _ _ _ _ _ h => h
  | .val v :: r, k, i + 1, s, hk, h => by
    have := keepsS_get r (k + 1) i s hk (by simpa using h)
    rwa [show k + 1 + i = k + (i + 1) from by omega] at this
  | .fact f :: r, k, 0, s, hk, h => by simp at h; subst h; exact fun j hj hc _ => hk.1 j hj hc
  | .fact f :: r, k, i + 1, s, hk, h => by
    have := keepsS_get r (k + 1) i s hk.2 (by simpa using h)
    rwa [show k + 1 + i = k + (i + 1) from by omega] at this
  | .on js f :: r, k, 0, s, hk, h => by simp at h; subst h; exact fun j hj hc vs => hk.1 j hj hc (js.map vs)
  | .on js f :: r, k, i + 1, s, hk, h => by
    have := keepsS_get r (k + 1) i s hk.2 (by simpa using h)
    rwa [show k + 1 + i = k + (i + 1) from by omega] at this
theorem walk_at {S : Nat → World → World → Prop} {C : World → World → Prop} {w : World} {Q : Exit → Act → World → Prop} {a0 : Act} (ss : List Spec) (hlb : locB ops 0 ss = true) (vs : Nat → Value) (hfx : ∀ j s v, ss[j]? = some s → s.fixed = some v → vs j = v) :
    ∀ (n k : Nat) (rest : List Oper) (env : List (Nat × (World → Prop))) (us : List (Nat × Value)) (a : Act), n + k = ops.size → (∀ j, rest[j]? = ops[k + j]?) → rest.length = n → a = acts ops a0 vs (fun _ => true) k →
      (∀ j q, (j, q) ∈ env → ∃ s, ss[j]? = some s ∧ j < k ∧ q = s.holds vs (vs j)) → (∀ j s, ss[j]? = some s → s.fixed = none → j < k → (j, s.holds vs (vs j)) ∈ env) → (∀ j, j < k → look us j = vs j) → Walk S C P ops w Q k rest (ss.drop k) env us a →
      (∀ i o, k ≤ i → ops[i]? = some o → ∃ s, ss[i]? = some s ∧ ∀ w1, C w w1 → (∀ j ∈ depsOf ops ops.size i, j < i → ∀ s, ss[j]? = some s → s.holds vs (vs j) w1) → stepG P ops o (acts ops a0 vs (fun _ => true) i) w1 (fun u w2 => S i w1 w2 ∧ s.holds vs u w2)) ∧
      (∀ w1, C w w1 → (∀ i s, i < ops.size → ss[i]? = some s → s.holds vs (vs i) w1) → Q .normal (acts ops a0 vs (fun _ => true) ops.size) w1) := by
  intro n
  induction n with
  | zero =>
    intro k rest env us a hk hr hl ha henv henv2 hus hw
    obtain rfl : rest = [] := List.length_eq_zero_iff.1 hl
    have e : k = ops.size := by omega
    subst e
    refine ⟨fun i o hi ho => by have := (Array.getElem?_eq_some_iff.1 ho).1; omega, fun w1 hx hall => ?_⟩
    simp only [Walk] at hw
    rw [← ha]
    refine hw w1 hx fun j q hq => ?_
    obtain ⟨s, hs, hj, rfl⟩ := henv j q hq
    exact hall j s hj hs
  | succ n ih =>
    intro k rest env us a hk hr hl ha henv henv2 hus hw
    obtain ⟨o, rest, rfl⟩ : ∃ o r, rest = o :: r := by cases rest with | nil => simp at hl | cons o r => exact ⟨o, r, rfl⟩
    have hok : ops[k]? = some o := by simpa using (hr 0).symm
    have hact : ∀ v, vs k = v → a.put o.dst v = acts ops a0 vs (fun _ => true) (k + 1) := fun v hv => by
      simp only [acts, if_true]; rw [← ha, hok, hv]; rfl
    cases hs : ss[k]? with
    | none =>
      rw [List.drop_eq_nil_of_le (by rcases Nat.lt_or_ge k ss.length with h | h; · rw [List.getElem?_eq_getElem h] at hs; cases hs
                                     · exact h)] at hw
      simp only [Walk] at hw
    | some s =>
      have hlt : k < ss.length := (List.getElem?_eq_some_iff.1 hs).1
      rw [List.drop_eq_getElem_cons hlt, (List.getElem?_eq_some_iff.1 hs).2] at hw
      have hlean : ∀ w1, (∀ j ∈ depsOf ops ops.size k, j < k → ∀ s, ss[j]? = some s → s.holds vs (vs j) w1) → Have ops k env w1 := by
        intro w1 h j q hq hc
        obtain ⟨s, hs, hj, rfl⟩ := henv j q hq
        exact h j (by simpa using hc) hj s hs
      have hr' : ∀ j, rest[j]? = ops[k + 1 + j]? := fun j => by have := hr (j + 1); simpa [Nat.add_assoc, Nat.add_comm 1 j] using this
      have hus' : ∀ v, vs k = v → ∀ j, j < k + 1 → look ((k, v) :: us) j = vs j := fun v hv j hj => by
        simp only [look]
        split
        · rename_i e; rw [← e, hv]
        · rename_i e; exact hus j (by omega)
      have hmap : s.js.map (look us) = s.js.map vs := List.map_congr_left fun j hj => hus j (by have := (locB_get ss 0 k s hlb hs j hj).2; omega)
      cases s with
      | val v =>
        simp only [Walk] at hw
        have hv : vs k = v := hfx k _ v hs rfl
        obtain ⟨h1, h2⟩ := ih (k + 1) rest env _ _ (by omega) hr' (by simpa using hl) (hact v hv) (fun j q hq => by obtain ⟨s, hs, hj, e⟩ := henv j q hq; exact ⟨s, hs, by omega, e⟩)
          (fun j s hs' hf hj => henv2 j s hs' hf (by rcases Nat.lt_or_ge j k with h | h; · exact h
                                                     · obtain rfl : j = k := by omega
                                                       rw [hs] at hs'; cases hs'; cases hf)) (hus' v hv) hw.2
        refine ⟨fun i o' hi ho => ?_, h2⟩
        rcases Nat.lt_or_ge k i with hik | hik
        · exact h1 i o' (by omega) ho
        · obtain rfl : i = k := by omega
          rw [hok] at ho; cases ho
          exact ⟨_, hs, fun w1 hx hd => by rw [← ha]; exact hw.1 w1 hx (hlean w1 hd)⟩
      | fact f =>
        simp only [Walk] at hw
        obtain ⟨h1, h2⟩ := ih (k + 1) rest _ _ _ (by omega) hr' (by simpa using hl) (hact (vs k) rfl)
          (fun j q hq => by
            rcases List.mem_cons.1 hq with e | hq
            · cases e; exact ⟨_, hs, by omega, rfl⟩
            · obtain ⟨s, hs, hj, e⟩ := henv j q hq; exact ⟨s, hs, by omega, e⟩)
          (fun j s hs' hf hj => by
            rcases Nat.lt_or_ge j k with h | h
            · exact List.mem_cons_of_mem _ (henv2 j s hs' hf h)
            · obtain rfl : j = k := by omega
              rw [hs] at hs'; cases hs'; exact List.mem_cons_self) (hus' _ rfl) (hw.2 (vs k))
        refine ⟨fun i o' hi ho => ?_, h2⟩
        rcases Nat.lt_or_ge k i with hik | hik
        · exact h1 i o' (by omega) ho
        · obtain rfl : i = k := by omega
          rw [hok] at ho; cases ho
          exact ⟨_, hs, fun w1 hx hd => by rw [← ha]; exact hw.1 w1 hx (hlean w1 hd)⟩
      | on js f =>
        simp only [Walk] at hw
        simp only [Spec.js] at hmap
        rw [hmap] at hw
        obtain ⟨h1, h2⟩ := ih (k + 1) rest _ _ _ (by omega) hr' (by simpa using hl) (hact (vs k) rfl)
          (fun j q hq => by
            rcases List.mem_cons.1 hq with e | hq
            · cases e; exact ⟨_, hs, by omega, rfl⟩
            · obtain ⟨s, hs, hj, e⟩ := henv j q hq; exact ⟨s, hs, by omega, e⟩)
          (fun j s hs' hf hj => by
            rcases Nat.lt_or_ge j k with h | h
            · exact List.mem_cons_of_mem _ (henv2 j s hs' hf h)
            · obtain rfl : j = k := by omega
              rw [hs] at hs'; cases hs'; exact List.mem_cons_self) (hus' _ rfl) (hw.2 (vs k))
        refine ⟨fun i o' hi ho => ?_, h2⟩
        rcases Nat.lt_or_ge k i with hik | hik
        · exact h1 i o' (by omega) ho
        · obtain rfl : i = k := by omega
          rw [hok] at ho; cases ho
          exact ⟨_, hs, fun w1 hx hd => by rw [← ha]; exact hw.1 w1 hx (hlean w1 hd)⟩

/-- THE RULE, for a region whose operations are written out: a spec for each operation, the walk in the text's order. -/
theorem any_region {S : Nat → World → World → Prop} {C : World → World → Prop} (T : ManyT S C) {Q : Exit → Act → World → Prop} {a : Act} {w : World} {l : List Oper} (ss : List Spec) (hB : okB l.toArray = true) (hlb : locB l.toArray 0 ss = true) (hk : keepsS S l.toArray 0 ss)
    (h : Walk S C P l.toArray w Q 0 l ss [] [] a) : anyS P l.toArray Q l.toArray.size (Array.replicate l.toArray.size false) a { w with drawn := w.drawn + 1 } := by
  have base := fun vs hfx => walk_at (S := S) (C := C) (P := P) (ops := l.toArray) (w := w) (Q := Q) (a0 := a) ss hlb vs hfx l.length 0 l [] [] a (by simp) (by simp) rfl rfl (fun _ _ h => by cases h) (fun _ _ _ _ h => by omega) (fun _ h => by omega) h
  refine any_facts T (fun i vs => match ss[i]? with | some s => s.holds vs (vs i) | none => fun _ => False) (fun i => (ss[i]?).bind Spec.fixed) ?_ ?_ hB ?_ ?_ ?_
  · intro i v vs w hv hu
    cases hs : ss[i]? with
    | none => simp [hs] at hv
    | some s => cases s with
      | val x => simp only [hs, Option.bind_some, Spec.fixed, Option.some.injEq] at hv; subst hv; simpa [hs, Spec.holds] using hu
      | fact f => simp [hs, Spec.fixed] at hv
      | on js f => simp [hs, Spec.fixed] at hv
  · intro i vs us w hi hj hu
    cases hs : ss[i]? with
    | none => simp [hs] at hu
    | some s =>
      simp only [hs] at hu ⊢
      rw [← hj i (.inl rfl)]
      exact holds_loc (fun j hjs => hj j (.inr (by have := (locB_get ss 0 i s hlb hs j hjs).1; rwa [Nat.zero_add] at this))) hu
  · intro i j vs w1 w2 _ hip hc hx hu
    cases hs : ss[i]? with
    | none => simp [hs] at hu
    | some s => simp only [hs] at hu ⊢; exact (keepsS_get ss 0 i s hk hs) j (by rw [Nat.zero_add]; exact hip) (by rw [Nat.zero_add]; exact hc) vs _ w1 w2 hx hu
  · intro i o ho vs w1 hfx hx hd
    obtain ⟨h1, -⟩ := base vs fun j s v hs hv => hfx j v (by simp [hs, hv])
    obtain ⟨s, hs, hst⟩ := h1 i o (Nat.zero_le _) ho
    simp only [hs]
    have hst := hst w1 hx fun j hj _ s' hs' => by
      have := hd j hj
      simpa only [hs'] using this
    refine stepG_mono hst fun u w2 ⟨h1, h2⟩ => ⟨h1, ?_⟩
    have e : upd vs i u i = u := by simp [upd]
    rw [e]
    refine holds_loc (fun j hjs => ?_) h2
    have := (locB_get ss 0 i s hlb hs j hjs).2
    simp only [upd]
    rw [if_neg (by omega)]
  · intro vs w1 hfx hx hall
    obtain ⟨-, h2⟩ := base vs fun j s v hs hv => hfx j v (by simp [hs, hv])
    refine h2 w1 hx fun i s hi hs => ?_
    have := hall i hi
    simpa only [hs] using this
theorem wp_region {S : Nat → World → World → Prop} {C : World → World → Prop} (T : ManyT S C) {id : Nat} {Q : Exit → Act → World → Prop} {a : Act} {w : World} {l : List Oper} (ss : List Spec) (hm : P.follows .mixedOrders = true) (hB : okB l.toArray = true) (hlb : locB l.toArray 0 ss = true) (hk : keepsS S l.toArray 0 ss)
    (h : Walk S C P l.toArray w Q 0 l ss [] [] a) : (Code.region id l.toArray true).wp P Q a w :=
  wp_region_any hm (any_of_anyS _ _ _ _ (any_region T ss hB hlb hk h))
/-- the same, told by the number of the last operation, which comes behind all others -/
theorem wp_regionL {S : Nat → World → World → Prop} {C : World → World → Prop} (T : ManyT S C) (n : Nat) {id : Nat} {Q : Exit → Act → World → Prop} {a : Act} {w : World} {L : List Oper} (ss : List Spec) (hm : P.follows .mixedOrders = true) (hL : L.length = n + 1) (hlast : Facts.Peel.lastB (L.take n) (L.getD n default) = true) (hB' : okB L.toArray = true) (hB : okB (L.take n).toArray = true) (hlb : locB (L.take n).toArray 0 ss = true) (hk : keepsS S (L.take n).toArray 0 ss)
    (h : Walk S C P (L.take n).toArray w (fun e a w => e = .normal ∧ stepG P L.toArray (L.getD n default) a w (fun u w2 => Q .normal (a.put (L.getD n default).dst u) w2)) 0 (L.take n) ss [] [] a) : (Code.region id L.toArray true).wp P Q a w := by
  have e : L = L.take n ++ [L.getD n default] := by
    conv => lhs; rw [← List.take_append_drop n L]
    congr 1
    rw [List.drop_eq_getElem_cons (by omega), List.drop_of_length_le (by omega), List.getD_eq_getElem?_getD, List.getElem?_eq_getElem (by omega)]
    rfl
  suffices key : ∀ (l : List Oper) (o : Oper), Facts.Peel.lastB l o = true → okB (l ++ [o]).toArray = true → okB l.toArray = true → locB l.toArray 0 ss = true → keepsS S l.toArray 0 ss → Walk S C P l.toArray w (fun e a w => e = .normal ∧ stepG P (l ++ [o]).toArray o a w (fun u w2 => Q .normal (a.put o.dst u) w2)) 0 l ss [] [] a → (Code.region id (l ++ [o]).toArray true).wp P Q a w by
    have := key (L.take n) (L.getD n default) hlast (by rw [← e]; exact hB') hB hlb hk (by rw [← e]; exact h)
    rwa [← e] at this
  intro l o hlast hB' hB hlb hk h
  have h1 := any_region T ss hB hlb hk h
  have h2 := Facts.Peel.any_peel (P := P) (Q := Q) hlast hB' l.toArray.size (Array.replicate l.toArray.size false) a { w with drawn := w.drawn + 1 } (by simp) (by simp [List.count_replicate]) (fun j hj => by
    exfalso
    rw [Array.getD_eq_getD_getElem?, Array.getElem?_push] at hj
    split at hj
    · simp at hj
    · rw [← Array.getD_eq_getD_getElem?, getD_rep] at hj; cases hj) h1
  have e : (l ++ [o]).toArray.size = l.toArray.size + 1 := by simp
  refine wp_region_any hm (any_of_anyS _ _ _ _ ?_)
  rw [e, Array.replicate_succ]
  exact h2
end Facts.Dep.Many
end Go.Proofs.YtcamegaimleomaaGreat

namespace Go.Proofs.YtcamegaimleomaaGreat
set_option linter.unusedSimpArgs false
set_option linter.unusedVariables false
open Go.RowKit
set_option linter.unusedVariables false
namespace Facts.App
variable {P : Program} {ops : Array Oper}
theorem Grew.mono {n0 n m : Nat} {w w' : World} (h : Grew n0 n w w') (hm : m ≤ n) : Grew n0 m w w' :=
  ⟨h.os, h.tape, h.output, h.size, fun k hk => by
    rcases h.block k hk with h1 | ⟨h0, c1, c2, e, g1, g2, g3, g4⟩
    · exact .inl h1
    · refine .inr ⟨h0, c1, c2, e, g1, g2, g3, ?_⟩
      have := congrArg (List.take m) g4
      rwa [List.take_take, List.take_take, Nat.min_eq_left hm] at this⟩
theorem run_append_empty {w : World} (base : Nat) (t ty e : TypeId) (i : TypeInfo) (z : Value) (size bytes : Nat) (ht : P.underlying t = some (.slice e)) (hi : P.info? e = some i) (hz : i.zero = some z)
    (hsize : i.size = size) (hby : i.bytes = bytes) (hzs : z.cells.size = size) (hsz : 0 < size)
    (B : Nat) (hown : w.ownsRow base e size (.slice (some ⟨B, 0, none⟩) 0 0) 0 [])
    (a : Addr) (m c : Nat) (news : List Value) (hl : news.length = m * size) (hnews : ∀ j u, news[j]? = some u → w.cell? (a.add j) = some u) (h1 : ∀ u ∈ news, u.oneCell' = true)
    (h63 : m ≤ maxLen) (hbytes : m * bytes ≤ 140737488355328) (hbase : base ≤ w.heap.size) :
    ∃ v' w', (Builtin.append_ #[t, t] ty #[.slice (some ⟨B, 0, none⟩) 0 0, .slice (some a) m c]).run P w = .ok v' w' ∧ w'.ownsRow base e size v' m news ∧ Ext w w' ∧ (m = 0 → v' = .slice (some ⟨B, 0, none⟩) 0 0) := by
  obtain ⟨v', w', hr, ho, hg, hx⟩ := run_append_grew (P := P) base t ty e i z size bytes ht hi hz hsize hby hzs hsz (.slice (some ⟨B, 0, none⟩) 0 0) 0 [] hown a m c news hl hnews h1 (by omega) (by rw [Nat.zero_add]; exact hbytes) hbase
  rw [Nat.zero_add, List.nil_append] at ho
  by_cases hm : m = 0
  · obtain ⟨w2, hr2, ho2, hg2⟩ := run_append_fits (P := P) (w := w) base t ty e i size ht hi hsize B 0 0 [] hown a m c news hl hnews h1 (by omega)
    rw [hr] at hr2
    simp only [Result.ok.injEq] at hr2
    obtain ⟨rfl, rfl⟩ := hr2
    refine ⟨_, _, hr, ho, ⟨hg2.os, hg2.tape, hg2.output, hg2.size, fun k hk => ?_⟩, fun _ => by rw [hm]⟩
    by_cases hkB : k = B
    · subst hkB
      rcases hown.2 with ⟨he, -⟩ | ⟨g, cap, cur, he, -, hg0, -, -, hcs, -⟩
      · simp at he
      · simp only [Value.slice.injEq, Option.some.injEq, Addr.mk.injEq, and_true, true_and] at he
        obtain ⟨rfl, rfl⟩ := he
        rcases ho2.2 with ⟨he, -⟩ | ⟨g', cap', cur', he, -, hg', -, -, hcs', -⟩
        · simp at he
        · simp only [Value.slice.injEq, Option.some.injEq, Addr.mk.injEq, and_true, true_and] at he
          obtain ⟨rfl, rfl⟩ := he
          have e1 : cur = #[] := Array.eq_empty_of_size_eq_zero (by omega)
          have e2 : cur' = #[] := Array.eq_empty_of_size_eq_zero (by omega)
          rw [hg0, hg', e1, e2]
    · exact hg2.block k hk (by simpa using hkB)
  · exact ⟨_, _, hr, ho, hx fun g cap e => by
      have := (Value.slice.inj e).2.2
      omega, fun h => absurd h hm⟩
theorem stepG_append_empty {o : Oper} {a : Act} {w : World} {S : Value → World → Prop} (hgd : o.guard = none) (s x : Operand) (t : TypeId)
    (ho : o.op = .call { callee := .builtin .append, args := #[s, x], argTypes := #[t, t] })
    (base : Nat) (e : TypeId) (i : TypeInfo) (z : Value) (size bytes : Nat) (ht : P.underlying t = some (.slice e)) (hi : P.info? e = some i) (hz : i.zero = some z)
    (hsize : i.size = size) (hby : i.bytes = bytes) (hzs : z.cells.size = size) (hsz : 0 < size)
    (v : Value) (hs : a.eval s = v) (B : Nat) (hvB : v = .slice (some ⟨B, 0, none⟩) 0 0) (hown : w.ownsRow base e size v 0 [])
    (ad : Addr) (m c : Nat) (news : List Value) (hx : a.eval x = .slice (some ad) m c) (hl : news.length = m * size) (hnews : ∀ j u, news[j]? = some u → w.cell? (ad.add j) = some u) (h1 : ∀ u ∈ news, u.oneCell' = true)
    (h63 : m ≤ maxLen) (hbytes : m * bytes ≤ 140737488355328) (hbase : base ≤ w.heap.size)
    (h : ∀ v' w', w'.ownsRow base e size v' m news → Ext w w' → (m = 0 → v' = v) → S v' w') : stepG P ops o a w S := by
  subst hvB
  obtain ⟨v', w', hr, h2, h3, h4⟩ := run_append_empty (P := P) base t o.type e i z size bytes ht hi hz hsize hby hzs hsz B hown ad m c news hl hnews h1 h63 hbytes hbase
  unfold stepG
  have hw : Region.wanted o (yielded ops a.tmps) = true := by unfold Region.wanted; rw [hgd]
  rw [if_pos hw]
  unfold execOp
  simp only [ho, resolve, invoke, builtin, Sem.run_bind, Sem.run_pure, Result.andThen_ok, List.map_toArray, List.map_cons, List.map_nil, hs, hx, hr]
  exact h v' w' h2 h3 h4
end Facts.App
def B0 : Value → Nat
  | .slice (some a) _ _ => a.block
  | _ => 0
theorem EmptyR.at0' {base : Nat} {e : TypeId} {sz : Nat} {u : Value} {w : World} (h : EmptyR base e sz u w) : u = .slice (some ⟨B0 u, 0, none⟩) 0 0 := by
  obtain ⟨B, rfl, -⟩ := h; rfl
/-- the first words of a letter, copied -/
def RowE (base n : Nat) (cs : List Value) (u : Value) (w : World) : Prop := OwnR base 9 1 n cs u w ∧ (n = 0 → EmptyR base 9 1 u w)
theorem RowE.ext {base n : Nat} {cs : List Value} {u : Value} {w w' : World} (h : RowE base n cs u w) (hx : Ext w w') : RowE base n cs u w' := ⟨h.1.ext hx, fun e => (h.2 e).ext hx⟩
theorem RowE.grew {base n : Nat} {cs : List Value} {u : Value} {n0 k : Nat} {w w' : World} (h : RowE base n cs u w) (hn : n ≤ k) (hx : Facts.App.Grew n0 k w w') : RowE base n cs u w' := ⟨h.1.grew (by omega) hx, fun e => (h.2 e).grew hx⟩
def strsV (l : List ByteArray) : List Value := l.map Value.string
theorem strsV_one (l : List ByteArray) : ∀ u ∈ strsV l, u.oneCell' = true := fun u hu => by
  obtain ⟨x, -, rfl⟩ := List.mem_map.1 hu
  rfl
theorem strsV_len (l : List ByteArray) : (strsV l).length = l.length := by simp [strsV]
/-- the cells of a part of a letter -/
theorem strs_cells {w : World} {b o n c : Nat} {l : List ByteArray} (h : StrsAt w (.slice (some ⟨b, o, none⟩) n c) l) (s m : Nat) : ∀ j u, (strsV ((l.drop s).take m))[j]? = some u → w.cell? ((⟨b, o + s, none⟩ : Addr).add j) = some u := by
  intro j u hj
  have hjl : j < (strsV ((l.drop s).take m)).length := by
    rcases Nat.lt_or_ge j (strsV ((l.drop s).take m)).length with h | h
    · exact h
    · rw [List.getElem?_eq_none h] at hj; cases hj
  rw [strsV_len, List.length_take, List.length_drop] at hjl
  unfold strsV at hj
  rw [List.getElem?_map, List.getElem?_take_of_lt (by omega), List.getElem?_drop, List.getElem?_eq_getElem (by omega)] at hj
  obtain ⟨b', o', e, r, -⟩ := SliceAt.get h (i := s + j) (by omega)
  obtain ⟨rfl, rfl, -⟩ := Addr.mk.inj (Option.some.inj e)
  rw [show (⟨b, o + s, none⟩ : Addr).add j = ⟨b, o + s + j, none⟩ by unfold Addr.add; split <;> simp_all]
  simp only [Option.map_some, Option.some.injEq] at hj
  subst hj
  rw [Nat.mul_one, ← Nat.add_assoc] at r
  exact r
/-- what is left of a letter behind some words -/
theorem strs_left {w : World} {b o n c s : Nat} {l : List ByteArray} (h : StrsAt w (.slice (some ⟨b, o, none⟩) n c) l) (hn : n = l.length) (hs : s ≤ n) (hc : n ≤ c) {ad : Addr} (e : (if c = s then some (⟨b, o, none⟩ : Addr) else some ⟨b, o + s, none⟩) = some ad) : ∀ j u, (strsV (l.drop s))[j]? = some u → w.cell? (ad.add j) = some u := by
  intro j u hj
  have hcl := strs_cells h s (l.length - s)
  have e2 : (l.drop s).take (l.length - s) = l.drop s := List.take_of_length_le (by rw [List.length_drop]; omega)
  rw [e2] at hcl
  by_cases hcs : c = s
  · have : l.drop s = [] := List.drop_eq_nil_of_le (by omega)
    rw [this] at hj
    simp [strsV] at hj
  · rw [if_neg hcs] at e
    obtain rfl := Option.some.inj e
    exact hcl j u hj
theorem RowW.ofV {base n : Nat} {l : List ByteArray} {u : Value} {w : World} (h : OwnR base 9 1 n (strsV l) u w) (hn : n = l.length) : RowW base l u w := by subst hn; exact h
def S14 (n0 k : Nat) (i : Nat) (w w' : World) : Prop := if i = 9 then Facts.App.Grew n0 k w w' else Ext w w'
theorem many14 (n0 k : Nat) : Facts.Dep.Many.ManyT (S14 n0 k) (Facts.App.Grew n0 k) := ⟨fun i w w' h => by
  unfold S14 at h
  split at h
  · exact h
  · exact .of_ext h, fun _ _ _ h g => h.trans g, fun w => .of_ext (ext_drew w)⟩
def S16 (n0 k : Nat) (i : Nat) (w w' : World) : Prop := if i = 6 then Facts.App.Grew n0 k w w' ∧ (k = 0 → Ext w w') else if i = 11 then Facts.App.Grew n0 (k + 1) w w' else Ext w w'
theorem many16 (n0 k : Nat) : Facts.Dep.Many.ManyT (S16 n0 k) (Facts.App.Grew n0 k) := ⟨fun i w w' h => by
  unfold S16 at h
  split at h
  · exact h.1
  · split at h
    · exact h.mono (by omega)
    · exact .of_ext h, fun _ _ _ h g => h.trans g, fun w => .of_ext (ext_drew w)⟩

theorem s14e {n0 k i : Nat} {w w' : World} (hi : i ≠ 9) (h : Ext w w') : S14 n0 k i w w' := by unfold S14; rw [if_neg hi]; exact h
theorem s16e {n0 k i : Nat} {w w' : World} (hi : i ≠ 6) (h2 : i ≠ 11) (h : Ext w w') : S16 n0 k i w w' := by unfold S16; rw [if_neg hi, if_neg h2]; exact h
def zzW : ByteArray := ⟨#[122, 122]⟩
def turnW (l : List ByteArray) (n : Nat) : List ByteArray := (l.take n ++ [zzW]) ++ l.drop (n + 1)
end Go.Proofs.YtcamegaimleomaaGreat

namespace Go.Proofs.YtcamegaimleomaaGreat
set_option linter.unusedSimpArgs false
set_option linter.unusedVariables false
set_option linter.unusedVariables false

/-- the letter of a form and fills, part by part -/
def builtR : List Part → List (List ByteArray) → List ByteArray
  | [], _ => []
  | p :: ps, fs => if roomyM p then fs.headD [] ++ builtR ps fs.tail else p.words ++ builtR ps fs
theorem built_rec (ps : List Part) (fs : List (List ByteArray)) : ∀ k, k ≤ ps.length → (builtTo ps fs k).1 ++ builtR (ps.drop k) (builtTo ps fs k).2 = builtR ps fs
  | 0, _ => by simp [builtTo]
  | k + 1, hk => by
    have ih := built_rec ps fs k (by omega)
    have hlt : k < ps.length := by omega
    rw [List.drop_eq_getElem_cons hlt, builtR] at ih
    have e : ps.getD k ⟨[], 0, 0⟩ = ps[k] := by rw [List.getD_eq_getElem?_getD, List.getElem?_eq_getElem hlt]; rfl
    rw [builtTo, stepB, e]
    cases hr : roomyM ps[k]
    · rw [hr] at ih
      simp only [Bool.false_eq_true, if_false] at ih ⊢
      rw [List.append_assoc]; exact ih
    · rw [hr] at ih
      simp only [if_true] at ih ⊢
      rw [List.append_assoc]; exact ih
theorem built_is (ps : List Part) (fs : List (List ByteArray)) : builtM ps fs = builtR ps fs := by
  have := built_rec ps fs ps.length (Nat.le_refl _)
  rw [List.drop_length] at this
  unfold builtM
  rw [← this, builtR, List.append_nil]
theorem edS_words {a : List ByteArray} {ss : List Slot} {n : Nat} (h : EdS a ss n) : ∀ ws : List ByteArray, EdS (ws ++ a) (givenM ws ++ ss) n
  | [] => h
  | x :: ws => .keep x ⟨x, false⟩ (by simp [takesM]) (edS_words h ws)
theorem edS_room {a : List ByteArray} {ss : List Slot} {n : Nat} (h : EdS a ss n) : ∀ (l : List ByteArray) (sl : List Slot), l.length ≤ sl.length → (∀ s ∈ sl, s.word = ByteArray.empty) → (∀ s ∈ sl.drop l.length, s.free = true) → EdS (l ++ a) (sl ++ ss) n
  | [], [], _, _, _ => h
  | [], s :: sl, _, hw, hf => .skip s (hf s (by simp)) (edS_room h [] sl (by simp) (fun x hx => hw x (List.mem_cons_of_mem _ hx)) fun x hx => hf x (by simpa using Or.inr (by simpa using hx)))
  | x :: l, [], hl, _, _ => by simp at hl
  | x :: l, s :: sl, hl, hw, hf => .keep x s (by have := hw s List.mem_cons_self; simp [takesM, this]) (edS_room h l sl (by simpa using hl) (fun x hx => hw x (List.mem_cons_of_mem _ hx)) fun x hx => hf x (by simpa using hx))
theorem roomSlots_free (lo : Int) (n m : Nat) (h : lo ≤ m) : ∀ s ∈ (roomSlotsM lo n).drop m, s.free = true := by
  intro s hs
  unfold roomSlotsM at hs
  rw [← List.map_drop, List.mem_map] at hs
  obtain ⟨k, hk, rfl⟩ := hs
  obtain ⟨i, hi, rfl⟩ := List.getElem_of_mem hk
  simp only [List.getElem_drop, List.getElem_range]
  exact decide_eq_true (by omega)
theorem PutOk.tail {p : Part} {rs : List Part} {l : List ByteArray} {fs : List (List ByteArray)} (h : PutOk (p :: rs) (l :: fs)) : PutOk rs fs ∧ (p.lo ≤ l.length ∧ (l.length : Int) ≤ p.hi) ∧ ∀ s ∈ l, wordM s = true :=
  ⟨⟨by have := h.le; simpa using this, fun i hi h2 => by have := h.at_ (i + 1) (by simp; omega) (by simp; omega); simpa using this, fun x hx => h.w x (List.mem_cons_of_mem _ hx)⟩, by have := h.at_ 0 (by simp) (by simp); simpa using this, h.w l List.mem_cons_self⟩
theorem made_ed : ∀ (ps : List Part) (fs : List (List ByteArray)), (∀ p ∈ ps, ValidPart p) → PutOk (roomsM ps) fs → fs.length = (roomsM ps).length →
    EdS (builtR ps fs) (formSlotsM ps) 0 ∧ (builtR ps fs).length ≤ 3 * ps.length ∧ ∀ s ∈ builtR ps fs, wordM s = true
  | [], fs, _, _, _ => ⟨.nil, by simp [builtR], by simp [builtR]⟩
  | p :: ps, fs, hv, hp, hn => by
    have hvp := hv p List.mem_cons_self
    have hv' : ∀ q ∈ ps, ValidPart q := fun q hq => hv q (List.mem_cons_of_mem _ hq)
    have hs : formSlotsM (p :: ps) = partSlotsM p ++ formSlotsM ps := by simp [formSlotsM]
    rw [hs, builtR]
    cases hr : roomyM p
    · have hrm : roomsM (p :: ps) = roomsM ps := by simp [roomsM, hr]
      rw [hrm] at hp hn
      obtain ⟨i1, i2, i3⟩ := made_ed ps fs hv' hp hn
      have hne : p.words ≠ [] := fun e => by unfold roomyM at hr; rw [e] at hr; simp at hr
      have h0 : partSlotsM p = givenM p.words := by
        unfold partSlotsM
        rw [(hvp.z hne).2]
        simp [roomSlotsM]
      have hw := hvp.w
      have h3 := hvp.n
      unfold wordsM at hw
      rw [List.all_eq_true] at hw
      rw [h0]
      simp only [Bool.false_eq_true, if_false, List.length_append, List.length_cons]
      refine ⟨edS_words i1 _, by omega, fun s hs => ?_⟩
      rcases List.mem_append.1 hs with h | h
      · exact hw s h
      · exact i3 s h
    · have hrm : roomsM (p :: ps) = p :: roomsM ps := by simp [roomsM, hr]
      rw [hrm] at hp hn
      cases fs with
      | nil => simp at hn
      | cons l fs =>
        obtain ⟨t1, t2, t3⟩ := hp.tail
        obtain ⟨i1, i2, i3⟩ := made_ed ps fs hv' t1 (by simpa using hn)
        have he : p.words = [] := by unfold roomyM at hr; exact List.eq_nil_of_length_eq_zero (by simpa using hr)
        obtain ⟨r1, r2, r3, r4⟩ := hvp.r he
        have h0 : partSlotsM p = roomSlotsM p.lo p.hi.toNat := by unfold partSlotsM; rw [he]; rfl
        have hlen : (roomSlotsM p.lo p.hi.toNat).length = p.hi.toNat := by simp [roomSlotsM]
        rw [h0]
        simp only [if_true, List.headD_cons, List.tail_cons, List.length_append, List.length_cons]
        refine ⟨edS_room i1 l _ (by rw [hlen]; omega) (fun s hs => ?_) (roomSlots_free _ _ _ t2.1), by omega, fun s hs => ?_⟩
        · unfold roomSlotsM at hs
          obtain ⟨k, -, rfl⟩ := List.mem_map.1 hs
          rfl
        · rcases List.mem_append.1 hs with h | h
          · exact t3 s h
          · exact i3 s h
theorem lett_okM {l : List ByteArray} (h : l.length ≤ 15) (hw : ∀ s ∈ l, wordM s = true) : letterErrL l = 0 := by
  unfold letterErrL
  rw [if_neg (by omega), if_neg]
  rw [Bool.not_eq_false]
  unfold wordsM
  rw [List.all_eq_true]
  exact hw
/-- a letter that is made of a form: right, and no nearer than what the form needs -/
theorem made_far {f : Form} (hv : ValidForm f) {fs : List (List ByteArray)} (hp : PutOk (roomsM f.parts) fs) (hn : fs.length = (roomsM f.parts).length) {l : List ByteArray} (hl : letterErrL l = 0) :
    letterErrL (builtM f.parts fs) = 0 ∧ fewErrM l (builtM f.parts fs) = 0 ∧ (costM l (formSlotsM f.parts)).2 ≤ fewManyM l (builtM f.parts fs) := by
  obtain ⟨h1, h2, h3⟩ := made_ed f.parts fs hv.parts hp hn
  rw [← built_is] at h1 h2 h3
  have h5 := hv.n
  have hL := lett_okM (by omega) h3
  have hE : fewErrM l (builtM f.parts fs) = 0 := by unfold fewErrM; rw [if_neg (by rw [hl]; simp), hL]
  refine ⟨hL, hE, ?_⟩
  have := cost_wayS (a := l) (formSlotsM f.parts) h3
  have h0 := cost_le h1
  unfold fewManyM
  rw [if_pos hE]
  omega
theorem Ed.pre {a b : List ByteArray} {n : Nat} (h : Ed a b n) : ∀ p : List ByteArray, Ed (p ++ a) (p ++ b) n
  | [] => h
  | x :: p => .keep x (Ed.pre h p)
theorem Ed.same : ∀ a : List ByteArray, Ed a a 0
  | [] => .nil
  | x :: a => .keep x (Ed.same a)
def dropW (l : List ByteArray) (n : Nat) : List ByteArray := l.take n ++ l.drop (n + 1)
theorem cost_ed {a b : List ByteArray} {n : Nat} (hb : ∀ s ∈ b, wordM s = true) (h : Ed a b n) : (costM a (givenM b)).2 ≤ n := by
  rw [cost_far (a.length + b.length + 1) a b (by omega) hb]
  exact far_le h _ (by omega)
theorem near_one {a b : List ByteArray} (ha : ∀ s ∈ a, wordM s = true) (hb : ∀ s ∈ b, wordM s = true) (h1 : Ed a b 1) (h2 : Ed b a 1) (ss : List Slot) : (costM b ss).2 ≤ (costM a ss).2 + 1 ∧ (costM a ss).2 ≤ (costM b ss).2 + 1 := by
  have g1 := cost_wayS (a := b) ss ha
  have g2 := cost_wayS (a := a) ss hb
  have g3 := cost_ed hb h1
  have g4 := cost_ed ha h2
  omega
theorem drop_one {l : List ByteArray} {n : Nat} (h : n < l.length) : Ed l (dropW l n) 1 ∧ Ed (dropW l n) l 1 := by
  have e : l = l.take n ++ l[n] :: l.drop (n + 1) := by rw [← List.drop_eq_getElem_cons h, List.take_append_drop]
  have a1 : Ed (l[n] :: l.drop (n + 1)) (l.drop (n + 1)) (0 + 1) := .drop _ (Ed.same _)
  have a2 : Ed (l.drop (n + 1)) (l[n] :: l.drop (n + 1)) (0 + 1) := .put _ (Ed.same _)
  have b1 := Ed.pre a1 (l.take n)
  have b2 := Ed.pre a2 (l.take n)
  rw [← e] at b1 b2
  exact ⟨b1, b2⟩
theorem turn_one {l : List ByteArray} {n : Nat} (h : n < l.length) : Ed l (turnW l n) 1 ∧ Ed (turnW l n) l 1 := by
  have e : l = l.take n ++ l[n] :: l.drop (n + 1) := by rw [← List.drop_eq_getElem_cons h, List.take_append_drop]
  have a1 : Ed (l[n] :: l.drop (n + 1)) (zzW :: l.drop (n + 1)) (0 + 1) := .turn _ _ (Ed.same _)
  have a2 : Ed (zzW :: l.drop (n + 1)) (l[n] :: l.drop (n + 1)) (0 + 1) := .turn _ _ (Ed.same _)
  have b1 := Ed.pre a1 (l.take n)
  have b2 := Ed.pre a2 (l.take n)
  rw [← e] at b1 b2
  have e2 : turnW l n = l.take n ++ zzW :: l.drop (n + 1) := by unfold turnW; simp
  rw [e2]
  exact ⟨b1, b2⟩
theorem zz_word : wordM zzW = true := by decide +kernel
/-- one word less, or another one: right, and no further from any form than by one -/
theorem other_ok {l : List ByteArray} (hl : letterErrL l = 0) {n : Nat} (h : n < l.length) (ss : List Slot) :
    (letterErrL (dropW l n) = 0 ∧ (costM (dropW l n) ss).2 ≤ (costM l ss).2 + 1 ∧ (costM l ss).2 ≤ (costM (dropW l n) ss).2 + 1) ∧
    (letterErrL (turnW l n) = 0 ∧ (costM (turnW l n) ss).2 ≤ (costM l ss).2 + 1 ∧ (costM l ss).2 ≤ (costM (turnW l n) ss).2 + 1) := by
  obtain ⟨h15, hw⟩ := lettErr_ok hl
  have wd : ∀ s ∈ dropW l n, wordM s = true := fun s hs => by
    rcases List.mem_append.1 hs with h | h
    · exact hw s (List.mem_of_mem_take h)
    · exact hw s (List.mem_of_mem_drop h)
  have wt : ∀ s ∈ turnW l n, wordM s = true := fun s hs => by
    rcases List.mem_append.1 hs with h | h
    · rcases List.mem_append.1 h with h | h
      · exact hw s (List.mem_of_mem_take h)
      · rw [List.mem_singleton] at h; subst h; exact zz_word
    · exact hw s (List.mem_of_mem_drop h)
  obtain ⟨d1, d2⟩ := drop_one h
  obtain ⟨t1, t2⟩ := turn_one h
  refine ⟨⟨lett_okM (by unfold dropW; rw [List.length_append, List.length_take, List.length_drop]; omega) wd, near_one hw wd d1 d2 ss⟩, ⟨lett_okM (by unfold turnW; rw [List.length_append, List.length_append, List.length_take, List.length_drop]; simp; omega) wt, near_one hw wt t1 t2 ss⟩⟩
end Go.Proofs.YtcamegaimleomaaGreat

namespace Go.Proofs.YtcamegaimleomaaGreat
set_option linter.unusedSimpArgs false
set_option linter.unusedVariables false
open Go.RowKit
set_option linter.unusedVariables false

set_option maxRecDepth 100000 in
theorem which_any (sv : Value) (s : Shelf) (x : Nat) (hx : x ≤ 255) (w : World) (hs : ShelfAt w sv s) (h0 : s.forms.length ≠ 0) (h4 : s.forms.length ≤ 4) :
    Calls Tryz.prog 27 #[sv, .int .u8 x] w fun e w' => e = .returned (.int .i64 ((x % s.forms.length : Nat) : Int)) ∧ Ext w w' := by
  obtain ⟨fa, fc, rfl, -⟩ := hs.open
  have mq := mod_nat x s.forms.length
  have q1 : x % s.forms.length < s.forms.length := Nat.mod_lt _ (by omega)
  generalize x % s.forms.length = q at *
  have wq : IntKind.i64.wrap (q : Int) = q := IntWalk.i64_in _ (by omega)
  have wx : IntKind.i64.wrap (x : Int) = x := IntWalk.i64_in _ (by omega)
  have h0' : ((s.forms.length : Int) == 0) = false := by simpa using h0
  go_enter Tryz.func27, Tryz.ntmps27
  go_wp2
  go_ret
  exact ⟨rfl, (by first | (with_reducible exact Ext.refl _) | (with_reducible assumption) | (show Below _ _ _; go_grown; done))⟩
theorem few_le30 (a b : List ByteArray) (ha : a.length ≤ 15) (hb : b.length ≤ 15) : fewManyM a b ≤ 30 := by
  unfold fewManyM
  split
  · have := costM_le a (givenM b)
    have hg : (givenM b).length = b.length := by simp [givenM]
    omega
  · omega
/-- fills that are right for these rooms -/
def AnyF (rooms : List Part) (u : Value) (w : World) : Prop := ∃ fs, FillsAt w u fs ∧ PutOk rooms fs ∧ fs.length = rooms.length
noncomputable def AnyF.fs {rooms : List Part} {u : Value} {w : World} (h : AnyF rooms u w) : List (List ByteArray) := Exists.choose h
theorem AnyF.spec {rooms : List Part} {u : Value} {w : World} (h : AnyF rooms u w) : FillsAt w u h.fs ∧ PutOk rooms h.fs ∧ h.fs.length = rooms.length := Exists.choose_spec h
theorem AnyF.ext {rooms : List Part} {u : Value} {w w' : World} (h : AnyF rooms u w) (hx : Ext w w') : AnyF rooms u w' := by
  obtain ⟨fs, h1, h2⟩ := h; exact ⟨fs, h1.ext hx, h2⟩
theorem putOk_len {f : Form} (hv : ValidForm f) {fs : List (List ByteArray)} (hp : PutOk (roomsM f.parts) fs) : ∀ l ∈ fs, l.length ≤ 15 := by
  intro l hl
  obtain ⟨i, hi, rfl⟩ := List.getElem_of_mem hl
  have h2 : i < (roomsM f.parts).length := by have := hp.le; omega
  have h3 := (hp.at_ i hi h2).2
  have hm := List.mem_filter.1 (List.getElem_mem h2)
  have hr := (hv.parts _ hm.1).room hm.2
  omega
/-- a letter of the form -/
def MadeF (f : Form) (l : List ByteArray) (u : Value) (w : World) : Prop := ∃ m, StrsAt w u m ∧ letterErrL m = 0 ∧ fewErrM l m = 0 ∧ (costM l (formSlotsM f.parts)).2 ≤ fewManyM l m
theorem MadeF.ext {f : Form} {l : List ByteArray} {u : Value} {w w' : World} (h : MadeF f l u w) (hx : Ext w w') : MadeF f l u w' := by
  obtain ⟨m, h1, h2⟩ := h; exact ⟨m, h1.ext hx, h2⟩
end Go.Proofs.YtcamegaimleomaaGreat
