/-
  A HOUSE WHOSE ENTRIES ARE THOSE OF ANY RATES: that its books agree. Plain.
  A COPY OF ENTRIES, OF THE CALL's OWN, and stores of an entry into it.
  Told: the regions in which an entry is turned, and stored.
  WHAT Told RETURNS: a house whose entries are those of any of its rates, and these rates.
  RateTrue: the regions in which what is known is held against the rates.
  RateTrue: if entries are those of any rates both books agree.
-/
import Derived.Test.YtdadffmagfknoaaBunAU
import Derived.Test.YtdadffmagfknoaaBunAG
import Derived.Laws.AppendOwnNone
import Derived.Test.YtdadffmagfknoaaBunAM
import Derived.Test.YtdadffmagfknoaaBunAJ
import Derived.Test.YtdadffmagfknoaaBunAN
import Derived.Deep.CutBlock
import Derived.Outline
import Derived.RegionTactic
import Derived.BigRegion
import Derived.Deep.DeepCutAuto
import Derived.Test.YtdadffmagfknoaaBunAS
import Derived.Test.YtdadffmagfknoaaBunAK
import Derived.Lib.LazyBuf
namespace Go.Proofs.Ytdadffmagfknoaa
set_option linter.unusedSimpArgs false
set_option linter.unusedVariables false
open Go.RowKit
set_option linter.unusedVariables false

theorem payM_most {a : Agt} (ha : 0 ≤ a.fee ∧ a.fee ≤ 20) {near rate : Int} (hn : 0 ≤ near ∧ near ≤ 99) (hr : 0 ≤ rate ∧ rate ≤ 20) : 0 ≤ payM a near rate ∧ payM a near rate ≤ 198 := by
  have h1 : 0 ≤ max (near - a.fee) 0 * rate := Int.mul_nonneg (by omega) hr.1
  have h2 : max (near - a.fee) 0 * rate ≤ 99 * 20 := Int.mul_le_mul (by omega) hr.2 hr.1 (by omega)
  unfold payM
  split
  · omega
  · split <;> omega
/-- an entry as rates have it, as far as it is told -/
def fixE (h : House) (r : List Int) (e : Ent) : Ent := if toldE e = true then ⟨e.agent, e.day, e.near, entPay h e (r.getD e.day.toNat 0)⟩ else e
theorem fixE_same (h : House) (r : List Int) (e : Ent) : (fixE h r e).agent = e.agent ∧ (fixE h r e).day = e.day ∧ (fixE h r e).near = e.near := by
  unfold fixE; split <;> exact ⟨rfl, rfl, rfl⟩
theorem rates_in {h : House} (hV : ValidH h) {r : List Int} (hr : r ∈ ratesL h) {e : Ent} (he : EntOk h e) : 0 ≤ r.getD e.day.toNat 0 ∧ r.getD e.day.toNat 0 ≤ 20 := by
  have hg := ratesL_good hV hr (j := e.day.toNat) (by have := he.2.1; omega)
  exact ⟨by omega, hg.2⟩
theorem fixE_ok {h : House} (hV : ValidH h) {r : List Int} (hr : r ∈ ratesL h) {e : Ent} (he : EntOk h e) : EntOk h (fixE h r e) := by
  obtain ⟨h1, h2, h3⟩ := fixE_same h r e
  obtain ⟨g1, g2, g3, g4⟩ := he
  refine ⟨by rw [h1]; exact g1, by rw [h2]; exact g2, by rw [h3]; exact g3, ?_⟩
  unfold fixE
  split
  · have := payM_most (hV.agent _ (agtAt_mem (h := h) (i := e.agent) g1.1 g1.2)).1 g3 (rates_in hV hr ⟨g1, g2, g3, g4⟩)
    show -1 ≤ payM _ _ _ ∧ payM _ _ _ ≤ 198
    omega
  · exact g4
theorem fixE_fine (h : House) (r : List Int) (e : Ent) : fineE h r (fixE h r e) = true := by
  unfold fineE
  cases ht : toldE (fixE h r e)
  · rfl
  · have hte : toldE e = true := by
      cases h0 : toldE e
      · unfold fixE at ht; rw [h0] at ht; simp only [Bool.false_eq_true, if_false] at ht; rw [h0] at ht; cases ht
      · rfl
    simp only [Bool.not_true, Bool.false_or]
    unfold agreesM fixE
    rw [hte, if_pos rfl]
    show (entPay h _ _ == entPay h _ _) = true
    simp [entPay]
theorem fixE_told {h : House} (hV : ValidH h) {r : List Int} (hr : r ∈ ratesL h) {e : Ent} (he : EntOk h e) : toldE (fixE h r e) = toldE e := by
  unfold fixE
  split
  · rename_i h1
    rw [h1]
    have := payM_most (hV.agent _ (agtAt_mem (h := h) (i := e.agent) he.1.1 he.1.2)).1 he.2.2.1 (rates_in hV hr he)
    unfold toldE
    show (entPay h e _ != -1) = true
    unfold entPay
    simp only [bne_iff_ne, ne_eq]
    omega
  · rfl
def toldL (h : House) (r : List Int) : List Ent := h.entries.map (fixE h r)
def toldH (h : House) (r : List Int) : House := withE h (toldL h r)
theorem toldL_len (h : House) (r : List Int) : (toldL h r).length = h.entries.length := by simp [toldL]
theorem toldL_ok {h : House} (hV : ValidH h) {r : List Int} (hr : r ∈ ratesL h) : (toldL h r).length ≤ 5 ∧ ∀ e ∈ toldL h r, EntOk h e :=
  ⟨by rw [toldL_len]; exact hV.entries, fun e he => by obtain ⟨x, hx, rfl⟩ := List.mem_map.1 he; exact fixE_ok hV hr (hV.entry x hx)⟩
theorem told_at (h : House) (r : List Int) {i : Nat} (hi : i < h.entries.length) : entAt (toldH h r) i = fixE h r (entAt h i) := by
  unfold entAt toldH withE toldL
  simp [List.getD_eq_getElem?_getD, List.getElem?_eq_getElem hi]
/-- all that is so of such a house -/
structure ToldOk (z : House) (r : List Int) : Prop where
  err : raErr z = 0
  wrong : wrongErr z = 0 ∧ wrongL z = []
  first : firstErrM z = 0 ∧ 1 ≤ firstNM z
  rate : ∀ d : Nat, (d : Int) < z.days → numErr z [⟨d, daysM z, 4⟩] (fun r => r.getD d 0) = 0 ∧ inM (r.getD d 0) (numSpan z [⟨d, daysM z, 4⟩] (fun r => r.getD d 0)).1 (numSpan z [⟨d, daysM z, 4⟩] (fun r => r.getD d 0)).2 = true
  agree : ∀ i : Nat, i < z.entries.length → (toldE (entAt z i) = false → agreeErr z [⟨i, entsM z, 4⟩] i = 2) ∧ (toldE (entAt z i) = true → agreeErr z [⟨i, entsM z, 4⟩] i = 0 ∧ agreeHow z [⟨i, entsM z, 4⟩] i ≠ 2)
  paid : ∀ a : Nat, a < z.agents.length → numErr z [⟨a, agtsM z, 4⟩] (fun r => paidM z a r) = 0 ∧ inM (paidM z a r) (numSpan z [⟨a, agtsM z, 4⟩] (fun r => paidM z a r)).1 (numSpan z [⟨a, agtsM z, 4⟩] (fun r => paidM z a r)).2 = true
theorem told_ok {h : House} (he : raErr h = 0) {r : List Int} (hr : r ∈ ratesL h) : ToldOk (toldH h r) r := by
  have hV := validH_of he
  obtain ⟨hl, hes⟩ := toldL_ok hV hr
  have hz : raErr (toldH h r) = 0 := withE_err he hl hes
  have hVz := validH_of hz
  have hrz : r ∈ ratesL (toldH h r) := by unfold toldH; rw [ratesL_withE]; exact hr
  have htr : ∀ out, r ∈ truL (toldH h r) out := fun out => (mem_truL hVz).2 ⟨hrz, fun i hi _ ht => by
    have hi' : i < h.entries.length := by have : (toldH h r).entries.length = h.entries.length := toldL_len h r; omega
    rw [told_at h r hi'] at ht ⊢
    have := fixE_fine h r (entAt h i)
    unfold fineE at this
    rw [ht] at this
    simp only [Bool.not_true, Bool.false_or] at this
    exact this⟩
  have hne : truL (toldH h r) (outB 0) ≠ [] := List.ne_nil_of_mem (htr _)
  have hp0 : trueP (toldH h r) 0 = true := trueP_iff.2 ⟨r, htr _⟩
  have hwe : wrongErr (toldH h r) = 0 := Decidable.byContradiction fun hw => by
    have := (wrong_none hz hw).2.2 0 (Nat.two_pow_pos _)
    rw [hp0] at this; cases this
  refine ⟨hz, ⟨hwe, ?_⟩, ?_, fun d hd => ?_, fun i hi => ?_, fun a ha => ?_⟩
  · have := rcmpFew_len ((wrong_ok hz hwe).2 0 (Nat.two_pow_pos _) hp0)
    have e : membersM 0 = [] := by decide
    rw [e] at this
    exact List.eq_nil_of_length_eq_zero (by simpa using this)
  · unfold firstErrM firstNM
    rw [if_neg (by rw [hz]; decide), if_neg hne, if_neg (by rw [hz]; decide)]
    exact ⟨rfl, List.length_pos_iff.2 hne⟩
  · obtain ⟨h1, h2⟩ := rate_ok hz hne (d := (d : Int)) ⟨by omega, hd⟩ (fun r => r.getD d 0)
    exact ⟨h1, (inM_iff _ _ _).2 (h2.all r (htr _))⟩
  · have ho : openR (toldH h r) [⟨(i : Int), entsM (toldH h r), 4⟩] = 0 := by
      rw [openR_one hz _ (by show (4 : Int) ≠ 0; decide), if_neg]
      rw [entsM_is hVz]
      simp [inM]; omega
    unfold agreeErr agreeHow
    have hno : ¬ openR (toldH h r) [⟨(i : Int), entsM (toldH h r), 4⟩] ≠ 0 := fun g => g ho
    rw [if_neg hno, if_neg hno]
    refine ⟨fun ht => by rw [if_pos ht], fun ht => ?_⟩
    have hnt : ¬ toldE (entAt (toldH h r) i) = false := by rw [ht]; decide
    rw [if_neg hnt, if_neg hnt]
    have hm := htr (outB (2 ^ i))
    have hlen : (truL (toldH h r) (outB (2 ^ i))).length ≠ 0 := fun e => by rw [List.eq_nil_of_length_eq_zero e] at hm; cases hm
    have hi' : i < h.entries.length := by have : (toldH h r).entries.length = h.entries.length := toldL_len h r; omega
    have hag : agreesM (toldH h r) (entAt (toldH h r) i) r = true := by
      rw [told_at h r hi'] at ht ⊢
      have := fixE_fine h r (entAt h i)
      unfold fineE at this
      rw [ht] at this
      simp only [Bool.not_true, Bool.false_or] at this
      exact this
    have hcnt : 0 < (truL (toldH h r) (outB (2 ^ i))).countP (fun r' => agreesM (toldH h r) (entAt (toldH h r) i) r') := List.countP_pos_iff.2 ⟨r, hm, hag⟩
    unfold howM
    rw [if_neg hlen, if_neg (by omega)]
    split <;> exact ⟨rfl, by decide⟩
  · have ho : ∀ x ∈ [(⟨(a : Int), agtsM (toldH h r), 4⟩ : ArgR)], inM x.n 0 x.most = true := fun x hx => by
      rw [List.mem_singleton] at hx; subst hx
      rw [agtsM_is hVz]
      exact (inM_iff _ _ _).2 ⟨by simp, by simp; omega⟩
    obtain ⟨h1, h2⟩ := num_ok hz hne _ ho (fun r' => paidM (toldH h r) a r')
    exact ⟨h1, (inM_iff _ _ _).2 (h2.all r (htr _))⟩
theorem told_tru {h : House} (he : raErr h = 0) {r : List Int} (hr : r ∈ ratesL h) : r ∈ truL (toldH h r) (outB 0) := by
  obtain ⟨hl, hes⟩ := toldL_ok (validH_of he) hr
  have hVz : ValidH (toldH h r) := validH_of (show raErr (toldH h r) = 0 from withE_err he hl hes)
  refine (mem_truL hVz).2 ⟨by unfold toldH; rw [ratesL_withE]; exact hr, fun i hi _ ht => ?_⟩
  have hi' : i < h.entries.length := by have : (toldH h r).entries.length = h.entries.length := toldL_len h r; omega
  rw [told_at h r hi'] at ht ⊢
  have := fixE_fine h r (entAt h i)
  unfold fineE at this
  rw [ht] at this
  simp only [Bool.not_true, Bool.false_or] at this
  exact this
end Go.Proofs.Ytdadffmagfknoaa

namespace Go.Proofs.Ytdadffmagfknoaa
set_option linter.unusedSimpArgs false
set_option linter.unusedVariables false
open Go.RowKit
set_option linter.unusedVariables false

theorem ents_news {w : World} {ad : Addr} {n c : Nat} {es : List Ent} (h : EntriesAt w (.slice (some ad) n c) es) : ∀ j u, (cellsN es)[j]? = some u → w.cell? (ad.add j) = some u := by
  intro j u hu
  have hj : j < es.length * 4 := by
    rcases Nat.lt_or_ge j (es.length * 4) with h1 | h1
    · exact h1
    · rw [List.getElem?_eq_none (by rw [cellsN_len]; omega)] at hu; cases hu
  have hi : j / 4 < es.length := by omega
  obtain ⟨b, o, e2, r0, r1, r2, r3, -⟩ := SliceAt.get h hi
  obtain rfl := Option.some.inj e2
  obtain ⟨c0, c1, c2, c3⟩ := cellsN_get es (j / 4) hi
  have ea : (⟨b, o, none⟩ : Addr).add j = ⟨b, o + j, none⟩ := by unfold Addr.add; split <;> simp_all
  rw [ea]
  have hr : j = j / 4 * 4 ∨ j = j / 4 * 4 + 1 ∨ j = j / 4 * 4 + 2 ∨ j = j / 4 * 4 + 3 := by omega
  rcases hr with h1 | h1 | h1 | h1 <;> rw [h1] at hu ⊢
  · rw [c0] at hu; cases hu; exact r0
  · rw [c1] at hu; cases hu; rw [← Nat.add_assoc]; exact r1
  · rw [c2] at hu; cases hu; rw [← Nat.add_assoc]; exact r2
  · rw [c3] at hu; cases hu; rw [← Nat.add_assoc]; exact r3
section
variable {P : Program} (w : World)
theorem run_append_owned_nc (base : Nat) (t ty e : TypeId) (i : TypeInfo) (size c : Nat) (ht : P.underlying t = some (.slice e)) (hi : P.info? e = some i)
    (v : Value) (n : Nat) (xs : List Value) (hown : w.ownsRow base e size v n xs) :
    (Builtin.append_ #[t, t] ty #[v, .slice none 0 c]).run P w = .ok v w := by
  rcases hown.2 with ⟨rfl, rfl⟩ | ⟨g, cap, cur, rfl, _, _, hnc, _⟩
  · simp [Builtin.append_, run_underlying ht, sizeOf, typeInfo, hi, Builtin.lenOf, Builtin.firstCells]
  · simp [Builtin.append_, run_underlying ht, sizeOf, typeInfo, hi, Builtin.lenOf, Builtin.firstCells, hnc, storeCells]
end
/-- entries that are appended to a row of nothing -/
theorem wpList_append_ents {w : World} {ops : Array Oper} {rest : List Oper} {o : Oper} {a : Act} {Q : Exit → Act → World → Prop} (hgd : o.guard = none) (s x : Operand)
    (ho : o.op = .call { callee := .builtin .append, args := #[s, x], argTypes := #[24, 24] })
    (base B : Nat) (hs : a.eval s = .slice (some ⟨B, 0, none⟩) 0 0) (hown : w.ownsRow base 58 4 (.slice (some ⟨B, 0, none⟩) 0 0) 0 []) (hbase : base ≤ w.heap.size)
    (ea : Option Addr) (n c : Nat) (es : List Ent) (hx : a.eval x = .slice ea n c) (hE : EntriesAt w (.slice ea n c) es) (hb : n * 32 ≤ 140737488355328)
    (h : ∀ v' w', RowN base es v' w' → w.grownBy w' (some B) → wpList Try.prog ops Q rest (a.put o.dst v') w') : wpList Try.prog ops Q (o :: rest) a w := by
  obtain ⟨i0, hi, hz0, hz1, hz2⟩ := info_parts infoEnt
  have hn : n = es.length := by obtain ⟨_, _, e, -⟩ := hE; exact (Value.slice.inj e).2.1
  cases ea with
  | none =>
    have h0 : es.length = 0 := by
      rcases Nat.eq_zero_or_pos es.length with h1 | h1
      · exact h1
      · obtain ⟨_, _, e, -⟩ := SliceAt.get hE h1; cases e
    have hes : es = [] := List.eq_nil_of_length_eq_zero h0
    subst hes
    have hn0 : n = 0 := hn
    subst hn0
    have hrun := run_append_owned_nc (P := Try.prog) w base 24 o.type 58 i0 4 c Try.underlying24 hi _ 0 [] hown
    refine wpList_plain hgd fun K hK => ?_
    unfold Oper.wp
    simp [execOp, ho, resolve, invoke, builtin, hs, hx, hrun, Result.andThen]
    exact hK _ _ (h _ _ hown ⟨rfl, rfl, rfl, Nat.le_refl _, fun _ _ _ => rfl⟩)
  | some ad =>
    subst hn
    refine wpList_append_own _ hgd s x 24 ho base 58 i0 (.agg #[.int .i64 0, .int .i64 0, .int .i64 0, .int .i64 0]) 4 32 Try.underlying24 hi hz0 hz1 hz2 rfl (by decide) _ 0 [] hs hown ad es.length c (cellsN es) hx (cellsN_len es) (ents_news hE) (cellsN_one es) (by unfold maxLen; omega) (by omega) hbase ?_
    intro v' w' ho' hg _
    rw [Nat.zero_add, List.nil_append] at ho'
    exact h v' w' ho' hg
/-- entries of the call's own, into which it may store -/
def EntsF (base : Nat) (w : World) (g : Nat) (l : List Ent) : Prop := base ≤ g ∧ ∀ i (h : i < l.length), entryR w g (i * 4) l[i] ∧ ∀ r, r < 4 → w.frozen? ⟨g, i * 4 + r, none⟩ = false
theorem EntsF.ext {base g : Nat} {w w' : World} {l : List Ent} (h : EntsF base w g l) (hx : Ext w w') : EntsF base w' g l :=
  ⟨h.1, fun i hi => ⟨entryR.keeps _ _ _ _ _ hx (h.2 i hi).1, fun r hr => (hx.frozen (p := ⟨g, i * 4 + r, none⟩) (show g < w.heap.size from cell_lt (h.2 i hi).1.1)).trans ((h.2 i hi).2 r hr)⟩⟩
theorem EntsF.other {base g : Nat} {w : World} {l : List Ent} (h : EntsF base w g l) {p : Addr} (hp : p.block ≠ g) (x : Value) : EntsF base (w.setCell p x) g l :=
  ⟨h.1, fun i hi => by
    obtain ⟨⟨r0, r1, r2, r3, r4⟩, hf⟩ := h.2 i hi
    exact ⟨⟨set_other r0 (.inl hp) _, set_other r1 (.inl hp) _, set_other r2 (.inl hp) _, set_other r3 (.inl hp) _, r4⟩, fun r hr => by simpa [go_sem] using hf r hr⟩⟩
theorem EntsF.of_row {base : Nat} {l : List Ent} {u : Value} {w : World} (h : RowN base l u w) (hl : 0 < l.length) (hI : ∀ e ∈ l, EntI e) : ∃ g c, u = .slice (some ⟨g, 0, none⟩) l.length c ∧ l.length ≤ c ∧ c ≤ 9223372036854775807 ∧ EntsF base w g l := by
  have hcells := fun g hg => h.cells (g := g) hg
  rcases h.2 with ⟨-, hn⟩ | ⟨g, cap, cur, rfl, hb, hg, hnc, hcm, hcs, htake⟩
  · omega
  · refine ⟨g, cap, rfl, hnc, by simpa [maxLen] using hcm, hb, fun i hi => ⟨?_, fun r hr => frozen_of_row _ _ _ _ _ hg⟩⟩
    obtain ⟨c0, c1, c2, c3⟩ := cellsN_get l i hi
    have r0 := hcells g rfl _ _ c0
    have r1 := hcells g rfl _ _ c1
    have r2 := hcells g rfl _ _ c2
    have r3 := hcells g rfl _ _ c3
    have ea : ∀ j, (⟨g, 0, none⟩ : Addr).add j = ⟨g, 0 + j, none⟩ := fun j => by unfold Addr.add; split <;> simp_all
    rw [ea, Nat.zero_add] at r0 r1 r2 r3
    exact ⟨r0, r1, r2, r3, hI _ (List.getElem_mem hi)⟩
theorem EntsF.at_ {base g c : Nat} {l : List Ent} {w : World} (h : EntsF base w g l) (hc : l.length ≤ c) (hc2 : c ≤ 9223372036854775807) : EntriesAt w (.slice (some ⟨g, 0, none⟩) l.length c) l :=
  ⟨_, _, rfl, hc, hc2, fun i hi => ⟨g, 0, rfl, by have := (h.2 i hi).1; rwa [Nat.zero_add]⟩⟩
theorem EntsF.set {base g : Nat} {w : World} {l : List Ent} (h : EntsF base w g l) (k : Nat) (hk : k < l.length) (e : Ent) (he : EntI e) :
    EntsF base ((((w.setCell ⟨g, k * 4, none⟩ (.int .i64 e.agent)).setCell ⟨g, k * 4 + 1, none⟩ (.int .i64 e.day)).setCell ⟨g, k * 4 + 2, none⟩ (.int .i64 e.near)).setCell ⟨g, k * 4 + 3, none⟩ (.int .i64 e.far)) g (l.set k e) := by
  refine ⟨h.1, fun i hi => ?_⟩
  rw [List.length_set] at hi
  obtain ⟨⟨r0, r1, r2, r3, r4⟩, hf⟩ := h.2 i hi
  refine ⟨?_, fun r hr => by simpa [go_sem] using hf r hr⟩
  by_cases hik : i = k
  · subst hik
    rw [List.getElem_set_self]
    refine ⟨set_other (set_other (set_other (set_cell r0 _) (.inr (by simp)) _) (.inr (by simp)) _) (.inr (by simp)) _, set_other (set_other (set_cell (set_other r1 (.inr (by simp)) _) _) (.inr (by simp)) _) (.inr (by simp)) _, set_other (set_cell (set_other (set_other r2 (.inr (by simp)) _) (.inr (by simp)) _) _) (.inr (by simp)) _, set_cell (set_other (set_other (set_other r3 (.inr (by simp)) _) (.inr (by simp)) _) (.inr (by simp)) _) _, he⟩
  · rw [List.getElem_set_ne (fun e' => hik e'.symm)]
    have o4 : ∀ (a b : Nat), a < 4 → b < 4 → k * 4 + a ≠ i * 4 + b := fun a b ha hb e' => hik (by omega)
    have ne : ∀ {b : Nat} {v : Value}, b < 4 → w.cell? ⟨g, i * 4 + b, none⟩ = some v → ((((w.setCell ⟨g, k * 4, none⟩ (.int .i64 e.agent)).setCell ⟨g, k * 4 + 1, none⟩ (.int .i64 e.day)).setCell ⟨g, k * 4 + 2, none⟩ (.int .i64 e.near)).setCell ⟨g, k * 4 + 3, none⟩ (.int .i64 e.far)).cell? ⟨g, i * 4 + b, none⟩ = some v := fun hb hc =>
      set_other (set_other (set_other (set_other hc (.inr (o4 0 _ (by omega) hb)) _) (.inr (o4 1 _ (by omega) hb)) _) (.inr (o4 2 _ (by omega) hb)) _) (.inr (o4 3 _ (by omega) hb)) _
    exact ⟨ne (b := 0) (by omega) r0, ne (b := 1) (by omega) r1, ne (b := 2) (by omega) r2, ne (b := 3) (by omega) r3, r4⟩
end Go.Proofs.Ytdadffmagfknoaa

namespace Go.Proofs.Ytdadffmagfknoaa
set_option linter.unusedSimpArgs false
set_option linter.unusedVariables false
open Go.RowKit
set_option linter.unusedVariables false
set_option linter.unusedSimpArgs false
set_option maxRecDepth 100000
set_option maxHeartbeats 4000000 in
theorem told_r12 {u0 u1 u3 u4 u5 u6 u7 u10 u11 u12 u13 u14 u15 u16 u17 u18 u19 u20 u21 u22 u23 u24 u25 u26 u27 u28 u29 u30 u31 u32 u33 u34 u35 u36 u37 u38 u39 u40 u41 u42 u43 u44 u45 u46 u47 u48 u49 u50 u51 u52 u53 u54 u55 u56 u57 u58 u59 u60 u61 u62 u63 u64 u65 : Value} {R : World} {S E g n c k : Nat} {a b d f a' b' d' f' : Int} (hg : R.cell? ⟨S, 4, none⟩ = some (.slice (some ⟨g, 0, none⟩) n c)) (hk : k < n)
    (e0 : R.cell? ⟨E, 0, none⟩ = some (.int .i64 a)) (e1 : R.cell? ⟨E, 1, none⟩ = some (.int .i64 b)) (e2 : R.cell? ⟨E, 2, none⟩ = some (.int .i64 d)) (e3 : R.cell? ⟨E, 3, none⟩ = some (.int .i64 f))
    (d0 : R.cell? ⟨g, k * 4, none⟩ = some (.int .i64 a')) (d1 : R.cell? ⟨g, k * 4 + 1, none⟩ = some (.int .i64 b')) (d2 : R.cell? ⟨g, k * 4 + 2, none⟩ = some (.int .i64 d')) (d3 : R.cell? ⟨g, k * 4 + 3, none⟩ = some (.int .i64 f'))
    (f0 : R.frozen? ⟨g, k * 4, none⟩ = false) (f1 : R.frozen? ⟨g, k * 4 + 1, none⟩ = false) (f2 : R.frozen? ⟨g, k * 4 + 2, none⟩ = false) (f3 : R.frozen? ⟨g, k * 4 + 3, none⟩ = false) (Q : Exit → Act → World → Prop)
    (hQ : ∀ (v59 v60 v61 v62 v63 : Value), Q .normal ⟨#[u0, u1, .pointer (some ⟨S, 0, none⟩), u3, u4, u5, u6, u7, .int .i64 k, .pointer (some ⟨E, 0, none⟩), u10, u11, u12, u13, u14, u15, u16, u17, u18, u19, u20, u21, u22, u23, u24, u25, u26, u27, u28, u29, u30, u31, u32, u33, u34, u35, u36, u37, u38, u39, u40, u41, u42, u43, u44, u45, u46, u47, u48, u49, u50, u51, u52, u53, u54, u55, u56, u57, u58, v59, v60, v61, v62, v63, u64, u65], []⟩ ((((R.setCell ⟨g, k * 4, none⟩ (.int .i64 a)).setCell ⟨g, k * 4 + 1, none⟩ (.int .i64 b)).setCell ⟨g, k * 4 + 2, none⟩ (.int .i64 d)).setCell ⟨g, k * 4 + 3, none⟩ (.int .i64 f))) :
    Code.wp Try.prog (regionOf Try.f37 12) Q ⟨#[u0, u1, .pointer (some ⟨S, 0, none⟩), u3, u4, u5, u6, u7, .int .i64 k, .pointer (some ⟨E, 0, none⟩), u10, u11, u12, u13, u14, u15, u16, u17, u18, u19, u20, u21, u22, u23, u24, u25, u26, u27, u28, u29, u30, u31, u32, u33, u34, u35, u36, u37, u38, u39, u40, u41, u42, u43, u44, u45, u46, u47, u48, u49, u50, u51, u52, u53, u54, u55, u56, u57, u58, u59, u60, u61, u62, u63, u64, u65], []⟩ R := by
  conv => arg 2; whnf
  have k1 : (k : Int) < (n : Int) := by omega
  have HQ := Lib.hid hQ
  clear hQ
  go_wp2
  exact HQ.out _ _ _ _ _
set_option maxHeartbeats 4000000 in
theorem told_r11 {u0 u1 u3 u4 u5 u6 u8 u10 u11 u12 u13 u14 u15 u16 u17 u18 u19 u20 u21 u22 u23 u24 u25 u26 u27 u28 u29 u30 u31 u32 u33 u34 u35 u36 u37 u38 u39 u40 u41 u42 u43 u44 u45 u46 u47 u48 u49 u50 u51 u52 u53 u54 u55 u56 u57 u58 u59 u60 u61 u62 u63 u64 u65 : Value} {R : World} {S E ab ao na ac sb so nr sc j dd : Nat} {near rd f pay : Int} {A : Agt} (hg : R.cell? ⟨S, 3, none⟩ = some (.slice (some ⟨ab, ao, none⟩) na ac)) (hj : j < na) (hdd : dd < nr)
    (e0 : R.cell? ⟨E, 0, none⟩ = some (.int .i64 j)) (e1 : R.cell? ⟨E, 1, none⟩ = some (.int .i64 dd)) (e2 : R.cell? ⟨E, 2, none⟩ = some (.int .i64 near)) (e3 : R.cell? ⟨E, 3, none⟩ = some (.int .i64 f)) (ef : R.frozen? ⟨E, 3, none⟩ = false)
    (a0 : R.cell? ⟨ab, ao + j * 3, none⟩ = some (.string A.name)) (a1 : R.cell? ⟨ab, ao + j * 3 + 1, none⟩ = some (.int .i64 A.fee)) (a2 : R.cell? ⟨ab, ao + j * 3 + 2, none⟩ = some (.int .i64 A.round)) (rv : R.cell? ⟨sb, so + dd, none⟩ = some (.int .i64 rd))
    (hpy : ∀ w1, Calls Try.prog 47 #[.agg #[.string A.name, .int .i64 A.fee, .int .i64 A.round], .int .i64 near, .int .i64 rd] w1 fun r w' => r = .returned (.int .i64 pay) ∧ Ext w1 w') (Q : Exit → Act → World → Prop)
    (hQ : ∀ (v44 v45 v46 v47 v48 v49 v50 v51 v52 v53 v54 v55 v56 v57 v58 : Value) (wc : World), Ext R wc → Q .normal ⟨#[u0, u1, .pointer (some ⟨S, 0, none⟩), u3, u4, u5, u6, .slice (some ⟨sb, so, none⟩) nr sc, u8, .pointer (some ⟨E, 0, none⟩), u10, u11, u12, u13, u14, u15, u16, u17, u18, u19, u20, u21, u22, u23, u24, u25, u26, u27, u28, u29, u30, u31, u32, u33, u34, u35, u36, u37, u38, u39, u40, u41, u42, u43, v44, v45, v46, v47, v48, v49, v50, v51, v52, v53, v54, v55, v56, v57, v58, u59, u60, u61, u62, u63, u64, u65], []⟩ (wc.setCell ⟨E, 3, none⟩ (.int .i64 pay))) :
    Code.wp Try.prog (regionOf Try.f37 11) Q ⟨#[u0, u1, .pointer (some ⟨S, 0, none⟩), u3, u4, u5, u6, .slice (some ⟨sb, so, none⟩) nr sc, u8, .pointer (some ⟨E, 0, none⟩), u10, u11, u12, u13, u14, u15, u16, u17, u18, u19, u20, u21, u22, u23, u24, u25, u26, u27, u28, u29, u30, u31, u32, u33, u34, u35, u36, u37, u38, u39, u40, u41, u42, u43, u44, u45, u46, u47, u48, u49, u50, u51, u52, u53, u54, u55, u56, u57, u58, u59, u60, u61, u62, u63, u64, u65], []⟩ R := by
  conv => arg 2; whnf
  have kj : (j : Int) < (na : Int) := by omega
  have kd : (dd : Int) < (nr : Int) := by omega
  have HQ := Lib.hid hQ
  have HPY := Lib.hid hpy
  have EF := Lib.hid ef
  have zE := cell_lt e0
  clear hQ hpy ef
  apply Facts.wp_frame
  intro X hX
  have g2 : ∀ h, X.tmps[2]'h = .pointer (some ⟨S, 0, none⟩) := by rw [hX]; exact fun _ => rfl
  have g7 : ∀ h, X.tmps[7]'h = .slice (some ⟨sb, so, none⟩) nr sc := by rw [hX]; exact fun _ => rfl
  have g9 : ∀ h, X.tmps[9]'h = .pointer (some ⟨E, 0, none⟩) := by rw [hX]; exact fun _ => rfl
  have gsz : X.tmps.size = 66 := by rw [hX]; rfl
  have HX := Lib.hid hX
  clear hX
  apply Facts.Dep.Many.wp_regionL Facts.Dep.Many.manyE 15 [.val _, .val (.slice (some ⟨ab, ao, none⟩) na ac), .val _, .val (.int .i64 j), .val _, .val (.agg #[.string A.name, .int .i64 A.fee, .int .i64 A.round]), .val _, .val (.int .i64 near), .val _, .val _, .val (.int .i64 dd), .val _, .val (.int .i64 rd), .val (.int .i64 pay), .val (.pointer (some ⟨E, 3, none⟩))] (by kernel_rfl) (by kernel_rfl) (by kernel_rfl) (by kernel_rfl) (by kernel_rfl) (by kernel_rfl) trivial ?main
  case main =>
  iterate 13 (refine ⟨fun w1 hx hh => ?_, ?_⟩; focus (clear hh; have j0 := hx.cell hg; have j1 := hx.cell e0; have j2 := hx.cell e1; have j3 := hx.cell e2; have j4 := hx.cell a0; have j5 := hx.cell a1; have j6 := hx.cell a2; have j7 := hx.cell rv; go_simp; first | exact ⟨Ext.refl _, rfl⟩ | exact Ext.refl _))
  refine ⟨fun w5 hx hh => ?_, ?_⟩
  · clear hh
    have hc := HPY.out w5
    go_simp
    refine hc.mono ?_
    rintro e w6 ⟨rfl, hx2⟩
    exact ⟨_, rfl, hx2, rfl⟩
  iterate 1 (refine ⟨fun w1 hx hh => ?_, ?_⟩; focus (clear hh; skip; go_simp; first | exact ⟨Ext.refl _, rfl⟩ | exact Ext.refl _))
  intro w5 hx5 hh
  clear hh
  have t3 := hx5.cell e3
  have tf := (hx5.frozen (p := ⟨E, 3, none⟩) zE).trans EF.out
  refine ⟨rfl, ?_⟩
  have hX := HX.out
  subst hX
  have hQ := HQ.out
  go_simp
  exact hQ _ _ _ _ _ _ _ _ _ _ _ _ _ _ _ w5 hx5
end Go.Proofs.Ytdadffmagfknoaa

namespace Go.Proofs.Ytdadffmagfknoaa
set_option linter.unusedSimpArgs false
set_option linter.unusedVariables false
open Go.RowKit
set_option linter.unusedVariables false
set_option maxRecDepth 100000
/-- the entries, as far as they have been gone through -/
def toldTo (h : House) (r : List Int) (k : Nat) : List Ent := (h.entries.take k).map (fixE h r) ++ h.entries.drop k
theorem toldTo_zero (h : House) (r : List Int) : toldTo h r 0 = h.entries := by simp [toldTo]
theorem toldTo_all (h : House) (r : List Int) : toldTo h r h.entries.length = toldL h r := by simp [toldTo, toldL]
theorem toldTo_len (h : House) (r : List Int) (k : Nat) : (toldTo h r k).length = h.entries.length := by
  simp [toldTo]; omega
theorem toldTo_at (h : House) (r : List Int) {k : Nat} (hk : k < h.entries.length) : (toldTo h r k)[k]'(by rw [toldTo_len]; exact hk) = entAt h k := by
  have : (toldTo h r k)[k]? = some (entAt h k) := by
    unfold toldTo
    rw [List.getElem?_append_right (by simp; omega)]
    have e : k - ((h.entries.take k).map (fixE h r)).length = 0 := by simp; omega
    rw [e, List.getElem?_drop]
    simp [entAt, List.getD_eq_getElem?_getD, List.getElem?_eq_getElem hk]
  rw [List.getElem?_eq_getElem (by rw [toldTo_len]; exact hk)] at this
  exact Option.some.inj this
theorem toldTo_succ (h : House) (r : List Int) {k : Nat} (hk : k < h.entries.length) : toldTo h r (k + 1) = (toldTo h r k).set k (fixE h r (entAt h k)) := by
  have e0 : entAt h k = h.entries[k] := by simp [entAt, List.getD_eq_getElem?_getD, List.getElem?_eq_getElem hk]
  unfold toldTo
  rw [List.take_succ_eq_append_getElem hk, List.map_append, List.append_assoc, List.set_append_right _ _ (by simp; omega)]
  have e : k - ((h.entries.take k).map (fixE h r)).length = 0 := by simp; omega
  rw [e, List.drop_eq_getElem_cons hk, List.set_cons_zero, e0]
  rfl
set_option maxHeartbeats 8000000 in
theorem lawTold_none (hv : Value) (h : House) (hV : ValidH h) (hn : ratesL h = []) (x : Nat) (w : World) (hh : HouseAt w hv h) :
    Calls Try.prog 37 #[hv, .int .u16 x] w fun e w' => e = .returned (.tuple #[hv, .slice none 0 0]) ∧ Ext w w' := by
  have hrt := fun w1 (hx : Ext w w1) => refRates_any hv h hV w1 (hh.ext hx)
  rw [hn] at hrt
  obtain ⟨ra, rc, aa, ac, ea, ec, rfl, -⟩ := hh
  clear hn
  go_enter Try.func37, Try.ntmps37
  go_wp2_with fail
  refine (hrt _ ((ext_alloc _ _).alloc _)).mono ?_
  rintro e w1 ⟨u, rfl, hu, hx⟩
  obtain ⟨ua, uc, rfl, -⟩ := hu.shape
  have x1 : Ext w w1 := ((ext_alloc _ _).alloc _).trans hx
  have p0 : w1.cell? ⟨w.heap.size, 0, none⟩ = some (.int .i64 h.days) := hx.cell (by simp [go_sem])
  have p1 : w1.cell? ⟨w.heap.size, 1, none⟩ = some (.slice ra h.rates.length rc) := hx.cell (by simp [go_sem])
  have p2 : w1.cell? ⟨w.heap.size, 2, none⟩ = some (.int .i64 h.step) := hx.cell (by simp [go_sem])
  have p3 : w1.cell? ⟨w.heap.size, 3, none⟩ = some (.slice aa h.agents.length ac) := hx.cell (by simp [go_sem])
  have p4 : w1.cell? ⟨w.heap.size, 4, none⟩ = some (.slice ea h.entries.length ec) := hx.cell (by simp [go_sem])
  have rb : BoxIs w1 (w.heap.size + 1) [.int .i64 0, .slice none 0 0, .int .i64 0, .slice none 0 0, .slice none 0 0] := BoxIs.ext (by
    intro j v hj
    match j, hj with
    | 0, hj => simp at hj; subst hj; simp [go_sem]
    | 1, hj => simp at hj; subst hj; simp [go_sem]
    | 2, hj => simp at hj; subst hj; simp [go_sem]
    | 3, hj => simp at hj; subst hj; simp [go_sem]
    | 4, hj => simp at hj; subst hj; simp [go_sem]) hx
  have j0 := rb 0 _ rfl
  have j1 := rb 1 _ rfl
  have j2 := rb 2 _ rfl
  have j3 := rb 3 _ rfl
  have j4 := rb 4 _ rfl
  have rf : ∀ o, w1.frozen? ⟨w.heap.size + 1, o, none⟩ = false := fun o => by rw [hx.frozen (by simp)]; simp [go_sem]
  obtain ⟨Wf, hWf⟩ : ∃ Wf, Wf = (((((w1.setCell ⟨w.heap.size + 1, 0, none⟩ (.int .i64 h.days)).setCell ⟨w.heap.size + 1, 1, none⟩ (.slice ra h.rates.length rc)).setCell ⟨w.heap.size + 1, 2, none⟩ (.int .i64 h.step)).setCell ⟨w.heap.size + 1, 3, none⟩ (.slice aa h.agents.length ac)).setCell ⟨w.heap.size + 1, 4, none⟩ (.slice ea h.entries.length ec)) := ⟨_, rfl⟩
  have hb6 : BoxIs Wf (w.heap.size + 1) [.int .i64 h.days, .slice ra h.rates.length rc, .int .i64 h.step, .slice aa h.agents.length ac, .slice ea h.entries.length ec] := by
    rw [hWf]
    have := ((((rb.set 0 (by simp) (.int .i64 h.days)).set 1 (by simp) (.slice ra h.rates.length rc)).set 2 (by simp) (.int .i64 h.step)).set 3 (by simp) (.slice aa h.agents.length ac)).set 4 (by simp) (.slice ea h.entries.length ec)
    simpa using this
  have xf : Ext w Wf := by
    rw [hWf]
    exact ((((x1.setCell (p := ⟨w.heap.size + 1, 0, none⟩) (by simp) _).setCell (p := ⟨w.heap.size + 1, 1, none⟩) (by simp) _).setCell (p := ⟨w.heap.size + 1, 2, none⟩) (by simp) _).setCell (p := ⟨w.heap.size + 1, 3, none⟩) (by simp) _).setCell (p := ⟨w.heap.size + 1, 4, none⟩) (by simp) _
  have S0 := Lib.hid (hb6 0 _ rfl)
  have S1 := Lib.hid (hb6 1 _ rfl)
  have S2 := Lib.hid (hb6 2 _ rfl)
  have S3 := Lib.hid (hb6 3 _ rfl)
  have S4 := Lib.hid (hb6 4 _ rfl)
  have HX := Lib.hid xf
  have HW := Lib.hid hWf
  clear hx hu hrt xf hWf hb6 rb
  simp only [List.length_nil]
  go_wp2
  rw [← HW.out]
  have s0 := S0.out
  have s1 := S1.out
  have s2 := S2.out
  have s3 := S3.out
  have s4 := S4.out
  exact bodyPost_ret (v := .tuple #[.agg #[.int .i64 h.days, .slice ra h.rates.length rc, .int .i64 h.step, .slice aa h.agents.length ac, .slice ea h.entries.length ec], .slice none 0 0]) (by simp [results, Try.results37, go_sem, s0, s1, s2, s3, s4]) rfl ⟨rfl, HX.out⟩
theorem ints_setOther {w : World} {v y : Value} {l : List Int} {b o : Nat} (h : IntsAt w v l) (hp : w.cell? ⟨b, o, none⟩ = some y) (hy : ∀ z, y ≠ .int .i64 z) (x : Value) : IntsAt (w.setCell ⟨b, o, none⟩ x) v l := by
  obtain ⟨a, cap, e, h1, h2, h3⟩ := h
  refine ⟨a, cap, e, h1, h2, fun i hi => ?_⟩
  obtain ⟨b', o', e1, r⟩ := h3 i hi
  refine ⟨b', o', e1, set_other r.1 ?_ _, r.2⟩
  by_cases hb : b = b'
  · subst hb
    right
    intro ho
    simp only at ho
    have := r.1
    rw [← ho, hp] at this
    exact hy _ (Option.some.inj this)
  · exact .inl hb
theorem ints_below {B : Nat} {w w' : World} {a : Addr} {n c : Nat} {l : List Int} (h : IntsAt w (.slice (some a) n c) l) (ha : a.block < B) (hb : Below B w w') : IntsAt w' (.slice (some a) n c) l := by
  obtain ⟨a', cap, e, h1, h2, h3⟩ := h
  refine ⟨a', cap, e, h1, h2, fun i hi => ?_⟩
  obtain ⟨b', o', e1, r⟩ := h3 i hi
  have e2 := (Value.slice.inj e).1
  rw [e1] at e2
  have e3 := Option.some.inj e2
  refine ⟨b', o', e1, (hb.cell (p := ⟨b', o' + i * 1, none⟩) (show b' < B by rw [e3] at ha; exact ha)).trans r.1, r.2⟩
set_option maxHeartbeats 16000000 in
theorem lawTold_some (hv : Value) (h : House) (hV : ValidH h) (hn : ratesL h ≠ []) (x : Nat) (hx16 : x ≤ 65535) (w : World) (hh : HouseAt w hv h) :
    Calls Try.prog 37 #[hv, .int .u16 x] w fun e w' => ∃ v ra n rc r, e = .returned (.tuple #[v, .slice (some ra) n rc]) ∧ r ∈ ratesL h ∧ HouseAt w' v (toldH h r) ∧ IntsAt w' (.slice (some ra) n rc) r ∧ Ext w w' := by
  have hrt := fun w1 (hx : Ext w w1) => refRates_any hv h hV w1 (hh.ext hx)
  have hHH := Lib.hid hh
  obtain ⟨ra, rc, aa, ac, ea, ec, rfl, hdi, hsi, hra, haa, hent⟩ := hh
  have HE := Lib.hid hent
  have HV := Lib.hid hV
  have HEI : Hid (∀ e ∈ h.entries, EntI e) := Lib.hid fun e he => EntOk.i hV (hV.entry e he)
  have HRA := Lib.hid hra
  have HAA := Lib.hid haa
  have hen := hV.entries
  have hgood : ∀ q ∈ ratesL h, q.length = h.days.toNat ∧ ∀ x ∈ q, 1 ≤ x ∧ x ≤ 20 := by rw [ratesL_levels]; exact levels_mem hV (Nat.le_refl _)
  have hmany := ratesL_many hV
  have hin := fun r (hr : r ∈ ratesL h) => toldL_ok hV hr
  obtain ⟨all, hall⟩ : ∃ all, all = ratesL h := ⟨_, rfl⟩
  rw [← hall] at hgood hmany hn
  simp only [← hall] at hrt
  have Hgood := Lib.hid hgood
  have HAll := Lib.hid hall
  clear hent hV hra haa hgood hall
  go_enter Try.func37, Try.ntmps37
  go_wp2_with fail
  refine (hrt _ ((ext_alloc _ _).alloc _)).mono ?_
  rintro e w1 ⟨u, rfl, hu, hx⟩
  obtain ⟨nT, hnT⟩ : ∃ nT, nT = all.length := ⟨_, rfl⟩
  have hpos : 0 < nT := by rw [hnT]; exact List.length_pos_iff.2 hn
  obtain ⟨ua, uc, rfl, -⟩ := hu.shape
  obtain ⟨ob, oo, rfl, s, cs, hs⟩ := SliceAt.get hu (i := x % nT) (by rw [← hnT]; exact Nat.mod_lt _ hpos)
  rw [Nat.mul_one] at cs
  have hrmem : all[x % nT]'(by rw [← hnT]; exact Nat.mod_lt _ hpos) ∈ all := List.getElem_mem _
  have hLf := Hgood.out _ hrmem
  generalize all[x % nT]'(by rw [← hnT]; exact Nat.mod_lt _ hpos) = r at *
  have hdy := HV.out.days
  have hr0 : 0 < r.length := by rw [hLf.1]; omega
  obtain ⟨sa, sc, rfl, hsc1, hsc2⟩ := hs.shape
  obtain ⟨sb, so, rfl, sv, -⟩ := SliceAt.get hs hr0
  have hsbw := cell_lt sv
  have hlt : x % nT < nT := Nat.mod_lt _ hpos
  generalize hidx : x % nT = idx at *
  have hrem : Int.tmod (x : Int) (nT : Int) = (idx : Int) := by rw [← hidx]; rfl
  have hz : ((nT : Int) == 0) = false := by rw [beq_eq_false_iff_ne]; omega
  have hz2 : ¬ (nT : Int) = 0 := by omega
  have wx : IntKind.i64.wrap (x : Int) = x := IntWalk.i64_in _ (by omega)
  have wi : IntKind.i64.wrap (idx : Int) = idx := IntWalk.i64_in _ (by omega)
  have ki : (idx : Int) < (nT : Int) := by omega
  have x1 : Ext w w1 := ((ext_alloc _ _).alloc _).trans hx
  have p0 : w1.cell? ⟨w.heap.size, 0, none⟩ = some (.int .i64 h.days) := hx.cell (by simp [go_sem])
  have p1 : w1.cell? ⟨w.heap.size, 1, none⟩ = some (.slice ra h.rates.length rc) := hx.cell (by simp [go_sem])
  have p2 : w1.cell? ⟨w.heap.size, 2, none⟩ = some (.int .i64 h.step) := hx.cell (by simp [go_sem])
  have p3 : w1.cell? ⟨w.heap.size, 3, none⟩ = some (.slice aa h.agents.length ac) := hx.cell (by simp [go_sem])
  have p4 : w1.cell? ⟨w.heap.size, 4, none⟩ = some (.slice ea h.entries.length ec) := hx.cell (by simp [go_sem])
  have pf : ∀ o, w1.frozen? ⟨w.heap.size, o, none⟩ = false := fun o => by rw [hx.frozen (by simp; omega)]; simp [go_sem]
  have rb : BoxIs w1 (w.heap.size + 1) [.int .i64 0, .slice none 0 0, .int .i64 0, .slice none 0 0, .slice none 0 0] := BoxIs.ext (by
    intro j v hj
    match j, hj with
    | 0, hj => simp at hj; subst hj; simp [go_sem]
    | 1, hj => simp at hj; subst hj; simp [go_sem]
    | 2, hj => simp at hj; subst hj; simp [go_sem]
    | 3, hj => simp at hj; subst hj; simp [go_sem]
    | 4, hj => simp at hj; subst hj; simp [go_sem]) hx
  have rf : ∀ o, w1.frozen? ⟨w.heap.size + 1, o, none⟩ = false := fun o => by rw [hx.frozen (by simp)]; simp [go_sem]
  have rbn : ∀ o, 5 ≤ o → w1.cell? ⟨w.heap.size + 1, o, none⟩ = none := fun o ho => by
    rw [World.cell?_of_block (a := ⟨w.heap.size + 1, o, none⟩) (Below.block hx (w.heap.size + 1) (by simp))]
    simp [go_sem]; omega
  have HLf0 := Lib.hid hLf
  have z1 : w.heap.size + 1 < w1.heap.size := cell_lt (rb 0 _ rfl)
  have zp : w.heap.size < w1.heap.size := by omega
  have zob := cell_lt cs
  have hnb : sb ≠ w.heap.size + 1 := fun e => by
    subst e
    replace sv : w1.cell? ⟨w.heap.size + 1, so, none⟩ = some (.int .i64 r[0]) := sv
    have hone := (HLf0.out.2 _ (List.getElem_mem hr0)).1
    by_cases h5 : 5 ≤ so
    · rw [rbn so h5] at sv; cases sv
    · have h5' : so = 0 ∨ so = 1 ∨ so = 2 ∨ so = 3 ∨ so = 4 := by omega
      rcases h5' with rfl | rfl | rfl | rfl | rfl
      · rw [rb 0 _ rfl] at sv
        simp only [Option.some.injEq, Value.int.injEq, true_and] at sv
        omega
      · rw [rb 1 _ rfl] at sv; cases sv
      · rw [rb 2 _ rfl] at sv
        simp only [Option.some.injEq, Value.int.injEq, true_and] at sv
        omega
      · rw [rb 3 _ rfl] at sv; cases sv
      · rw [rb 4 _ rfl] at sv; cases sv
  have HNB := Lib.hid hnb
  clear hnb rbn
  have HnT := Lib.hid hnT
  have HRM := Lib.hid hrmem
  have HLf := Lib.hid hLf
  have HS := Lib.hid hs
  obtain ⟨nr, hnr⟩ : ∃ nr, nr = r.length := ⟨_, rfl⟩
  rw [← hnr] at cs hsc1 HS
  have Hnr := Lib.hid hnr
  rw [← hnT]
  clear hx hu hrt hidx hnT hrmem hLf hs sv hnr hn hpos hmany
  go_wp2_with (at_builtin; refine wpList_append_ents rfl _ _ rfl w1.heap.size w1.heap.size rfl (World.ownsRow_made w1 #[] 0 (Nat.le_refl _) (by unfold maxLen; omega) rfl) (by simp) ea h.entries.length ec h.entries rfl (HE.out.ext (x1.alloc _)) (by omega) ?_; intro v1 w2 hrow hgrow; have x2 : Ext w1 w2 := Ext.grown (ext_alloc _ _) hgrow (fun k hk => Nat.le_of_eq (Option.some.inj (show some w1.heap.size = some k from hk))); have hES := hrow.at_ HEI.out; obtain ⟨va, vc, rfl, -⟩ := hES.shape; have t4 := x2.cell p4; have tf := (x2.frozen (p := ⟨w.heap.size, 4, none⟩) zp).trans (pf 4); have z2 := x2.size; clear hgrow)
  obtain ⟨W3, hW3⟩ : ∃ W3, W3 = w2.setCell ⟨w.heap.size, 4, none⟩ (.slice va h.entries.length vc) := ⟨_, rfl⟩
  have y0 : W3.cell? ⟨w.heap.size, 0, none⟩ = some (.int .i64 h.days) := by rw [hW3]; exact set_other (x2.cell p0) (.inr (by simp)) _
  have y1 : W3.cell? ⟨w.heap.size, 1, none⟩ = some (.slice ra h.rates.length rc) := by rw [hW3]; exact set_other (x2.cell p1) (.inr (by simp)) _
  have y2 : W3.cell? ⟨w.heap.size, 2, none⟩ = some (.int .i64 h.step) := by rw [hW3]; exact set_other (x2.cell p2) (.inr (by simp)) _
  have y3 : W3.cell? ⟨w.heap.size, 3, none⟩ = some (.slice aa h.agents.length ac) := by rw [hW3]; exact set_other (x2.cell p3) (.inr (by simp)) _
  have y4 : W3.cell? ⟨w.heap.size, 4, none⟩ = some (.slice va h.entries.length vc) := by rw [hW3]; exact set_cell t4 _
  have rb3 : BoxIs W3 (w.heap.size + 1) [.int .i64 0, .slice none 0 0, .int .i64 0, .slice none 0 0, .slice none 0 0] := by rw [hW3]; exact (rb.ext x2).other (by simp) _
  have rf3 : ∀ o, W3.frozen? ⟨w.heap.size + 1, o, none⟩ = false := fun o => by
    rw [hW3]
    have := (x2.frozen (p := ⟨w.heap.size + 1, o, none⟩) (show w.heap.size + 1 < w1.heap.size from z1)).trans (rf o)
    simpa [go_sem] using this
  have x3 : Ext w W3 := by rw [hW3]; exact (x1.trans x2).setCell (by simp) _
  have hs3 : IntsAt W3 (.slice (some ⟨sb, so, none⟩) nr sc) r := by rw [hW3]; exact ints_setOther (HS.out.ext x2) t4 (fun z e => by cases e) _
  have z3 : w1.heap.size ≤ W3.heap.size := by rw [hW3]; simpa [World.setCell] using z2
  have hE3 : 0 < h.entries.length → ∃ g, va = some ⟨g, 0, none⟩ ∧ h.entries.length ≤ vc ∧ vc ≤ 9223372036854775807 ∧ EntsF w1.heap.size W3 g h.entries := fun hpos => by
    obtain ⟨g, c, e, h1, h2, h3⟩ := EntsF.of_row hrow hpos HEI.out
    obtain ⟨rfl, -, rfl⟩ := Value.slice.inj e
    refine ⟨g, rfl, h1, h2, ?_⟩
    rw [hW3]
    exact h3.other (by simp only; have := h3.1; omega) _
  rw [← hW3]
  have HE3 := Lib.hid hE3
  have HVC : Hid (vc ≤ 9223372036854775807) := Lib.hid (by obtain ⟨_, c', e, _, hc', -⟩ := hES; obtain ⟨-, -, rfl⟩ := Value.slice.inj e; exact hc')
  have Z3 := Lib.hid z3
  clear hW3 hE3 hrow hES p0 p1 p2 p3 p4 pf rb rf t4 tf x2 z2
  go_loopw [8] (fun i wr => ∃ k : Nat, k ≤ h.entries.length ∧ i = .int .i64 k ∧ Below w1.heap.size W3 wr ∧ Hid (∀ g, va = some ⟨g, 0, none⟩ → 0 < h.entries.length → EntsF w1.heap.size wr g (toldTo h r k))) (fun i _ => h.entries.length - (intOf i).toNat)
  case atStart => exact ⟨0, Nat.zero_le _, rfl, Below.refl _ _, Lib.hid fun g hg hp => by
    obtain ⟨g', e, -, -, hf⟩ := HE3.out hp
    rw [hg] at e
    obtain rfl : g = g' := by simpa using e
    rw [toldTo_zero]; exact hf⟩
  case round =>
    obtain ⟨k, hk, rfl, hbw, hen2⟩ := hrel
    have q4 : wr.cell? ⟨w.heap.size, 4, none⟩ = some (.slice va h.entries.length vc) := (hbw.cell (p := ⟨w.heap.size, 4, none⟩) zp).trans y4
    have zq := cell_lt q4
    by_cases hlt : k < h.entries.length
    · have k1 : (k : Int) < (h.entries.length : Int) := by omega
      obtain ⟨g, rfl, hnc, hvc, hf0⟩ := HE3.out (by omega)
      have hf := hen2.out g rfl (by omega)
      obtain ⟨⟨d0, d1, d2, d3, -⟩, hfr⟩ := hf.2 k (by rw [toldTo_len]; exact hlt)
      rw [toldTo_at h r hlt] at d0 d1 d2 d3
      have hst := toldTo_succ h r hlt
      have hok : EntOk h (entAt h k) := HV.out.entry _ (entAt_mem (h := h) hlt)
      have hfix := fixE_ok HV.out (by rw [← HAll.out]; exact HRM.out) hok
      have hfi := EntOk.i HV.out hfix
      have f0 := hfr 0 (by omega)
      have f1 := hfr 1 (by omega)
      have f2 := hfr 2 (by omega)
      have f3 := hfr 3 (by omega)
      rw [Nat.add_zero] at f0
      have hgb := hf.1
      have Hf := Lib.hid hf
      have Hfi := Lib.hid hfi
      have zg := cell_lt d0
      have hwE : Ext w wr := ⟨hbw.os.trans x3.os, hbw.tape.trans x3.tape, hbw.output.trans x3.output, Nat.le_trans x3.size hbw.size, fun k hk => (hbw.block k (Nat.lt_of_lt_of_le hk x1.size)).trans (x3.block k hk)⟩
      have q3 : wr.cell? ⟨w.heap.size, 3, none⟩ = some (.slice aa h.agents.length ac) := (hbw.cell (p := ⟨w.heap.size, 3, none⟩) zp).trans y3
      have hrr := ints_below hs3 hsbw hbw
      have hzr := hbw.size
      generalize entAt h k = e0 at *
      obtain ⟨eag, eday, enear, efar⟩ := e0
      simp only at d0 d1 d2 d3
      clear hf0 hf hfr hfix hfi
      obtain ⟨R, hR⟩ : ∃ R, R = wr.alloc (.cells #[.int .i64 eag, .int .i64 eday, .int .i64 enear, .int .i64 efar] 58) := ⟨_, rfl⟩
      have xR : Ext wr R := by rw [hR]; exact ext_alloc _ _
      have b0 : R.cell? ⟨wr.heap.size, 0, none⟩ = some (.int .i64 eag) := by rw [hR]; simp [go_sem]
      have b1 : R.cell? ⟨wr.heap.size, 1, none⟩ = some (.int .i64 eday) := by rw [hR]; simp [go_sem]
      have b2 : R.cell? ⟨wr.heap.size, 2, none⟩ = some (.int .i64 enear) := by rw [hR]; simp [go_sem]
      have b3 : R.cell? ⟨wr.heap.size, 3, none⟩ = some (.int .i64 efar) := by rw [hR]; simp [go_sem]
      have bf : R.frozen? ⟨wr.heap.size, 3, none⟩ = false := by rw [hR]; simp [go_sem]
      have hbR : Below w1.heap.size W3 R := by rw [hR]; exact hbw.alloc (by have := Z3.out; omega) _
      have HfR := Lib.hid (Hf.out.ext xR)
      have HR := Lib.hid hR
      have D0 := Lib.hid (xR.cell d0)
      have D1 := Lib.hid (xR.cell d1)
      have D2 := Lib.hid (xR.cell d2)
      have D3 := Lib.hid (xR.cell d3)
      have F0 := Lib.hid ((xR.frozen (p := ⟨g, k * 4, none⟩) zg).trans f0)
      have F1 := Lib.hid ((xR.frozen (p := ⟨g, k * 4 + 1, none⟩) zg).trans f1)
      have F2 := Lib.hid ((xR.frozen (p := ⟨g, k * 4 + 2, none⟩) zg).trans f2)
      have F3 := Lib.hid ((xR.frozen (p := ⟨g, k * 4 + 3, none⟩) zg).trans f3)
      have B0 := Lib.hid b0
      have B1 := Lib.hid b1
      have B2 := Lib.hid b2
      have B3 := Lib.hid b3
      have BF := Lib.hid bf
      have Q3 := Lib.hid (xR.cell q3)
      have Q4 := Lib.hid (xR.cell q4)
      have HBR := Lib.hid hbR
      have HWE := Lib.hid hwE
      have XR := Lib.hid xR
      have HRR := Lib.hid hrr
      have HOK := Lib.hid hok
      have HST := Lib.hid hst
      have HBW := Lib.hid hbw
      clear hR b0 b1 b2 b3 bf hbR xR f0 f1 f2 f3 q3 hwE hrr hok hst hbw
      by_cases hfar : efar = -1
      · have hfx : fixE h r ⟨eag, eday, enear, efar⟩ = ⟨eag, eday, enear, efar⟩ := by unfold fixE toldE; rw [hfar]; rfl
        have hst := HST.out
        rw [hfx] at hst Hfi
        have hfb : (efar != -1) = false := by rw [hfar]; rfl
        have Hst := Lib.hid hst
        clear hst hfx hfar
        go_upto_region 12 with fail
        rw [← HR.out]
        refine told_r12 (R := R) (S := w.heap.size) (E := wr.heap.size) (g := g) (k := k) Q4.out hlt B0.out B1.out B2.out B3.out D0.out D1.out D2.out D3.out F0.out F1.out F2.out F3.out _ ?_
        intro v59 v60 v61 v62 v63
        clear d0 d1 d2 d3 zg q4 zq
        go_wp2
        go_roundw
        case rel =>
          refine ⟨k + 1, by omega, by go_num, ?_, Lib.hid fun g' hg' _ => ?_⟩
          · exact (((HBR.out.setCell (p := ⟨g, k * 4, none⟩) hgb _).setCell (p := ⟨g, k * 4 + 1, none⟩) hgb _).setCell (p := ⟨g, k * 4 + 2, none⟩) hgb _).setCell (p := ⟨g, k * 4 + 3, none⟩) hgb _
          · obtain rfl : g = g' := by simpa using hg'
            rw [Hst.out]
            exact HfR.out.set k (by rw [toldTo_len]; exact hlt) ⟨eag, eday, enear, efar⟩ Hfi.out
        case measure => simp [intOf]; omega
      · have hfb : (efar != -1) = true := bne_iff_ne.2 hfar
        have hfx : fixE h r ⟨eag, eday, enear, efar⟩ = ⟨eag, eday, enear, payM (agtAt h eag) enear (r.getD eday.toNat 0)⟩ := if_pos hfb
        have hst := HST.out
        rw [hfx] at hst Hfi
        obtain ⟨ho1, ho2, ho3, -⟩ := HOK.out
        obtain ⟨j, rfl⟩ : ∃ j : Nat, eag = j := ⟨eag.toNat, by simp only at ho1; omega⟩
        obtain ⟨dd, rfl⟩ : ∃ dd : Nat, eday = dd := ⟨eday.toNat, by simp only at ho2; omega⟩
        have hj : j < h.agents.length := by simp only at ho1; omega
        have hdd : dd < r.length := by have := HLf.out.1; simp only at ho2; omega
        obtain ⟨ab, ao, haa, a0, a1, a2, a3⟩ := SliceAt.get (HAA.out.ext HWE.out) hj
        subst haa
        have hag : h.agents[j] = agtAt h (j : Int) := by simp [agtAt, List.getD_eq_getElem?_getD, List.getElem?_eq_getElem hj]
        have hagv := HV.out.agent _ (List.getElem_mem hj)
        rw [hag] at a0 a1 a2 a3 hagv
        obtain ⟨rb', ro', ee, rv, -⟩ := SliceAt.get HRR.out hdd
        obtain ⟨rfl, rfl, -⟩ := Addr.mk.inj (Option.some.inj ee)
        have hrg : r[dd] = r.getD ((dd : Nat) : Int).toNat 0 := by simp [List.getD_eq_getElem?_getD, List.getElem?_eq_getElem hdd]
        have hr20 := HLf.out.2 _ (List.getElem_mem hdd)
        rw [hrg] at rv hr20
        rw [Nat.mul_one] at rv
        have hpy := fun w1 => refPays_any (.agg #[.string (agtAt h (j : Int)).name, .int .i64 (agtAt h (j : Int)).fee, .int .i64 (agtAt h (j : Int)).round]) (agtAt h (j : Int)) enear (r.getD ((dd : Nat) : Int).toNat 0) ⟨rfl, a3⟩ hagv.1 hagv.2 ho3 (by omega) w1
        generalize payM (agtAt h (j : Int)) enear (r.getD ((dd : Nat) : Int).toNat 0) = pay at *
        have HPY := Lib.hid hpy
        have Hst := Lib.hid hst
        have A0 := Lib.hid (XR.out.cell a0)
        have A1 := Lib.hid (XR.out.cell a1)
        have A2 := Lib.hid (XR.out.cell a2)
        have RV := Lib.hid (XR.out.cell rv)
        have hdn : dd < nr := by have := Hnr.out; omega
        clear hst hfx hfar ho1 ho2 ho3 hag hagv ee hrg hr20 hpy a0 a1 a2 a3 rv
        go_upto_region 11 with fail
        rw [← HR.out]
        refine told_r11 (R := R) (S := w.heap.size) (E := wr.heap.size) Q3.out hj hdn B0.out B1.out B2.out B3.out BF.out A0.out A1.out A2.out RV.out HPY.out _ ?_
        intro v44 v45 v46 v47 v48 v49 v50 v51 v52 v53 v54 v55 v56 v57 v58 wc hxc
        have HXC := Lib.hid hxc
        have zRR : wr.heap.size < R.heap.size := cell_lt B0.out
        have zgg : g < wr.heap.size := zg
        have zqq : w.heap.size < wr.heap.size := zq
        have hgE : g ≠ wr.heap.size := by omega
        have hSE : w.heap.size ≠ wr.heap.size := by omega
        obtain ⟨X, hX⟩ : ∃ X, X = wc.setCell ⟨wr.heap.size, 3, none⟩ (.int .i64 pay) := ⟨_, rfl⟩
        have HX := Lib.hid hX
        have X4 : Hid (X.cell? ⟨w.heap.size, 4, none⟩ = some (.slice (some ⟨g, 0, none⟩) h.entries.length vc)) := Lib.hid (by rw [hX]; exact set_other (hxc.cell Q4.out) (.inl (by simp; omega)) _)
        have E0 : Hid (X.cell? ⟨wr.heap.size, 0, none⟩ = some (.int .i64 (j : Int))) := Lib.hid (by rw [hX]; exact set_other (hxc.cell B0.out) (.inr (by simp)) _)
        have E1 : Hid (X.cell? ⟨wr.heap.size, 1, none⟩ = some (.int .i64 (dd : Int))) := Lib.hid (by rw [hX]; exact set_other (hxc.cell B1.out) (.inr (by simp)) _)
        have E2 : Hid (X.cell? ⟨wr.heap.size, 2, none⟩ = some (.int .i64 enear)) := Lib.hid (by rw [hX]; exact set_other (hxc.cell B2.out) (.inr (by simp)) _)
        have E3 : Hid (X.cell? ⟨wr.heap.size, 3, none⟩ = some (.int .i64 pay)) := Lib.hid (by rw [hX]; exact set_cell (hxc.cell B3.out) _)
        have hne : (⟨wr.heap.size, 3, none⟩ : Addr).block ≠ g := by simp; omega
        have HfX : Hid (EntsF w1.heap.size X g (toldTo h r k)) := Lib.hid (by rw [hX]; exact (HfR.out.ext hxc).other hne _)
        have HBX : Hid (Below w1.heap.size W3 X) := Lib.hid (by rw [hX]; exact (HBR.out.trans (hxc.below.mono (by have := HBR.out.size; have := Z3.out; omega))).setCell (p := ⟨wr.heap.size, 3, none⟩) (by simp; omega) _)
        obtain ⟨⟨m0, m1, m2, m3, -⟩, hfr⟩ := HfX.out.2 k (by rw [toldTo_len]; exact hlt)
        have n0 := hfr 0 (by omega)
        have n1 := hfr 1 (by omega)
        have n2 := hfr 2 (by omega)
        have n3 := hfr 3 (by omega)
        rw [Nat.add_zero] at n0
        have M0 := Lib.hid m0
        have M1 := Lib.hid m1
        have M2 := Lib.hid m2
        have M3 := Lib.hid m3
        have N0 := Lib.hid n0
        have N1 := Lib.hid n1
        have N2 := Lib.hid n2
        have N3 := Lib.hid n3
        clear hX m0 m1 m2 m3 n0 n1 n2 n3 hfr hxc
        go_upto_region 12 with fail
        rw [← HX.out]
        refine told_r12 (R := X) (S := w.heap.size) (E := wr.heap.size) (g := g) (k := k) X4.out hlt E0.out E1.out E2.out E3.out M0.out M1.out M2.out M3.out N0.out N1.out N2.out N3.out _ ?_
        intro v59 v60 v61 v62 v63
        clear d0 d1 d2 d3 zg q4 zq
        go_wp2
        go_roundw
        case rel =>
          refine ⟨k + 1, by omega, by go_num, ?_, Lib.hid fun g' hg' _ => ?_⟩
          · exact (((HBX.out.setCell (p := ⟨g, k * 4, none⟩) hgb _).setCell (p := ⟨g, k * 4 + 1, none⟩) hgb _).setCell (p := ⟨g, k * 4 + 2, none⟩) hgb _).setCell (p := ⟨g, k * 4 + 3, none⟩) hgb _
          · obtain rfl : g = g' := by simpa using hg'
            rw [Hst.out]
            exact HfX.out.set k (by rw [toldTo_len]; exact hlt) ⟨(j : Int), (dd : Int), enear, pay⟩ Hfi.out
        case measure => simp [intOf]; omega
    · obtain rfl : k = h.entries.length := by omega
      have hwE : Ext w wr := ⟨hbw.os.trans x3.os, hbw.tape.trans x3.tape, hbw.output.trans x3.output, Nat.le_trans x3.size hbw.size, fun k hk => (hbw.block k (Nat.lt_of_lt_of_le hk x1.size)).trans (x3.block k hk)⟩
      have hrr := ints_below hs3 hsbw hbw
      have q0 : wr.cell? ⟨w.heap.size, 0, none⟩ = some (.int .i64 h.days) := (hbw.cell (p := ⟨w.heap.size, 0, none⟩) zp).trans y0
      have q1 : wr.cell? ⟨w.heap.size, 1, none⟩ = some (.slice ra h.rates.length rc) := (hbw.cell (p := ⟨w.heap.size, 1, none⟩) zp).trans y1
      have q2 : wr.cell? ⟨w.heap.size, 2, none⟩ = some (.int .i64 h.step) := (hbw.cell (p := ⟨w.heap.size, 2, none⟩) zp).trans y2
      have q3 : wr.cell? ⟨w.heap.size, 3, none⟩ = some (.slice aa h.agents.length ac) := (hbw.cell (p := ⟨w.heap.size, 3, none⟩) zp).trans y3
      have hbr : BoxIs wr (w.heap.size + 1) [.int .i64 0, .slice none 0 0, .int .i64 0, .slice none 0 0, .slice none 0 0] := fun j v hj => (hbw.cell (p := ⟨w.heap.size + 1, j, none⟩) z1).trans (rb3 j v hj)
      have rfw : ∀ o, wr.frozen? ⟨w.heap.size + 1, o, none⟩ = false := fun o => (hbw.frozen (p := ⟨w.heap.size + 1, o, none⟩) z1).trans (rf3 o)
      have hEW : EntriesAt wr (.slice va h.entries.length vc) (toldL h r) := by
        have hlen := toldL_len h r
        rcases Nat.eq_zero_or_pos h.entries.length with h0 | h0
        · have e0 : toldL h r = [] := List.eq_nil_of_length_eq_zero (by omega)
          rw [e0, h0]
          exact ⟨va, vc, rfl, by simp, HVC.out, fun i hi => absurd hi (Nat.not_lt_zero _)⟩
        · obtain ⟨g, rfl, hnc, hvc, -⟩ := HE3.out h0
          have hf := hen2.out g rfl h0
          rw [toldTo_all] at hf
          have := hf.at_ (c := vc) (by omega) hvc
          rw [hlen] at this
          exact this
      have j0 := hbr 0 _ rfl
      have j1 := hbr 1 _ rfl
      have j2 := hbr 2 _ rfl
      have j3 := hbr 3 _ rfl
      have j4 := hbr 4 _ rfl
      have zr1 : w.heap.size + 1 < wr.heap.size := cell_lt j0
      obtain ⟨Wf, hWf⟩ : ∃ Wf, Wf = (((((wr.setCell ⟨w.heap.size + 1, 0, none⟩ (.int .i64 h.days)).setCell ⟨w.heap.size + 1, 1, none⟩ (.slice ra h.rates.length rc)).setCell ⟨w.heap.size + 1, 2, none⟩ (.int .i64 h.step)).setCell ⟨w.heap.size + 1, 3, none⟩ (.slice aa h.agents.length ac)).setCell ⟨w.heap.size + 1, 4, none⟩ (.slice va h.entries.length vc)) := ⟨_, rfl⟩
      have hb6 : BoxIs Wf (w.heap.size + 1) [.int .i64 h.days, .slice ra h.rates.length rc, .int .i64 h.step, .slice aa h.agents.length ac, .slice va h.entries.length vc] := by
        rw [hWf]
        have := ((((hbr.set 0 (by simp) (.int .i64 h.days)).set 1 (by simp) (.slice ra h.rates.length rc)).set 2 (by simp) (.int .i64 h.step)).set 3 (by simp) (.slice aa h.agents.length ac)).set 4 (by simp) (.slice va h.entries.length vc)
        simpa using this
      have xf : Ext w Wf := by
        rw [hWf]
        exact ((((hwE.setCell (p := ⟨w.heap.size + 1, 0, none⟩) (by simp) _).setCell (p := ⟨w.heap.size + 1, 1, none⟩) (by simp) _).setCell (p := ⟨w.heap.size + 1, 2, none⟩) (by simp) _).setCell (p := ⟨w.heap.size + 1, 3, none⟩) (by simp) _).setCell (p := ⟨w.heap.size + 1, 4, none⟩) (by simp) _
      have hbx : ∀ b, b ≠ w.heap.size + 1 → Wf.heap[b]? = wr.heap[b]? := fun b hb => by
        rw [hWf, Below.heap_setCell _ _ _ _ (by simpa using hb), Below.heap_setCell _ _ _ _ (by simpa using hb), Below.heap_setCell _ _ _ _ (by simpa using hb), Below.heap_setCell _ _ _ _ (by simpa using hb), Below.heap_setCell _ _ _ _ (by simpa using hb)]
      have hEf : EntriesAt Wf (.slice va h.entries.length vc) (toldL h r) := by
        obtain ⟨a', c', e1, g1, g2, g3⟩ := hEW
        refine ⟨a', c', e1, g1, g2, fun i hi => ?_⟩
        obtain ⟨b, o, e2, r0, r1, r2, r3, r4⟩ := g3 i hi
        have hi' : 0 < h.entries.length := by have := toldL_len h r; omega
        obtain ⟨g, hva, -, -, hf0⟩ := HE3.out hi'
        have hbg : b = g := by
          have e3 := (Value.slice.inj e1).1
          rw [e2, hva] at e3
          exact ((Addr.mk.inj (Option.some.inj e3)).1).symm
        have hge : w1.heap.size ≤ g := hf0.1
        have hne : b ≠ w.heap.size + 1 := by omega
        exact ⟨b, o, e2, (World.cell?_of_block (hbx b hne)).trans r0, (World.cell?_of_block (hbx b hne)).trans r1, (World.cell?_of_block (hbx b hne)).trans r2, (World.cell?_of_block (hbx b hne)).trans r3, r4⟩
      have hrf : IntsAt Wf (.slice (some ⟨sb, so, none⟩) nr sc) r := by
        have hne : sb ≠ w.heap.size + 1 := fun e => by
          have hl0 : 0 < r.length := hr0
          obtain ⟨b, o, e2, r0, -⟩ := SliceAt.get hrr hl0
          obtain ⟨rfl, rfl, -⟩ := Addr.mk.inj (Option.some.inj e2)
          have hcz := HNB.out
          exact hcz e
        obtain ⟨a', c', e1, g1, g2, g3⟩ := hrr
        refine ⟨a', c', e1, g1, g2, fun i hi => ?_⟩
        obtain ⟨b, o, e2, r0, r4⟩ := g3 i hi
        have hbs : b = sb := by
          have e3 := (Value.slice.inj e1).1
          rw [e2] at e3
          exact ((Addr.mk.inj (Option.some.inj e3)).1).symm
        exact ⟨b, o, e2, (World.cell?_of_block (hbx b (by rw [hbs]; exact hne))).trans r0, r4⟩
      have hH : HouseAt Wf (.agg #[.int .i64 h.days, .slice ra h.rates.length rc, .int .i64 h.step, .slice aa h.agents.length ac, .slice va h.entries.length vc]) (toldH h r) :=
        ⟨ra, rc, aa, ac, va, vc, by rw [← toldL_len h r]; rfl, hdi, hsi, HRA.out.ext xf, HAA.out.ext xf, by have := hEf; rw [← toldL_len h r] at this; exact this⟩
      have S0 := Lib.hid (hb6 0 _ rfl)
      have S1 := Lib.hid (hb6 1 _ rfl)
      have S2 := Lib.hid (hb6 2 _ rfl)
      have S3 := Lib.hid (hb6 3 _ rfl)
      have S4 := Lib.hid (hb6 4 _ rfl)
      have HX := Lib.hid xf
      have HW := Lib.hid hWf
      have HH2 := Lib.hid hH
      have HRF := Lib.hid hrf
      clear xf hWf hb6 hbr hEW hEf hrf hH hwE hrr hbw rb3 rf3 y0 y1 y2 y3 y4
      go_wp2
      rw [← HW.out]
      have s0 := S0.out
      have s1 := S1.out
      have s2 := S2.out
      have s3 := S3.out
      have s4 := S4.out
      exact bodyPost_ret (v := .tuple #[.agg #[.int .i64 h.days, .slice ra h.rates.length rc, .int .i64 h.step, .slice aa h.agents.length ac, .slice va h.entries.length vc], .slice (some ⟨sb, so, none⟩) nr sc]) (by simp [results, Try.results37, go_sem, s0, s1, s2, s3, s4]) rfl ⟨_, _, _, _, rfl, r, by rw [← HAll.out]; exact HRM.out, HH2.out, HRF.out, HX.out⟩
end Go.Proofs.Ytdadffmagfknoaa

namespace Go.Proofs.Ytdadffmagfknoaa
set_option linter.unusedSimpArgs false
set_option linter.unusedVariables false
open Go.RowKit
set_option linter.unusedVariables false
set_option linter.unusedSimpArgs false
set_option maxRecDepth 100000
theorem insideR_any (n lo hi : Int) (w : World) : Calls Try.prog 38 #[.int .i64 n, .agg #[.int .i64 lo, .int .i64 hi]] w fun e w' => e = .returned (.bool (inM n lo hi)) ∧ Ext w w' := by
  go_enter Try.func38, Try.ntmps38
  go_wp2_with fail
  refine (In_any _ _ _ _).mono ?_
  rintro e w' ⟨rfl, rfl⟩
  go_wp2
  go_ret
  exact ⟨rfl, (by first | (with_reducible exact Ext.refl _) | (with_reducible assumption) | (show Below _ _ _; go_grown; done))⟩
set_option maxHeartbeats 4000000 in
theorem true_r16 {u0 u1 u2 u3 u4 u5 u6 u7 u8 u10 u11 u12 u13 u14 u15 u16 u20 u21 u22 u23 u24 u25 u26 u27 u28 u29 u30 u31 u32 u33 u34 u35 u36 u37 u38 u39 u40 u41 u42 u43 u44 u45 u46 u47 u48 u49 u50 u51 u52 u53 u54 u55 u56 u57 u58 u59 u60 u61 u62 u63 u64 u65 u66 u67 u68 u69 u70 u71 u72 u73 u74 u75 u76 u77 u78 u79 u80 u81 u82 u83 u84 u85 u86 u87 u88 u89 u90 u91 u92 u93 u94 u95 u96 u97 u98 u99 u100 u101 u102 u103 u104 u105 u106 u107 u108 u109 u110 u111 u112 u113 u114 u115 u116 u117 u118 u119 u120 u121 u122 u123 u124 u125 u126 u127 u128 u129 u130 u131 u132 u133 u134 u135 u136 u137 u138 u139 u140 u141 u142 u143 u144 u145 u146 u147 u148 u149 u150 u151 u152 u153 u154 u155 u156 u157 u158 u159 : Value} {R : World} {E sb so nr sc d : Nat} {rd lo hi : Int} (hd : d < nr) (rv : R.cell? ⟨sb, so + d, none⟩ = some (.int .i64 rd)) (e0 : R.cell? ⟨E, 0, none⟩ = some (.int .i64 lo)) (e1 : R.cell? ⟨E, 1, none⟩ = some (.int .i64 hi)) (hin : inM rd lo hi = true) (Q : Exit → Act → World → Prop)
    (hQ : ∀ (v96 v97 v98 v99 v100 v101 v102 v103 v104 v105 : Value) (wc : World), Ext R wc → Q .normal ⟨#[u0, u1, u2, u3, u4, u5, u6, u7, u8, .slice (some ⟨sb, so, none⟩) nr sc, u10, u11, u12, u13, u14, u15, u16, .int .i64 d, .pointer (some ⟨E, 0, none⟩), .int .i64 0, u20, u21, u22, u23, u24, u25, u26, u27, u28, u29, u30, u31, u32, u33, u34, u35, u36, u37, u38, u39, u40, u41, u42, u43, u44, u45, u46, u47, u48, u49, u50, u51, u52, u53, u54, u55, u56, u57, u58, u59, u60, u61, u62, u63, u64, u65, u66, u67, u68, u69, u70, u71, u72, u73, u74, u75, u76, u77, u78, u79, u80, u81, u82, u83, u84, u85, u86, u87, u88, u89, u90, u91, u92, u93, u94, u95, v96, v97, v98, v99, v100, v101, v102, v103, v104, v105, .bool false, u107, u108, u109, u110, u111, u112, u113, u114, u115, u116, u117, u118, u119, u120, u121, u122, u123, u124, u125, u126, u127, u128, u129, u130, u131, u132, u133, u134, u135, u136, u137, u138, u139, u140, u141, u142, u143, u144, u145, u146, u147, u148, u149, u150, u151, u152, u153, u154, u155, u156, u157, u158, u159], []⟩ wc) :
    Code.wp Try.prog (regionOf Try.f8 16) Q ⟨#[u0, u1, u2, u3, u4, u5, u6, u7, u8, .slice (some ⟨sb, so, none⟩) nr sc, u10, u11, u12, u13, u14, u15, u16, .int .i64 d, .pointer (some ⟨E, 0, none⟩), .int .i64 0, u20, u21, u22, u23, u24, u25, u26, u27, u28, u29, u30, u31, u32, u33, u34, u35, u36, u37, u38, u39, u40, u41, u42, u43, u44, u45, u46, u47, u48, u49, u50, u51, u52, u53, u54, u55, u56, u57, u58, u59, u60, u61, u62, u63, u64, u65, u66, u67, u68, u69, u70, u71, u72, u73, u74, u75, u76, u77, u78, u79, u80, u81, u82, u83, u84, u85, u86, u87, u88, u89, u90, u91, u92, u93, u94, u95, u96, u97, u98, u99, u100, u101, u102, u103, u104, u105, u106, u107, u108, u109, u110, u111, u112, u113, u114, u115, u116, u117, u118, u119, u120, u121, u122, u123, u124, u125, u126, u127, u128, u129, u130, u131, u132, u133, u134, u135, u136, u137, u138, u139, u140, u141, u142, u143, u144, u145, u146, u147, u148, u149, u150, u151, u152, u153, u154, u155, u156, u157, u158, u159], []⟩ R := by
  conv => arg 2; whnf
  have kd : (d : Int) < (nr : Int) := by omega
  have HQ := Lib.hid hQ
  have HI := Lib.hid hin
  clear hQ hin
  apply Facts.wp_frame
  intro X hX
  have g9 : ∀ h, X.tmps[9]'h = .slice (some ⟨sb, so, none⟩) nr sc := by rw [hX]; exact fun _ => rfl
  have g17 : ∀ h, X.tmps[17]'h = .int .i64 d := by rw [hX]; exact fun _ => rfl
  have g18 : ∀ h, X.tmps[18]'h = .pointer (some ⟨E, 0, none⟩) := by rw [hX]; exact fun _ => rfl
  have g19 : ∀ h, X.tmps[19]'h = .int .i64 0 := by rw [hX]; exact fun _ => rfl
  have gsz : X.tmps.size = 160 := by rw [hX]; rfl
  have HX := Lib.hid hX
  clear hX
  apply Facts.Dep.Many.wp_region Facts.Dep.Many.manyE [.val _, .val (.bool false), .val _, .val _, .val _, .val _, .val (.int .i64 rd), .val (.agg #[.int .i64 lo, .int .i64 hi]), .val (.bool true), .val _, .val (.bool false)] (by kernel_rfl) (by kernel_rfl) (by kernel_rfl) trivial ?main
  case main =>
  iterate 8 (refine ⟨fun w1 hx hh => ?_, ?_⟩; focus (clear hh; have j0 := hx.cell e0; have j1 := hx.cell e1; have j2 := hx.cell rv; go_simp; first | exact ⟨Ext.refl _, rfl⟩ | exact Ext.refl _))
  refine ⟨fun w5 hx hh => ?_, ?_⟩
  · clear hh
    have hc := insideR_any rd lo hi w5
    rw [HI.out] at hc
    go_simp
    refine hc.mono ?_
    rintro e w6 ⟨rfl, hx2⟩
    exact ⟨_, rfl, hx2, rfl⟩
  iterate 2 (refine ⟨fun w1 hx hh => ?_, ?_⟩; focus (clear hh; skip; go_simp; first | exact ⟨Ext.refl _, rfl⟩ | exact Ext.refl _))
  intro w5 hx5 hh
  clear hh
  have hX := HX.out
  subst hX
  have hQ := HQ.out
  go_simp
  exact hQ _ _ _ _ _ _ _ _ _ _ w5 hx5
set_option maxHeartbeats 4000000 in
theorem true_r31 {u0 u1 u2 u3 u4 u5 u6 u7 u10 u11 u12 u13 u14 u15 u16 u17 u18 u19 u20 u21 u22 u26 u27 u28 u29 u30 u31 u32 u33 u34 u35 u36 u37 u38 u39 u40 u41 u42 u43 u44 u45 u46 u47 u48 u49 u50 u51 u52 u53 u54 u55 u56 u57 u58 u59 u60 u61 u62 u63 u64 u65 u66 u67 u68 u69 u70 u71 u72 u73 u74 u75 u76 u77 u78 u79 u80 u81 u82 u83 u84 u85 u86 u87 u88 u89 u90 u91 u92 u93 u94 u95 u96 u97 u98 u99 u100 u101 u102 u103 u104 u105 u106 u107 u108 u109 u110 u111 u112 u113 u114 u115 u116 u117 u118 u119 u120 u121 u122 u123 u124 u125 u126 u127 u128 u129 u130 u131 u132 u133 u134 u135 u136 u137 u138 u139 u140 u141 u142 u143 u144 u145 u146 u147 u148 u149 u150 u151 u152 u153 u154 u155 u156 u157 u158 u159 : Value} {R : World} {Z nr sc a rn rc an ac en ec E : Nat} {ta : Addr} {ra aa ea : Option Addr} {days step lo hi pd : Int}
    (z0 : R.cell? ⟨Z, 0, none⟩ = some (.int .i64 days)) (z1 : R.cell? ⟨Z, 1, none⟩ = some (.slice ra rn rc)) (z2 : R.cell? ⟨Z, 2, none⟩ = some (.int .i64 step)) (z3 : R.cell? ⟨Z, 3, none⟩ = some (.slice aa an ac)) (z4 : R.cell? ⟨Z, 4, none⟩ = some (.slice ea en ec))
    (e0 : R.cell? ⟨E, 0, none⟩ = some (.int .i64 lo)) (e1 : R.cell? ⟨E, 1, none⟩ = some (.int .i64 hi)) (hin : inM pd lo hi = true)
    (hsum : ∀ w1, Ext R w1 → Calls Try.prog 39 #[.agg #[.int .i64 days, .slice ra rn rc, .int .i64 step, .slice aa an ac, .slice ea en ec], .int .i64 a, .slice (some ta) nr sc] w1 fun e w' => e = .returned (.int .i64 pd) ∧ Ext w1 w') (Q : Exit → Act → World → Prop)
    (hQ : ∀ (v148 v149 v150 v151 v152 v153 v154 v155 v156 v157 : Value) (wc : World), Ext R wc → Q .normal ⟨#[u0, u1, u2, u3, u4, u5, u6, u7, .pointer (some ⟨Z, 0, none⟩), .slice (some ta) nr sc, u10, u11, u12, u13, u14, u15, u16, u17, u18, u19, u20, u21, u22, .int .i64 a, .pointer (some ⟨E, 0, none⟩), .int .i64 0, u26, u27, u28, u29, u30, u31, u32, u33, u34, u35, u36, u37, u38, u39, u40, u41, u42, u43, u44, u45, u46, u47, u48, u49, u50, u51, u52, u53, u54, u55, u56, u57, u58, u59, u60, u61, u62, u63, u64, u65, u66, u67, u68, u69, u70, u71, u72, u73, u74, u75, u76, u77, u78, u79, u80, u81, u82, u83, u84, u85, u86, u87, u88, u89, u90, u91, u92, u93, u94, u95, u96, u97, u98, u99, u100, u101, u102, u103, u104, u105, u106, u107, u108, u109, u110, u111, u112, u113, u114, u115, u116, u117, u118, u119, u120, u121, u122, u123, u124, u125, u126, u127, u128, u129, u130, u131, u132, u133, u134, u135, u136, u137, u138, u139, u140, u141, u142, u143, u144, u145, u146, u147, v148, v149, v150, v151, v152, v153, v154, v155, v156, v157, .bool false, u159], []⟩ wc) :
    Code.wp Try.prog (regionOf Try.f8 31) Q ⟨#[u0, u1, u2, u3, u4, u5, u6, u7, .pointer (some ⟨Z, 0, none⟩), .slice (some ta) nr sc, u10, u11, u12, u13, u14, u15, u16, u17, u18, u19, u20, u21, u22, .int .i64 a, .pointer (some ⟨E, 0, none⟩), .int .i64 0, u26, u27, u28, u29, u30, u31, u32, u33, u34, u35, u36, u37, u38, u39, u40, u41, u42, u43, u44, u45, u46, u47, u48, u49, u50, u51, u52, u53, u54, u55, u56, u57, u58, u59, u60, u61, u62, u63, u64, u65, u66, u67, u68, u69, u70, u71, u72, u73, u74, u75, u76, u77, u78, u79, u80, u81, u82, u83, u84, u85, u86, u87, u88, u89, u90, u91, u92, u93, u94, u95, u96, u97, u98, u99, u100, u101, u102, u103, u104, u105, u106, u107, u108, u109, u110, u111, u112, u113, u114, u115, u116, u117, u118, u119, u120, u121, u122, u123, u124, u125, u126, u127, u128, u129, u130, u131, u132, u133, u134, u135, u136, u137, u138, u139, u140, u141, u142, u143, u144, u145, u146, u147, u148, u149, u150, u151, u152, u153, u154, u155, u156, u157, u158, u159], []⟩ R := by
  conv => arg 2; whnf
  have HQ := Lib.hid hQ
  have HI := Lib.hid hin
  have HS := Lib.hid hsum
  clear hQ hin hsum
  apply Facts.wp_frame
  intro X hX
  have g8 : ∀ h, X.tmps[8]'h = .pointer (some ⟨Z, 0, none⟩) := by rw [hX]; exact fun _ => rfl
  have g9 : ∀ h, X.tmps[9]'h = .slice (some ta) nr sc := by rw [hX]; exact fun _ => rfl
  have g23 : ∀ h, X.tmps[23]'h = .int .i64 a := by rw [hX]; exact fun _ => rfl
  have g24 : ∀ h, X.tmps[24]'h = .pointer (some ⟨E, 0, none⟩) := by rw [hX]; exact fun _ => rfl
  have g25 : ∀ h, X.tmps[25]'h = .int .i64 0 := by rw [hX]; exact fun _ => rfl
  have gsz : X.tmps.size = 160 := by rw [hX]; rfl
  have HX := Lib.hid hX
  clear hX
  apply Facts.Dep.Many.wp_region Facts.Dep.Many.manyE [.val _, .val (.bool false), .val _, .val (.agg #[.int .i64 days, .slice ra rn rc, .int .i64 step, .slice aa an ac, .slice ea en ec]), .val _, .val _, .val (.int .i64 pd), .val (.agg #[.int .i64 lo, .int .i64 hi]), .val (.bool true), .val _, .val (.bool false)] (by kernel_rfl) (by kernel_rfl) (by kernel_rfl) trivial ?main
  case main =>
  iterate 6 (refine ⟨fun w1 hx hh => ?_, ?_⟩; focus (clear hh; have j0 := hx.cell z0; have j1 := hx.cell z1; have j2 := hx.cell z2; have j3 := hx.cell z3; have j4 := hx.cell z4; go_simp; first | exact ⟨Ext.refl _, rfl⟩ | exact Ext.refl _))
  refine ⟨fun w5 hx hh => ?_, ?_⟩
  · clear hh
    have hc := HS.out w5 hx
    go_simp
    refine hc.mono ?_
    rintro e w6 ⟨rfl, hx2⟩
    exact ⟨_, rfl, hx2, rfl⟩
  iterate 1 (refine ⟨fun w1 hx hh => ?_, ?_⟩; focus (clear hh; have j0 := hx.cell e0; have j1 := hx.cell e1; go_simp; first | exact ⟨Ext.refl _, rfl⟩ | exact Ext.refl _))
  refine ⟨fun w5 hx hh => ?_, ?_⟩
  · clear hh
    have hc := insideR_any pd lo hi w5
    rw [HI.out] at hc
    go_simp
    refine hc.mono ?_
    rintro e w6 ⟨rfl, hx2⟩
    exact ⟨_, rfl, hx2, rfl⟩
  iterate 2 (refine ⟨fun w1 hx hh => ?_, ?_⟩; focus (clear hh; skip; go_simp; first | exact ⟨Ext.refl _, rfl⟩ | exact Ext.refl _))
  intro w5 hx5 hh
  clear hh
  have hX := HX.out
  subst hX
  have hQ := HQ.out
  go_simp
  exact hQ _ _ _ _ _ _ _ _ _ _ w5 hx5
end Go.Proofs.Ytdadffmagfknoaa

namespace Go.Proofs.Ytdadffmagfknoaa
set_option linter.unusedSimpArgs false
set_option linter.unusedVariables false
open Go.RowKit
set_option linter.unusedVariables false
set_option maxRecDepth 100000

set_option maxHeartbeats 16000000 in
theorem true8_any (hv : Value) (h : House) (x : Nat) (hx16 : x ≤ 65535) (w : World) (hh : HouseAt w hv h) :
    Calls Try.prog 8 #[hv, .int .u16 x] w fun e w' => e = .returned (.bool true) ∧ Ext w w' := by
  have c1 := fun w1 (hx : Ext w w1) => valid8_any hv h w1 (hh.ext hx)
  have c2 := fun w1 (hx : Ext w w1) => firstPub_any hv h w1 (hh.ext hx)
  have c3 := fun hV hn w1 (hx : Ext w w1) => lawTold_none hv h hV hn x w1 (hh.ext hx)
  have c4 := fun hV hn w1 (hx : Ext w w1) => lawTold_some hv h hV hn x hx16 w1 (hh.ext hx)
  have c5 := fun w1 (hx : Ext w w1) => wrong_any hv h w1 (hh.ext hx)
  obtain ⟨ra, rc, aa, ac, ea, ec, rfl, -⟩ := hh
  by_cases h0 : raErr h = 0
  rotate_left
  · have k0 : (raErr h == 0) = false := by simpa using h0
    have k1 : (firstErrM h != 0) = true := by unfold firstErrM; rw [if_pos h0]; simpa using h0
    rw [k0] at c1
    generalize firstErrM h = fe at *
    generalize firstNM h = fn at *
    generalize firstLM h = fl at *
    clear h0 k0 c3 c4 c5
    go_enter Try.func8, Try.ntmps8
    go_wp2_with fail
    refine (c1 _ (ext_alloc _ _)).mono ?_
    rintro e w1 ⟨rfl, hx⟩
    have x1 : Ext w w1 := hx.of_alloc
    have p0 : w1.cell? ⟨w.heap.size, 0, none⟩ = some (.int .i64 h.days) := hx.cell (by simp [go_sem])
    have p1 : w1.cell? ⟨w.heap.size, 1, none⟩ = some (.slice ra h.rates.length rc) := hx.cell (by simp [go_sem])
    have p2 : w1.cell? ⟨w.heap.size, 2, none⟩ = some (.int .i64 h.step) := hx.cell (by simp [go_sem])
    have p3 : w1.cell? ⟨w.heap.size, 3, none⟩ = some (.slice aa h.agents.length ac) := hx.cell (by simp [go_sem])
    have p4 : w1.cell? ⟨w.heap.size, 4, none⟩ = some (.slice ea h.entries.length ec) := hx.cell (by simp [go_sem])
    have z0 := cell_lt p0
    clear hx c1
    go_wp2_with fail
    refine (c2 _ x1).mono ?_
    rintro e w2 ⟨u, rfl, hu, hx⟩
    obtain ⟨ua, uc, rfl, -⟩ := hu.shape
    (replace p0 := Ext.cell hx p0; replace p1 := Ext.cell hx p1; replace p2 := Ext.cell hx p2; replace p3 := Ext.cell hx p3; replace p4 := Ext.cell hx p4; replace z0 := cell_lt p0; replace x1 := Ext.trans x1 hx)
    clear hx c2 hu
    go_wp2_with fail
    (refine (awakeR_any _).mono ?_; rintro e w9 ⟨rfl, hx9⟩; have x9 := Ext.trans x1 hx9; clear hx9)
    go_wp2
    go_ret
    exact ⟨rfl, x9⟩
  have hV := validH_of h0
  have k0 : (raErr h == 0) = true := by simpa using h0
  rw [k0] at c1
  by_cases hn : ratesL h = []
  · have c3' := c3 hV hn
    have hwe : wrongErr h = 9 := by
      have hw : wrongErr h ≠ 0 := fun hw => by
        obtain ⟨⟨s, -, h2, -⟩, -⟩ := wrong_ok h0 hw
        obtain ⟨r, hr⟩ := trueP_rates hV h2
        rw [hn] at hr; cases hr
      exact (wrong_none h0 hw).1
    rw [hwe] at c5
    clear c3 c4 c2 hwe k0 hn h0
    generalize wrongL h = wl at *
    have hnil := fun w => run_eql_slice_nil (P := Try.prog) w 30 3 none 0 0 Try.underlying30
    simp only [Option.isNone_none] at hnil
    go_enter Try.func8, Try.ntmps8
    go_wp2_with fail
    refine (c1 _ (ext_alloc _ _)).mono ?_
    rintro e w1 ⟨rfl, hx⟩
    have x1 : Ext w w1 := hx.of_alloc
    have p0 : w1.cell? ⟨w.heap.size, 0, none⟩ = some (.int .i64 h.days) := hx.cell (by simp [go_sem])
    have p1 : w1.cell? ⟨w.heap.size, 1, none⟩ = some (.slice ra h.rates.length rc) := hx.cell (by simp [go_sem])
    have p2 : w1.cell? ⟨w.heap.size, 2, none⟩ = some (.int .i64 h.step) := hx.cell (by simp [go_sem])
    have p3 : w1.cell? ⟨w.heap.size, 3, none⟩ = some (.slice aa h.agents.length ac) := hx.cell (by simp [go_sem])
    have p4 : w1.cell? ⟨w.heap.size, 4, none⟩ = some (.slice ea h.entries.length ec) := hx.cell (by simp [go_sem])
    have z0 := cell_lt p0
    clear hx c1
    go_wp2_with fail
    refine (c3' _ x1).mono ?_
    rintro e w2 ⟨rfl, hx⟩
    (replace p0 := Ext.cell hx p0; replace p1 := Ext.cell hx p1; replace p2 := Ext.cell hx p2; replace p3 := Ext.cell hx p3; replace p4 := Ext.cell hx p4; replace z0 := cell_lt p0; replace x1 := Ext.trans x1 hx)
    have zz : w.heap.size < w2.heap.size := z0
    clear hx c3'
    go_wp2_with fail
    refine (c5 _ (x1.alloc _)).mono ?_
    rintro e w3 ⟨u, rfl, hu, hx⟩
    obtain ⟨ua, uc, rfl, -⟩ := hu.shape
    have x3 := (x1.alloc _).trans hx
    clear hx hu c5
    go_wp2_with fail
    (refine (awakeR_any _).mono ?_; rintro e w9 ⟨rfl, hx9⟩; have x9 := Ext.trans x3 hx9; clear hx9)
    go_wp2
    go_ret
    exact ⟨rfl, x9⟩
  have c4' := c4 hV hn
  clear c3 c4 c2 c5 k0
  have H0 := Lib.hid h0
  go_enter Try.func8, Try.ntmps8
  go_wp2_with fail
  refine (c1 _ (ext_alloc _ _)).mono ?_
  rintro e w1 ⟨rfl, hx⟩
  have x1 : Ext w w1 := hx.of_alloc
  have p0 : w1.cell? ⟨w.heap.size, 0, none⟩ = some (.int .i64 h.days) := hx.cell (by simp [go_sem])
  have p1 : w1.cell? ⟨w.heap.size, 1, none⟩ = some (.slice ra h.rates.length rc) := hx.cell (by simp [go_sem])
  have p2 : w1.cell? ⟨w.heap.size, 2, none⟩ = some (.int .i64 h.step) := hx.cell (by simp [go_sem])
  have p3 : w1.cell? ⟨w.heap.size, 3, none⟩ = some (.slice aa h.agents.length ac) := hx.cell (by simp [go_sem])
  have p4 : w1.cell? ⟨w.heap.size, 4, none⟩ = some (.slice ea h.entries.length ec) := hx.cell (by simp [go_sem])
  have z0 := cell_lt p0
  clear hx c1 h0 hn
  go_wp2_with fail
  refine (c4' _ x1).mono ?_
  rintro e w2 ⟨v, ta, tn, tc, r, rfl, hrm, hzh, hrow, hx⟩
  have hTO := told_ok H0.out hrm
  have htr := told_tru H0.out hrm
  obtain ⟨z, hz⟩ : ∃ z, z = toldH h r := ⟨_, rfl⟩
  rw [← hz] at hzh hTO htr
  have d1 := fun w3 (hx : Ext w2 w3) => wrong_any v z w3 (hzh.ext hx)
  have d2 := fun w3 (hx : Ext w2 w3) => firstPub_any v z w3 (hzh.ext hx)
  have d3 := fun d hd w3 (hx : Ext w2 w3) => ratePub_any v z d hd w3 (hzh.ext hx)
  have d4 := fun i hi w3 (hx : Ext w2 w3) => agreePub_any v z i hi w3 (hzh.ext hx)
  have d5 := fun a ha w3 (hx : Ext w2 w3) => paidPub_any v z a ha w3 (hzh.ext hx)
  have hVz := validH_of hTO.err
  have hrz := truL_sub hVz htr
  have hlen : r.length = z.days.toNat ∧ ∀ x ∈ r, 1 ≤ x ∧ x ≤ 20 := by
    have := hrz
    rw [ratesL_levels] at this
    exact levels_mem hVz (Nat.le_refl _) _ this
  have d6 := fun a ha w3 (hx : Ext w2 w3) => refSum_any v (.slice (some ta) tn tc) z hVz a r (fun d h1 h2 => by rw [hlen.1]; omega) (fun i hi => rateIn_of hVz htr hi) ha w3 (hzh.ext hx) (hrow.ext hx)
  have hEnt := hzh
  obtain ⟨ra', rc', aa', ac', ea', ec', rfl, -, -, -, -, hEz⟩ := hzh
  have x2 := x1.trans hx
  have hnil := fun w => run_eql_slice_nil (P := Try.prog) w 30 3 (some ta) tn tc Try.underlying30
  simp only [Option.isNone_some] at hnil
  have D1 := Lib.hid d1
  have D2 := Lib.hid d2
  have D3 := Lib.hid d3
  have D4 := Lib.hid d4
  have D5 := Lib.hid d5
  have D6 := Lib.hid d6
  have TO := Lib.hid hTO
  have HVZ := Lib.hid hVz
  have HLEN := Lib.hid hlen
  have HROW := Lib.hid hrow
  have HEZ := Lib.hid hEz
  clear hx c4' hrm hz d1 d2 d3 d4 d5 d6 hTO hVz hrz htr hlen hrow hEz hEnt p0 p1 p2 p3 p4 z0 H0 hV
  go_wp2_with fail
  obtain ⟨W4, hW4⟩ : ∃ W, W = w2.alloc (.cells #[.int .i64 z.days, .slice ra' z.rates.length rc', .int .i64 z.step, .slice aa' z.agents.length ac', .slice ea' z.entries.length ec'] 26) := ⟨_, rfl⟩
  obtain ⟨Z, hZ⟩ : ∃ Z, Z = w2.heap.size := ⟨_, rfl⟩
  have x3 : Ext w2 W4 := by rw [hW4]; exact ext_alloc _ _
  have q0 : W4.cell? ⟨Z, 0, none⟩ = some (.int .i64 z.days) := by rw [hW4, hZ]; simp [go_sem]
  have q1 : W4.cell? ⟨Z, 1, none⟩ = some (.slice ra' z.rates.length rc') := by rw [hW4, hZ]; simp [go_sem]
  have q2 : W4.cell? ⟨Z, 2, none⟩ = some (.int .i64 z.step) := by rw [hW4, hZ]; simp [go_sem]
  have q3 : W4.cell? ⟨Z, 3, none⟩ = some (.slice aa' z.agents.length ac') := by rw [hW4, hZ]; simp [go_sem]
  have q4 : W4.cell? ⟨Z, 4, none⟩ = some (.slice ea' z.entries.length ec') := by rw [hW4, hZ]; simp [go_sem]
  have y0 := cell_lt q0
  rw [← hW4, ← hZ]
  clear hW4 hZ
  have t1 := D1.out W4 x3
  rw [TO.out.wrong.1, TO.out.wrong.2] at t1
  refine t1.mono ?_
  rintro e w3 ⟨u, rfl, hu, hx⟩
  obtain ⟨ua, uc, rfl, -⟩ := hu.shape
  (replace q0 := Ext.cell hx q0; replace q1 := Ext.cell hx q1; replace q2 := Ext.cell hx q2; replace q3 := Ext.cell hx q3; replace q4 := Ext.cell hx q4; replace y0 := cell_lt q0; replace x3 := Ext.trans x3 hx)
  clear hx t1 hu
  have hnil0 : (ints ([] : List Nat)).length = 0 := rfl
  rw [hnil0]
  clear hnil0
  have t2 := D2.out w3 x3
  have hf1 := TO.out.first.1
  have hf2 := TO.out.first.2
  rw [hf1] at t2
  generalize firstNM z = fn at *
  generalize firstLM z = fl at *
  have hf3 : ¬ (fn : Int) < 1 := by omega
  clear hf1 hf2
  go_wp2_with fail
  refine t2.mono ?_
  rintro e w4 ⟨u, rfl, hu, hx⟩
  obtain ⟨fa, fc, rfl, -⟩ := hu.shape
  (replace q0 := Ext.cell hx q0; replace q1 := Ext.cell hx q1; replace q2 := Ext.cell hx q2; replace q3 := Ext.cell hx q3; replace q4 := Ext.cell hx q4; replace y0 := cell_lt q0; replace x3 := Ext.trans x3 hx)
  clear hx t2 hu
  have hdz := HVZ.out.days
  go_wp2
  go_loopw [17] (fun i wr => ∃ k : Nat, (k : Int) ≤ z.days ∧ i = .int .i64 k ∧ Ext w4 wr) (fun i _ => z.days.toNat - (intOf i).toNat)
  case atStart => exact ⟨0, by omega, rfl, Ext.refl _⟩
  case round =>
    obtain ⟨k, hk, rfl, hx⟩ := hrel
    (replace q0 := Ext.cell hx q0; replace q1 := Ext.cell hx q1; replace q2 := Ext.cell hx q2; replace q3 := Ext.cell hx q3; replace q4 := Ext.cell hx q4; replace y0 := cell_lt q0; replace x3 := Ext.trans x3 hx)
    by_cases hlt : (k : Int) < z.days
    · have t3 := D3.out (k : Int) (by unfold I64; omega) wr x3
      obtain ⟨hr1, hr2⟩ := TO.out.rate k hlt
      rw [show ((k : Nat) : Int).toNat = k from by omega] at t3
      rw [hr1] at t3
      unfold spanV at t3
      obtain ⟨lo, hlo⟩ : ∃ lo, lo = (numSpan z [⟨(k : Int), daysM z, 4⟩] (fun r => r.getD k 0)).1 := ⟨_, rfl⟩
      obtain ⟨hi, hhi⟩ : ∃ hi, hi = (numSpan z [⟨(k : Int), daysM z, 4⟩] (fun r => r.getD k 0)).2 := ⟨_, rfl⟩
      rw [← hlo, ← hhi] at t3 hr2
      have hkr : k < r.length := by have := HLEN.out.1; omega
      have hrow := HROW.out.ext x3
      have htn : tn = r.length := by obtain ⟨_, _, e, -⟩ := hrow; exact (Value.slice.inj e).2.1
      obtain ⟨sb, so, e2, rv, -⟩ := SliceAt.get hrow hkr
      obtain rfl := Option.some.inj e2
      rw [Nat.mul_one] at rv
      have hrg : r[k] = r.getD k 0 := by simp [List.getD_eq_getElem?_getD, List.getElem?_eq_getElem hkr]
      rw [hrg] at rv
      generalize r.getD k 0 = rd at *
      have R2 := Lib.hid hr2
      have RV := Lib.hid rv
      have HTN : Hid (k < tn) := Lib.hid (by omega)
      clear hr1 hr2 hlo hhi hkr hrow htn e2 rv hrg
      go_wp2_with fail
      refine t3.mono ?_
      rintro e w5 ⟨rfl, hx5⟩
      have rv5 := hx5.cell RV.out
      have hxx := hx.trans hx5
      clear t3 q0 q1 q2 q3 q4 y0 x3 hx5 hx
      go_upto_region 16 with fail
      obtain ⟨R, hR⟩ : ∃ R, R = w5.alloc (.cells #[.int .i64 lo, .int .i64 hi] 35) := ⟨_, rfl⟩
      have xR : Ext w5 R := by rw [hR]; exact ext_alloc _ _
      have e0 : R.cell? ⟨w5.heap.size, 0, none⟩ = some (.int .i64 lo) := by rw [hR]; simp [go_sem]
      have e1 : R.cell? ⟨w5.heap.size, 1, none⟩ = some (.int .i64 hi) := by rw [hR]; simp [go_sem]
      rw [← hR]
      refine true_r16 (R := R) (E := w5.heap.size) HTN.out (xR.cell rv5) e0 e1 R2.out _ ?_
      intro v96 v97 v98 v99 v100 v101 v102 v103 v104 v105 wc hxc
      have hxw := (hxx.trans xR).trans hxc
      clear hR xR e0 e1 rv5 hxx hxc
      go_wp2
      go_roundw
      case rel => exact ⟨k + 1, by omega, by go_num, hxw⟩
      case measure => simp [intOf]; omega
    · clear hx
      go_wp2
      obtain ⟨R1, hR1⟩ : ∃ R1 : World, R1 = wr := ⟨_, rfl⟩
      subst hR1
      have hez := HVZ.out.entries
      go_loopw [20] (fun i wr => ∃ k : Nat, k ≤ z.entries.length ∧ i = .int .i64 k ∧ Ext R1 wr) (fun i _ => z.entries.length - (intOf i).toNat)
      case atStart => exact ⟨0, Nat.zero_le _, rfl, Ext.refl _⟩
      case round =>
        obtain ⟨k, hk, rfl, hx⟩ := hrel
        (replace q0 := Ext.cell hx q0; replace q1 := Ext.cell hx q1; replace q2 := Ext.cell hx q2; replace q3 := Ext.cell hx q3; replace q4 := Ext.cell hx q4; replace y0 := cell_lt q0; replace x3 := Ext.trans x3 hx)
        by_cases hlt : k < z.entries.length
        · have k1 : (k : Int) < (z.entries.length : Int) := by omega
          have t3 := D4.out (k : Int) (by unfold I64; omega) wr x3
          obtain ⟨ha1, ha2⟩ := TO.out.agree k hlt
          rw [show ((k : Nat) : Int).toNat = k from by omega] at t3
          obtain ⟨eb, eo, hea, -, -, -, d3, -⟩ := SliceAt.get (HEZ.out.ext x3) hlt
          subst hea
          have hem := entAt_get (h := z) hlt
          rw [← hem] at d3
          have htold : toldE (entAt z k) = ((entAt z k).far != -1) := rfl
          generalize agreeErr z [⟨(k : Int), entsM z, 4⟩] k = ae at *
          generalize agreeHow z [⟨(k : Int), entsM z, 4⟩] k = ah at *
          generalize entAt z k = xe at *
          have DD3 := Lib.hid d3
          by_cases hf : xe.far = -1
          · have hto : toldE xe = false := by rw [htold, hf]; rfl
            obtain rfl := ha1 hto
            have hfb : (xe.far == -1) = true := by simpa using hf
            clear ha1 ha2 htold hto hem hf d3
            go_wp2_with fail
            refine t3.mono ?_
            rintro e w5 ⟨rfl, hx5⟩
            have d3 := hx5.cell DD3.out
            have zd := cell_lt d3
            have hxx := hx.trans hx5
            (replace q0 := Ext.cell hx5 q0; replace q1 := Ext.cell hx5 q1; replace q2 := Ext.cell hx5 q2; replace q3 := Ext.cell hx5 q3; replace q4 := Ext.cell hx5 q4; replace y0 := cell_lt q0; replace x3 := Ext.trans x3 hx5)
            clear t3 hx5 hx
            go_wp2
            go_roundw
            case rel => exact ⟨k + 1, by omega, by go_num, hxx⟩
            case measure => simp [intOf]; omega
          · have hfn : (xe.far != -1) = true := bne_iff_ne.2 hf
            have hto : toldE xe = true := by rw [htold, hfn]
            obtain ⟨rfl, hah⟩ := ha2 hto
            have hfb : (xe.far == -1) = false := beq_eq_false_iff_ne.2 hf
            have hab : (ah == 2) = false := beq_eq_false_iff_ne.2 hah
            clear ha1 ha2 htold hto hem hf d3 hfn hah
            go_wp2_with fail
            refine t3.mono ?_
            rintro e w5 ⟨rfl, hx5⟩
            have d3 := hx5.cell DD3.out
            have zd := cell_lt d3
            have hxx := hx.trans hx5
            (replace q0 := Ext.cell hx5 q0; replace q1 := Ext.cell hx5 q1; replace q2 := Ext.cell hx5 q2; replace q3 := Ext.cell hx5 q3; replace q4 := Ext.cell hx5 q4; replace y0 := cell_lt q0; replace x3 := Ext.trans x3 hx5)
            clear t3 hx5 hx
            go_wp2
            go_roundw
            case rel => exact ⟨k + 1, by omega, by go_num, hxx⟩
            case measure => simp [intOf]; omega
        · clear hx
          go_wp2
          obtain ⟨R2, hR2⟩ : ∃ R2 : World, R2 = wr := ⟨_, rfl⟩
          subst hR2
          have haz := HVZ.out.agents
          go_loopw [23] (fun i wr => ∃ k : Nat, k ≤ z.agents.length ∧ i = .int .i64 k ∧ Ext R2 wr) (fun i _ => z.agents.length - (intOf i).toNat)
          case atStart => exact ⟨0, Nat.zero_le _, rfl, Ext.refl _⟩
          case round =>
            obtain ⟨k, hk, rfl, hx⟩ := hrel
            (replace q0 := Ext.cell hx q0; replace q1 := Ext.cell hx q1; replace q2 := Ext.cell hx q2; replace q3 := Ext.cell hx q3; replace q4 := Ext.cell hx q4; replace y0 := cell_lt q0; replace x3 := Ext.trans x3 hx)
            by_cases hlt : k < z.agents.length
            · have k1 : (k : Int) < (z.agents.length : Int) := by omega
              have t3 := D5.out (k : Int) (by unfold I64; omega) wr x3
              obtain ⟨hr1, hr2⟩ := TO.out.paid k hlt
              rw [hr1] at t3
              unfold spanV at t3
              obtain ⟨lo, hlo⟩ : ∃ lo, lo = (numSpan z [⟨(k : Int), agtsM z, 4⟩] (fun r => paidM z k r)).1 := ⟨_, rfl⟩
              obtain ⟨hi, hhi⟩ : ∃ hi, hi = (numSpan z [⟨(k : Int), agtsM z, 4⟩] (fun r => paidM z k r)).2 := ⟨_, rfl⟩
              rw [← hlo, ← hhi] at t3 hr2
              have t6 := fun w3 hx => D6.out (k : Int) ⟨by omega, k1⟩ w3 hx
              generalize paidM z (k : Int) r = pd at *
              have R2' := Lib.hid hr2
              have T6 := Lib.hid t6
              clear hr1 hr2 hlo hhi t6
              go_wp2_with fail
              refine t3.mono ?_
              rintro e w5 ⟨rfl, hx5⟩
              have hxx := hx.trans hx5
              (replace q0 := Ext.cell hx5 q0; replace q1 := Ext.cell hx5 q1; replace q2 := Ext.cell hx5 q2; replace q3 := Ext.cell hx5 q3; replace q4 := Ext.cell hx5 q4; replace y0 := cell_lt q0; replace x3 := Ext.trans x3 hx5)
              clear t3 hx5 hx
              have Y0 := Lib.hid q0
              have Y1 := Lib.hid q1
              have Y2 := Lib.hid q2
              have Y3 := Lib.hid q3
              have Y4 := Lib.hid q4
              have X3 := Lib.hid x3
              clear q0 q1 q2 q3 q4 y0 x3
              go_upto_region 31 with fail
              obtain ⟨R, hR⟩ : ∃ R, R = w5.alloc (.cells #[.int .i64 lo, .int .i64 hi] 35) := ⟨_, rfl⟩
              have xR : Ext w5 R := by rw [hR]; exact ext_alloc _ _
              have e0 : R.cell? ⟨w5.heap.size, 0, none⟩ = some (.int .i64 lo) := by rw [hR]; simp [go_sem]
              have e1 : R.cell? ⟨w5.heap.size, 1, none⟩ = some (.int .i64 hi) := by rw [hR]; simp [go_sem]
              rw [← hR]
              have hxr : Ext w2 R := X3.out.trans xR
              refine true_r31 (R := R) (Z := Z) (E := w5.heap.size) (xR.cell Y0.out) (xR.cell Y1.out) (xR.cell Y2.out) (xR.cell Y3.out) (xR.cell Y4.out) e0 e1 R2'.out (fun w6 hx6 => T6.out w6 (hxr.trans hx6)) _ ?_
              intro v148 v149 v150 v151 v152 v153 v154 v155 v156 v157 wc hxc
              have hxw := (hxx.trans xR).trans hxc
              clear hR xR e0 e1 hxx hxc hxr
              go_wp2
              go_roundw
              case rel => exact ⟨k + 1, by omega, by go_num, hxw⟩
              case measure => simp [intOf]; omega
            · have xw := x2.trans x3
              clear hx x3
              go_wp2_with fail
              (refine (awakeR_any _).mono ?_; rintro e w9 ⟨rfl, hx9⟩; have x9 := Ext.trans xw hx9; clear hx9)
              go_wp2
              go_ret
              exact ⟨rfl, x9⟩
end Go.Proofs.Ytdadffmagfknoaa
