/-
  RATES AND TRUTHS, plain: the rates found day by day; houses without errors; truths by entries.
  THE ERRORS of a rate, an agent, an entry and an argument: of the program.
  WHAT alphabetError AND check.First RETURN: the first error of an alphabet; the first alphabet with an error.
  WHAT spellingError AND check.First RETURN: the first error of a spelling; the first spelling with an error.
  WHAT check.First RETURNS at the spellings of a book.
  WHAT ear.Check AND open RETURN, for any book: the part, the index and the error that the document says; the book, and its error, or that of an index.
  THE FIRST ERROR of rates, agents, entries and arguments: check.First and check.List, of the program.
  WHAT rate.Check RETURNS, for any house: the part, the index and the error that the document says.
  THE RULE FOR A REGION THAT DRAWS ITS ORDER, WITH A PIVOT: one operation with which each other one is in order (it waits for it, or is waited for), and that may turn more than the others do. Over any program.
-/
import Derived.Test.YtdadffmagfknoaaBunAA
import Derived.Outline
import Derived.OrdersIn
import Derived.OwnWalkIn
namespace Go.Proofs.Ytdadffmagfknoaa
set_option linter.unusedSimpArgs false
set_option linter.unusedVariables false
open Go.RowKit
set_option linter.unusedVariables false

theorem rangeI_nil {a b : Int} (h : b < a) : rangeI a b = [] := by
  unfold rangeI numI
  rw [show (b + 1 - a).toNat = 0 from by omega]; rfl
theorem rangeI_cons {a b : Int} (h : a ≤ b) : rangeI a b = a :: rangeI (a + 1) b := by
  unfold rangeI numI
  rw [show (b + 1 - a).toNat = (b + 1 - (a + 1)).toNat + 1 from by omega, List.range_succ_eq_map, List.map_cons, List.map_map]
  congr 1
  · simp
  · refine List.map_congr_left fun k _ => ?_
    simp only [Function.comp]; omega
theorem filter_rangeI (lo hi : Int) : ∀ (n : Nat) (a b : Int), numI a b = n → (rangeI a b).filter (fun x => decide (lo ≤ x) && decide (x ≤ hi)) = rangeI (max a lo) (min b hi)
  | 0, a, b, hn => by
    have hab : b < a := by unfold numI at hn; omega
    rw [rangeI_nil hab, rangeI_nil (by omega)]; rfl
  | n + 1, a, b, hn => by
    have hab : a ≤ b := by unfold numI at hn; omega
    have ih := filter_rangeI lo hi n (a + 1) b (by unfold numI at hn ⊢; omega)
    rw [rangeI_cons hab, List.filter_cons, ih]
    by_cases h1 : lo ≤ a
    · by_cases h2 : a ≤ hi
      · rw [if_pos (by simp [h1, h2]), show max a lo = a from by omega, rangeI_cons (a := a) (b := min b hi) (by omega), show max (a + 1) lo = a + 1 from by omega]
      · rw [if_neg (by simp [h2]), rangeI_nil (by omega), rangeI_nil (by omega)]
    · rw [if_neg (by simp [h1]), show max (a + 1) lo = max a lo from by omega]

/-- the rates of the first so many days -/
def levelsR (h : House) : Nat → List (List Int)
  | 0 => [[]]
  | d + 1 => (levelsR h d).flatMap fun q => (rangeI (loAt h d q) (hiAt h d q)).map fun x => q ++ [x]
theorem levels_to (h : House) : ∀ n d, levelsR h (d + n) = (levelsR h d).flatMap fun q => ratesTo h n d q
  | 0, d => by simp [ratesTo]
  | n + 1, d => by
    rw [show d + (n + 1) = (d + 1) + n from by omega, levels_to h n (d + 1)]
    simp only [levelsR, ratesTo, List.flatMap_assoc, List.flatMap_map]
theorem ratesL_levels (h : House) : ratesL h = levelsR h h.days.toNat := by
  have := levels_to h h.days.toNat 0
  rw [Nat.zero_add] at this
  rw [this]
  simp [levelsR, ratesL]

structure ValidH (h : House) : Prop where
  days : 1 ≤ h.days ∧ h.days ≤ 3
  many : (h.rates.length : Int) = h.days
  rates : ∀ s ∈ h.rates, 1 ≤ s.1 ∧ s.1 ≤ s.2 ∧ s.2 ≤ 20
  step : 0 ≤ h.step ∧ h.step ≤ 20
  agents : h.agents.length ≤ 3
  agent : ∀ a ∈ h.agents, (0 ≤ a.fee ∧ a.fee ≤ 20) ∧ 0 ≤ a.round ∧ a.round ≤ 2
  entries : h.entries.length ≤ 5
  entry : ∀ e ∈ h.entries, (0 ≤ e.agent ∧ e.agent < h.agents.length) ∧ (0 ≤ e.day ∧ e.day < h.days) ∧ (0 ≤ e.near ∧ e.near ≤ 99) ∧ -1 ≤ e.far ∧ e.far ≤ 198
theorem ValidH.span {h : House} (hv : ValidH h) {d : Nat} (hd : d < h.rates.length) : 1 ≤ (spanAt h d).1 ∧ (spanAt h d).1 ≤ (spanAt h d).2 ∧ (spanAt h d).2 ≤ 20 := by
  unfold spanAt
  rw [List.getD_eq_getElem?_getD, List.getElem?_eq_getElem hd]
  exact hv.rates _ (List.getElem_mem hd)
theorem entAt_mem {h : House} {i : Nat} (hi : i < h.entries.length) : entAt h i ∈ h.entries := by
  unfold entAt
  rw [List.getD_eq_getElem?_getD, List.getElem?_eq_getElem hi]
  exact List.getElem_mem hi
theorem entAt_get {h : House} {i : Nat} (hi : i < h.entries.length) : entAt h i = h.entries[i] := by
  unfold entAt
  rw [List.getD_eq_getElem?_getD, List.getElem?_eq_getElem hi]; rfl
theorem agtAt_mem {h : House} {i : Int} (h0 : 0 ≤ i) (hi : i < h.agents.length) : agtAt h i ∈ h.agents := by
  unfold agtAt
  rw [List.getD_eq_getElem?_getD, List.getElem?_eq_getElem (show i.toNat < h.agents.length by omega)]
  exact List.getElem_mem _
theorem loAt_ge {h : House} (d : Nat) (r : List Int) : (spanAt h d).1 ≤ loAt h d r := by unfold loAt; split <;> omega
theorem hiAt_le {h : House} (d : Nat) (r : List Int) : hiAt h d r ≤ (spanAt h d).2 := by unfold hiAt; split <;> omega
/-- each rate is from its day's span -/
theorem ratesTo_in (h : House) : ∀ (n d : Nat) (r : List Int), r.length = d → ∀ q ∈ ratesTo h n d r, ∀ j, d ≤ j → j < d + n → (spanAt h j).1 ≤ q.getD j 0 ∧ q.getD j 0 ≤ (spanAt h j).2
  | 0, d, r, hr, q, hq, j, h1, h2 => by omega
  | n + 1, d, r, hr, q, hq, j, h1, h2 => by
    simp only [ratesTo, List.mem_flatMap] at hq
    obtain ⟨x, hx, hq⟩ := hq
    by_cases hj : j = d
    · subst hj
      obtain ⟨t, rfl, -⟩ := ratesTo_ext h n _ _ q hq
      rw [getD_snoc r t x j hr]
      have := mem_rangeI.1 hx
      have := loAt_ge (h := h) j r
      have := hiAt_le (h := h) j r
      omega
    · exact ratesTo_in h n (d + 1) (r ++ [x]) (by simp [hr]) q hq j (by omega) (by omega)
theorem ratesL_len {h : House} {q : List Int} (hq : q ∈ ratesL h) : q.length = h.days.toNat := by
  obtain ⟨t, rfl, ht⟩ := ratesTo_ext h _ _ _ q hq
  simpa using ht
theorem ratesL_in {h : House} (hv : ValidH h) {q : List Int} (hq : q ∈ ratesL h) {j : Nat} (hj : j < h.days.toNat) : (spanAt h j).1 ≤ q.getD j 0 ∧ q.getD j 0 ≤ (spanAt h j).2 :=
  ratesTo_in h _ 0 [] rfl q hq j (by omega) (by omega)
theorem ratesL_good {h : House} (hv : ValidH h) {q : List Int} (hq : q ∈ ratesL h) {j : Nat} (hj : j < h.days.toNat) : 1 ≤ q.getD j 0 ∧ q.getD j 0 ≤ 20 := by
  have h1 := ratesL_in hv hq hj
  have h2 := hv.span (d := j) (by have := hv.many; have := hv.days; omega)
  omega
theorem rflatMap_len {α β : Type} (f : α → List β) (k : Nat) : ∀ l : List α, (∀ x ∈ l, (f x).length ≤ k) → (l.flatMap f).length ≤ l.length * k
  | [], _ => by simp
  | x :: l, hl => by
    rw [List.flatMap_cons, List.length_append, List.length_cons]
    have h1 := hl x (by simp)
    have h2 := rflatMap_len f k l fun y hy => hl y (by simp [hy])
    rw [Nat.add_mul]; omega
theorem ratesTo_len {h : House} (hv : ValidH h) : ∀ (n d : Nat) (r : List Int), d + n ≤ h.days.toNat → (ratesTo h n d r).length ≤ 20 ^ n
  | 0, d, r, _ => by simp [ratesTo]
  | n + 1, d, r, hd => by
    have h1 := rflatMap_len (fun x => ratesTo h n (d + 1) (r ++ [x])) (20 ^ n) (rangeI (loAt h d r) (hiAt h d r)) fun x _ => ratesTo_len hv n (d + 1) (r ++ [x]) (by omega)
    have h2 := hv.span (d := d) (by have := hv.many; have := hv.days; omega)
    have h3 := loAt_ge (h := h) d r
    have h4 := hiAt_le (h := h) d r
    have h5 : numI (loAt h d r) (hiAt h d r) ≤ 20 := by unfold numI; omega
    rw [rangeI_len] at h1
    simp only [ratesTo]
    calc _ ≤ numI (loAt h d r) (hiAt h d r) * 20 ^ n := h1
      _ ≤ 20 * 20 ^ n := Nat.mul_le_mul_right _ h5
      _ = 20 ^ (n + 1) := by rw [Nat.pow_succ, Nat.mul_comm]
theorem ratesL_many {h : House} (hv : ValidH h) : (ratesL h).length ≤ 8000 := by
  have h1 := ratesTo_len hv h.days.toNat 0 [] (by omega)
  have h2 : 20 ^ h.days.toNat ≤ 20 ^ 3 := Nat.pow_le_pow_right (by omega) (by have := hv.days; omega)
  exact Nat.le_trans h1 (Nat.le_trans h2 (by decide))

/-- all entries that are told and not left out are right -/
def okAll (h : House) (out : Nat → Bool) (q : List Int) : Bool := (List.range h.entries.length).all fun i => out i || !toldE (entAt h i) || agreesM h (entAt h i) q
theorem okDays_all {h : House} (hv : ValidH h) (out : Nat → Bool) (q : List Int) : ((List.range h.days.toNat).all fun d => okDay h out d q) = okAll h out q := by
  rw [Bool.eq_iff_iff, List.all_eq_true]
  unfold okAll
  rw [List.all_eq_true]
  constructor
  · intro k i hi
    have hi' := List.mem_range.1 hi
    have he := hv.entry _ (entAt_mem hi')
    have hd := k (entAt h i).day.toNat (List.mem_range.2 (by omega))
    unfold okDay at hd
    rw [List.all_eq_true] at hd
    cases ho : out i
    · cases ht : toldE (entAt h i)
      · simp
      · have := hd i (by unfold entsOf; rw [List.mem_filter]; exact ⟨hi, by simp [ho, ht]; omega⟩)
        simp [this]
    · simp
  · intro k d hd
    unfold okDay
    rw [List.all_eq_true]
    intro i hi
    unfold entsOf at hi
    rw [List.mem_filter] at hi
    have := k i hi.1
    simp only [Bool.and_eq_true] at hi
    obtain ⟨-, ⟨h1, h2⟩, -⟩ := hi
    cases ho : out i
    · simpa [ho, h1] using this
    · rw [ho] at h2; cases h2
theorem truL_all {h : House} (hv : ValidH h) (out : Nat → Bool) : truL h out = (ratesL h).filter fun q => okAll h out q := by
  rw [truL_filter]
  exact List.filter_congr fun q _ => okDays_all hv out q
theorem truL_many {h : House} (hv : ValidH h) (out : Nat → Bool) : (truL h out).length ≤ 8000 := by
  rw [truL_all hv]
  exact Nat.le_trans (List.length_filter_le _ _) (ratesL_many hv)
theorem truL_sub {h : House} (hv : ValidH h) {out : Nat → Bool} {q : List Int} (hq : q ∈ truL h out) : q ∈ ratesL h := by
  rw [truL_all hv, List.mem_filter] at hq; exact hq.1
theorem payM_in {a : Agt} (ha : 0 ≤ a.fee ∧ a.fee ≤ 20) {near rate : Int} (hn : 0 ≤ near ∧ near ≤ 99) (hr : 0 ≤ rate ∧ rate ≤ 20) : 0 ≤ payM a near rate ∧ payM a near rate ≤ 199 := by
  have h1 : 0 ≤ max (near - a.fee) 0 * rate := Int.mul_nonneg (by omega) hr.1
  have h2 : max (near - a.fee) 0 * rate ≤ 99 * 20 := Int.mul_le_mul (by omega) hr.2 hr.1 (by omega)
  unfold payM
  split
  · omega
  · split <;> omega
/-- the least and the greatest of some numbers -/
def hullM : List Int → Int × Int
  | [] => (0, 0)
  | x :: l => (l.foldl min x, l.foldl max x)
theorem hullM_snoc (l : List Int) (x : Int) : hullM (l ++ [x]) = if l = [] then (x, x) else (min (hullM l).1 x, max (hullM l).2 x) := by
  cases l with
  | nil => rfl
  | cons y l => simp [hullM, List.foldl_append]
end Go.Proofs.Ytdadffmagfknoaa

namespace Go.Proofs.Ytdadffmagfknoaa
set_option linter.unusedSimpArgs false
set_option linter.unusedVariables false
open Go.RowKit
set_option linter.unusedVariables false
set_option maxRecDepth 100000

theorem rateError_any (u : Value) (s : Int × Int) (h1 : I64 s.1) (h2 : I64 s.2) (w : World) :
    Calls Try.prog 51 #[u, .agg #[.int .i64 s.1, .int .i64 s.2]] w fun e w' => e = .returned (.int .i64 (spanErrM 1 20 s.1 s.2)) ∧ Ext w w' := by
  go_enter Try.func51, Try.ntmps51
  go_wp2_with fail
  refine (checkSpan_any 1 20 s.1 s.2 h1 h2 _).mono ?_
  rintro e w1 ⟨rfl, hx⟩
  go_wp2
  go_ret
  exact ⟨rfl, hx.of_alloc⟩
def agentErrM (before : List Agt) (a : Agt) : Int := if nameErrM (before.map (·.name)) a.name ≠ 0 then nameErrM (before.map (·.name)) a.name else if inM a.fee 0 20 = false ∨ inM a.round 0 2 = false then 7 else 0
set_option maxHeartbeats 1000000 in
theorem agentError_any (v u : Value) (l : List Agt) (a : Agt) (w : World) (hl : AgentsAt w v l) (hu : AgentV u a) :
    Calls Try.prog 53 #[v, u] w fun e w' => e = .returned (.int .i64 (agentErrM l a)) ∧ Ext w w' := by
  have hu0 := hu
  obtain ⟨rfl, hns, hfe, hro⟩ := hu
  have hnm := fun (w : World) (h1 : AgentsAt w v l) => namesAgt_any v _ l a w h1 hu0
  unfold nameOfAgt at hnm
  have hdef : agentErrM l a = if nameErrM (l.map (·.name)) a.name ≠ 0 then nameErrM (l.map (·.name)) a.name else if inM a.fee 0 20 = false ∨ inM a.round 0 2 = false then 7 else 0 := rfl
  go_enter Try.func53, Try.ntmps53
  go_wp2_with fail
  refine (hnm _ (hl.ext (by first | (with_reducible exact Ext.refl _) | (with_reducible assumption) | (show Below _ _ _; go_grown; done)))).mono ?_
  rintro e w1 ⟨rfl, hx1⟩
  have x1 : Ext w w1 := Ext.trans (by first | (with_reducible exact Ext.refl _) | (with_reducible assumption) | (show Below _ _ _; go_grown; done)) hx1
  have p1 : w1.cell? ⟨w.heap.size, 1, none⟩ = some (.int .i64 a.fee) := hx1.cell (by simp [go_sem])
  have p2 : w1.cell? ⟨w.heap.size, 2, none⟩ = some (.int .i64 a.round) := hx1.cell (by simp [go_sem])
  have z0 : w.heap.size < w1.heap.size := cell_lt p1
  clear hx1 hnm
  generalize nameErrM (l.map (·.name)) a.name = ne at *
  by_cases h0 : ne = 0
  · subst h0
    rw [if_neg (fun h => h rfl)] at hdef
    cases h1 : inM a.fee 0 20
    · have e7 : agentErrM l a = 7 := by rw [hdef, if_pos (.inl h1)]
      have E7 := Lib.hid e7
      clear hdef e7
      go_wp2_with fail
      refine (within_any _ _ _ [a.fee] _ (IntsAt.oneAt (by simp) hfe)).mono ?_
      rintro e w2 ⟨rfl, rfl⟩
      rw [withinM_one, h1]
      go_wp2
      go_ret
      exact ⟨ret_int E7.out.symm, x1.alloc _⟩
    · cases h2 : inM a.round 0 2
      · have e7 : agentErrM l a = 7 := by rw [hdef, if_pos (.inr h2)]
        have E7 := Lib.hid e7
        clear hdef e7
        go_wp2_with fail
        refine (within_any _ _ _ [a.fee] _ (IntsAt.oneAt (by simp) hfe)).mono ?_
        rintro e w2 ⟨rfl, rfl⟩
        rw [withinM_one, h1]
        go_wp2_with fail
        refine (within_any _ _ _ [a.round] _ (IntsAt.oneAt (by simp) hro)).mono ?_
        rintro e w2 ⟨rfl, rfl⟩
        rw [withinM_one, h2]
        go_wp2
        go_ret
        exact ⟨ret_int E7.out.symm, (x1.alloc _).alloc _⟩
      · have e7 : agentErrM l a = 0 := by rw [hdef, if_neg (by rw [h1, h2]; simp)]
        have E7 := Lib.hid e7
        clear hdef e7
        go_wp2_with fail
        refine (within_any _ _ _ [a.fee] _ (IntsAt.oneAt (by simp) hfe)).mono ?_
        rintro e w2 ⟨rfl, rfl⟩
        rw [withinM_one, h1]
        go_wp2_with fail
        refine (within_any _ _ _ [a.round] _ (IntsAt.oneAt (by simp) hro)).mono ?_
        rintro e w2 ⟨rfl, rfl⟩
        rw [withinM_one, h2]
        go_wp2
        go_ret
        exact ⟨ret_int E7.out.symm, (x1.alloc _).alloc _⟩
  · have h1 : (ne != 0) = true := by simpa using h0
    rw [if_pos h0] at hdef
    have Hd := Lib.hid hdef
    clear hdef h0
    go_wp2
    go_ret
    exact ⟨ret_int Hd.out.symm, x1⟩
/-- the error of an entry, of so many agents and days -/
def entErrM (na days : Int) (e : Ent) : Int := if inM e.agent 0 (na - 1) = false ∨ inM e.day 0 (days - 1) = false then 4 else if inM e.near 0 99 = false ∨ inM e.far (-1) 198 = false then 7 else 0
set_option maxHeartbeats 2000000 in
theorem entryError_any (u v : Value) (days step : Int) (ra aa ea : Option Addr) (rn rc an ac en ec : Nat) (m : Value) (x : Ent) (w : World) (hd : 1 ≤ days ∧ days ≤ 3) (ha : an ≤ 3) (hx : EntV v x) :
    Calls Try.prog 55 #[.agg #[.int .i64 days, .slice ra rn rc, .int .i64 step, .slice aa an ac, .slice ea en ec, m], u, v] w fun e w' => e = .returned (.int .i64 (entErrM an days x)) ∧ Ext w w' := by
  obtain ⟨rfl, g1, g2, g3, g4⟩ := hx
  have wa : IntKind.i64.wrap ((an : Int) - 1) = (an : Int) - 1 := IntWalk.i64_in _ (by omega)
  have wd : IntKind.i64.wrap (days - 1) = days - 1 := IntWalk.i64_in _ (by omega)
  unfold entV entErrM
  have HA := Lib.hid ha
  have HD := Lib.hid hd
  clear ha hd
  cases h1 : inM x.agent 0 ((an : Int) - 1)
  · rw [if_pos (.inl rfl)]
    go_enter Try.func55, Try.ntmps55
    go_wp2_with fail
    (refine (within_any _ _ _ [x.agent] _ (IntsAt.oneAt (by simp) g1)).mono ?_; rintro e w2 ⟨rfl, rfl⟩; rw [withinM_one])
    rw [h1]
    go_wp2
    go_ret
    exact ⟨rfl, (by first | (with_reducible exact Ext.refl _) | (with_reducible assumption) | (show Below _ _ _; go_grown; done))⟩
  cases h2 : inM x.day 0 (days - 1)
  · rw [if_pos (.inr rfl)]
    go_enter Try.func55, Try.ntmps55
    go_wp2_with fail
    (refine (within_any _ _ _ [x.agent] _ (IntsAt.oneAt (by simp) g1)).mono ?_; rintro e w2 ⟨rfl, rfl⟩; rw [withinM_one])
    rw [h1]
    go_wp2_with fail
    (refine (within_any _ _ _ [x.day] _ (IntsAt.oneAt (by simp) g2)).mono ?_; rintro e w2 ⟨rfl, rfl⟩; rw [withinM_one])
    rw [h2]
    go_wp2
    go_ret
    exact ⟨rfl, (by first | (with_reducible exact Ext.refl _) | (with_reducible assumption) | (show Below _ _ _; go_grown; done))⟩
  rw [if_neg (by simp)]
  cases h3 : inM x.near 0 99
  · rw [if_pos (.inl rfl)]
    go_enter Try.func55, Try.ntmps55
    go_wp2_with fail
    (refine (within_any _ _ _ [x.agent] _ (IntsAt.oneAt (by simp) g1)).mono ?_; rintro e w2 ⟨rfl, rfl⟩; rw [withinM_one])
    rw [h1]
    go_wp2_with fail
    (refine (within_any _ _ _ [x.day] _ (IntsAt.oneAt (by simp) g2)).mono ?_; rintro e w2 ⟨rfl, rfl⟩; rw [withinM_one])
    rw [h2]
    go_wp2_with fail
    (refine (within_any _ _ _ [x.near] _ (IntsAt.oneAt (by simp) g3)).mono ?_; rintro e w2 ⟨rfl, rfl⟩; rw [withinM_one])
    rw [h3]
    go_wp2
    go_ret
    exact ⟨rfl, (by first | (with_reducible exact Ext.refl _) | (with_reducible assumption) | (show Below _ _ _; go_grown; done))⟩
  cases h4 : inM x.far (-1) 198
  · rw [if_pos (.inr rfl)]
    go_enter Try.func55, Try.ntmps55
    go_wp2_with fail
    (refine (within_any _ _ _ [x.agent] _ (IntsAt.oneAt (by simp) g1)).mono ?_; rintro e w2 ⟨rfl, rfl⟩; rw [withinM_one])
    rw [h1]
    go_wp2_with fail
    (refine (within_any _ _ _ [x.day] _ (IntsAt.oneAt (by simp) g2)).mono ?_; rintro e w2 ⟨rfl, rfl⟩; rw [withinM_one])
    rw [h2]
    go_wp2_with fail
    (refine (within_any _ _ _ [x.near] _ (IntsAt.oneAt (by simp) g3)).mono ?_; rintro e w2 ⟨rfl, rfl⟩; rw [withinM_one])
    rw [h3]
    go_wp2_with fail
    (refine (within_any _ _ _ [x.far] _ (IntsAt.oneAt (by simp) g4)).mono ?_; rintro e w2 ⟨rfl, rfl⟩; rw [withinM_one])
    rw [h4]
    go_wp2
    go_ret
    exact ⟨rfl, (by first | (with_reducible exact Ext.refl _) | (with_reducible assumption) | (show Below _ _ _; go_grown; done))⟩
  · rw [if_neg (by simp)]
    go_enter Try.func55, Try.ntmps55
    go_wp2_with fail
    (refine (within_any _ _ _ [x.agent] _ (IntsAt.oneAt (by simp) g1)).mono ?_; rintro e w2 ⟨rfl, rfl⟩; rw [withinM_one])
    rw [h1]
    go_wp2_with fail
    (refine (within_any _ _ _ [x.day] _ (IntsAt.oneAt (by simp) g2)).mono ?_; rintro e w2 ⟨rfl, rfl⟩; rw [withinM_one])
    rw [h2]
    go_wp2_with fail
    (refine (within_any _ _ _ [x.near] _ (IntsAt.oneAt (by simp) g3)).mono ?_; rintro e w2 ⟨rfl, rfl⟩; rw [withinM_one])
    rw [h3]
    go_wp2_with fail
    (refine (within_any _ _ _ [x.far] _ (IntsAt.oneAt (by simp) g4)).mono ?_; rintro e w2 ⟨rfl, rfl⟩; rw [withinM_one])
    rw [h4]
    go_wp2
    go_ret
    exact ⟨rfl, (by first | (with_reducible exact Ext.refl _) | (with_reducible assumption) | (show Below _ _ _; go_grown; done))⟩
/-- an argument: a number, the greatest one that it can be, and its error if it is not from 0 to this one -/
structure ArgR where
  n : Int
  most : Int
  e : Int
def argV (a : ArgR) : Value := .agg #[.int .i64 a.n, .int .i64 a.most, .int .i64 a.e]
def argErrM (a : ArgR) : Int := if inM a.n 0 a.most = false then a.e else 0
theorem argumentError_any (u : Value) (a : ArgR) (h1 : I64 a.n) (w : World) :
    Calls Try.prog 99 #[u, argV a] w fun e w' => e = .returned (.int .i64 (argErrM a)) ∧ Ext w w' := by
  unfold argErrM argV
  cases h : inM a.n 0 a.most
  · rw [if_pos rfl]
    go_enter Try.func99, Try.ntmps99
    go_wp2_with fail
    (refine (within_any _ _ _ [a.n] _ (IntsAt.oneAt (by simp) h1)).mono ?_; rintro e w2 ⟨rfl, rfl⟩; rw [withinM_one])
    rw [h]
    go_wp2
    go_ret
    exact ⟨rfl, (by first | (with_reducible exact Ext.refl _) | (with_reducible assumption) | (show Below _ _ _; go_grown; done))⟩
  · rw [if_neg (by simp)]
    go_enter Try.func99, Try.ntmps99
    go_wp2_with fail
    (refine (within_any _ _ _ [a.n] _ (IntsAt.oneAt (by simp) h1)).mono ?_; rintro e w2 ⟨rfl, rfl⟩; rw [withinM_one])
    rw [h]
    go_wp2
    go_ret
    exact ⟨rfl, (by first | (with_reducible exact Ext.refl _) | (with_reducible assumption) | (show Below _ _ _; go_grown; done))⟩
end Go.Proofs.Ytdadffmagfknoaa

namespace Go.Proofs.Ytdadffmagfknoaa
set_option linter.unusedSimpArgs false
set_option linter.unusedVariables false
open Go.RowKit

def alphabetErrM (S : Int) (before : List Alphabet) (x : Alphabet) : Int :=
  if nameM x.name = false then 6 else if (before.any fun y => y.name.toList == x.name.toList) = true then 5 else if inM x.letters.length 1 6 = false then 3 else (firstErr (letterErrM S) x.letters).2

end Go.Proofs.Ytdadffmagfknoaa

namespace Go.Proofs.Ytdadffmagfknoaa
set_option linter.unusedSimpArgs false
set_option linter.unusedVariables false
open Go.RowKit

def lettersOf (al : List Alphabet) (i : Int) : List Letter := match al[i.toNat]? with | some a => a.letters | none => []
def knownB (ls : List Letter) (s : ByteArray) (k : Nat) : Bool := ls.any fun y => y.c == byteAt s k
def textOk (ls : List Letter) (s : ByteArray) : Bool := (List.range s.size).all fun k => knownB ls s k
def spellingErrM (al : List Alphabet) (x : Spelling) : Int :=
  if inM x.alphabet 0 (al.length - 1) = false then 4 else if inM x.text.size 1 5 = false then 3 else if textOk (lettersOf al x.alphabet) x.text = false then 6 else 0
theorem textOk_no (ls : List Letter) (s : ByteArray) (k : Nat) (hk : k < s.size) (h : knownB ls s k = false) : textOk ls s = false := by
  unfold textOk
  rw [List.all_eq_false]
  exact ⟨k, List.mem_range.2 hk, by simp [h]⟩
theorem textOk_yes (ls : List Letter) (s : ByteArray) (h2 : ∀ j, j < s.size → knownB ls s j = true) : textOk ls s = true := by
  unfold textOk
  rw [List.all_eq_true]
  exact fun k hk => h2 k (List.mem_range.1 hk)
theorem idxM_lt {α : Type} (p : α → Bool) (l : List α) : decide (idxM p l < 0) = !l.any p := by
  rw [← idxM_ge, ← decide_not]; congr 1; rw [Int.not_le]
def SpellingV (v : Value) (x : Spelling) : Prop := v = .agg #[.int .i64 x.alphabet, .string x.text] ∧ I64 x.alphabet ∧ x.text.size ≤ 9223372036854775807

end Go.Proofs.Ytdadffmagfknoaa

namespace Go.Proofs.Ytdadffmagfknoaa
set_option linter.unusedSimpArgs false
set_option linter.unusedVariables false
open Go.RowKit

end Go.Proofs.Ytdadffmagfknoaa

namespace Go.Proofs.Ytdadffmagfknoaa
set_option linter.unusedSimpArgs false
set_option linter.unusedVariables false
open Go.RowKit

/-- what List of things has, if at most so many may be -/
def listErr {α : Type} (most : Int) (l : List α) (f : Int × Int) : Int × Int := if most < l.length then (0, 3) else f
def alphErr (b : Book) : Int × Int := firstErr (alphabetErrM b.sounds) b.alphabets
def spelErr (b : Book) : Int × Int := firstErr (fun _ y => spellingErrM b.alphabets y) b.spellings
def checkM (b : Book) : Int × Int × Int :=
  if inM b.sounds 1 4 = false then (1, 0, 7) else if inM b.alphabets.length 1 3 = false then (2, 0, 3) else if (alphErr b).2 ≠ 0 then (2, (alphErr b).1, (alphErr b).2)
  else if (5 : Int) < b.spellings.length then (3, 0, 3) else if (spelErr b).2 ≠ 0 then (3, (spelErr b).1, (spelErr b).2) else (0, 0, 0)
theorem ret_three {a b c : Int} {t : Int × Int × Int} (h : (a, b, c) = t) : Ending.returned (.tuple #[.int .i64 a, .int .i64 b, .int .i64 c]) = .returned (.tuple #[.int .i64 t.1, .int .i64 t.2.1, .int .i64 t.2.2]) := by subst h; rfl

def errM (b : Book) : Int := (checkM b).2.2
/-- the error of a book, then that of indices -/
def openM (b : Book) (l : List Int) : Int := if errM b ≠ 0 then errM b else if withinM 0 (b.spellings.length - 1) l = false then 4 else 0
def emptyBook : Value := .agg #[.int .i64 0, .slice none 0 0, .slice none 0 0]
/-- a book, if there is no error -/
def OpenV (w : World) (b : Book) (e : Int) (v : Value) : Prop := ∃ u, v = .tuple #[u, .int .i64 e] ∧ (e = 0 → BookAt w u b) ∧ (e ≠ 0 → u = emptyBook)

end Go.Proofs.Ytdadffmagfknoaa

namespace Go.Proofs.Ytdadffmagfknoaa
set_option linter.unusedSimpArgs false
set_option linter.unusedVariables false
open Go.RowKit
set_option linter.unusedVariables false
set_option maxRecDepth 100000

def spanE : List (Int × Int) → Int × Int → Int := fun _ s => spanErrM 1 20 s.1 s.2
def argR (w : World) (b o : Nat) (a : ArgR) : Prop := w.cell? ⟨b, o, none⟩ = some (.int .i64 a.n) ∧ w.cell? ⟨b, o + 1, none⟩ = some (.int .i64 a.most) ∧ w.cell? ⟨b, o + 2, none⟩ = some (.int .i64 a.e) ∧ I64 a.n
theorem argR.keeps : Keeps argR := fun _ _ _ _ _ hx h => ⟨hx.cell h.1, hx.cell h.2.1, hx.cell h.2.2.1, h.2.2.2⟩
abbrev ArgsAt : World → Value → List ArgR → Prop := SliceAt 3 argR
theorem ArgsAt.ext {w w' : World} {v : Value} {l : List ArgR} (h : ArgsAt w v l) (hx : Ext w w') : ArgsAt w' v l := SliceAt.ext argR.keeps h hx
def argE : List ArgR → ArgR → Int := fun _ a => argErrM a
def rentE (na days : Int) : List Ent → Ent → Int := fun _ e => entErrM na days e
set_option maxHeartbeats 1000000 in
theorem firstSpan_any (v : Value) (l : List (Int × Int)) (w : World) (hl : SpansAt w v l) :
    Calls Try.prog 50 #[v, .func (.func 51) #[] #[]] w
      fun e w' => e = .returned (.tuple #[.int .i64 (firstErr spanE l).1, .int .i64 (firstErr spanE l).2]) ∧ Ext w w' := by
  obtain ⟨a, cap, rfl, hlc, hcm⟩ := hl.shape
  go_enter Try.func50, Try.ntmps50
  go_wp2
  go_loopw [11] (fun i wr => ∃ k : Nat, k ≤ l.length ∧ i = .int .i64 k ∧ firstErrFrom spanE (l.take k) (l.drop k) = firstErr spanE l ∧ Ext w wr) (fun i _ => l.length - (intOf i).toNat)
  case atStart => exact ⟨0, Nat.zero_le _, rfl, rfl, Ext.refl _⟩
  case round =>
    obtain ⟨k, hk, rfl, hd, hx⟩ := hrel
    have Hd := Lib.hid hd; clear hd
    by_cases hlt : k < l.length
    · have hls := hl.ext hx
      have hkc : k ≤ cap := by omega
      obtain ⟨bb, off, rfl, h1, h2, i1, i2⟩ := hls.get hlt
      generalize hy : l[k] = y at *
      have Hy := Lib.hid hy; clear hy
      go_wp2_with fail
      have c0 : (wr.alloc (.cells #[.int .i64 y.1, .int .i64 y.2] 35)).cell? ⟨wr.heap.size, 0, none⟩ = some (.int .i64 y.1) := by simp [go_sem]
      have c1 : (wr.alloc (.cells #[.int .i64 y.1, .int .i64 y.2] 35)).cell? ⟨wr.heap.size, 1, none⟩ = some (.int .i64 y.2) := by simp [go_sem]
      have hlw := hls.ext (ext_alloc wr (.cells #[.int .i64 y.1, .int .i64 y.2] 35))
      apply Facts.wp_region [.val _, .val _, .val _, .val _, .val _, .val (.int .i64 (spanE (l.take k) y)), .val _] (by kernel_rfl) (by kernel_rfl) trivial ?main
      case main =>
        iterate 5 (refine ⟨fun w1 hx hh => ?_, ?_⟩; focus (clear hh; have e0 := hx.cell c0; have e1 := hx.cell c1; go_simp; exact ⟨Ext.refl _, rfl⟩))
        refine ⟨fun w1 hx hh => ?_, ?_⟩
        · clear hh
          go_simp
          refine (rateError_any _ y i1 i2 w1).mono ?_
          rintro e w' ⟨rfl, hx2⟩
          exact ⟨_, rfl, hx2, rfl⟩
        iterate 1 (refine ⟨fun w1 hx hh => ?_, ?_⟩; focus (clear hh; skip; go_simp; exact ⟨Ext.refl _, rfl⟩))
        intro w1 hx1 hh
        have hx3 := hx.trans hx1.of_alloc
        clear hh hx1 c0 c1 hlw
        obtain ⟨er, her⟩ : ∃ er, spanE (l.take k) y = er := ⟨_, rfl⟩
        simp only [her]
        have Her := Lib.hid her
        clear her
        by_cases h0 : er = 0
        · have H0 := Lib.hid h0
          rw [h0]; clear h0
          go_wp2
          go_roundw
          case rel => exact ⟨k + 1, by omega, by go_num, (firstErrFrom_step spanE l k hlt y Hy.out (Her.out.trans H0.out)).trans Hd.out, hx3⟩
          case measure => simp [intOf]; omega
        · have H0 := Lib.hid h0
          have h1 : (er != 0) = true := by simpa using h0
          clear h0
          go_wp2
          go_ret2
          have := Hd.out
          rw [firstErrFrom_hit spanE l k hlt y Hy.out (by rw [Her.out]; exact H0.out), Her.out] at this
          exact ⟨ret_two (by rw [← this]), hx3⟩
    · go_wp2
      go_ret2
      have := Hd.out
      rw [firstErrFrom_end _ _ _ (by omega)] at this
      exact ⟨ret_two (by rw [← this]), hx⟩
set_option maxHeartbeats 1000000 in
theorem firstAgt_any (v : Value) (l : List Agt) (w : World) (hl : AgentsAt w v l) :
    Calls Try.prog 92 #[v, .func (.func 53) #[] #[]] w
      fun e w' => e = .returned (.tuple #[.int .i64 (firstErr agentErrM l).1, .int .i64 (firstErr agentErrM l).2]) ∧ Ext w w' := by
  obtain ⟨a, cap, rfl, hlc, hcm⟩ := hl.shape
  go_enter Try.func92, Try.ntmps92
  go_wp2
  go_loopw [11] (fun i wr => ∃ k : Nat, k ≤ l.length ∧ i = .int .i64 k ∧ firstErrFrom agentErrM (l.take k) (l.drop k) = firstErr agentErrM l ∧ Ext w wr) (fun i _ => l.length - (intOf i).toNat)
  case atStart => exact ⟨0, Nat.zero_le _, rfl, rfl, Ext.refl _⟩
  case round =>
    obtain ⟨k, hk, rfl, hd, hx⟩ := hrel
    have Hd := Lib.hid hd; clear hd
    by_cases hlt : k < l.length
    · have hls := hl.ext hx
      have hkc : k ≤ cap := by omega
      obtain ⟨bb, off, rfl, h1, h2, h3, i1, i2, i3⟩ := hls.get hlt
      generalize hy : l[k] = y at *
      have Hy := Lib.hid hy; clear hy
      go_wp2_with fail
      have c0 : (wr.alloc (.cells #[.string y.name, .int .i64 y.fee, .int .i64 y.round] 72)).cell? ⟨wr.heap.size, 0, none⟩ = some (.string y.name) := by simp [go_sem]
      have c1 : (wr.alloc (.cells #[.string y.name, .int .i64 y.fee, .int .i64 y.round] 72)).cell? ⟨wr.heap.size, 1, none⟩ = some (.int .i64 y.fee) := by simp [go_sem]
      have c2 : (wr.alloc (.cells #[.string y.name, .int .i64 y.fee, .int .i64 y.round] 72)).cell? ⟨wr.heap.size, 2, none⟩ = some (.int .i64 y.round) := by simp [go_sem]
      have hlw := hls.ext (ext_alloc wr (.cells #[.string y.name, .int .i64 y.fee, .int .i64 y.round] 72))
      apply Facts.wp_region [.val _, .val _, .val _, .val _, .val _, .val (.int .i64 (agentErrM (l.take k) y)), .val _] (by kernel_rfl) (by kernel_rfl) trivial ?main
      case main =>
        iterate 5 (refine ⟨fun w1 hx hh => ?_, ?_⟩; focus (clear hh; have e0 := hx.cell c0; have e1 := hx.cell c1; have e2 := hx.cell c2; go_simp; exact ⟨Ext.refl _, rfl⟩))
        refine ⟨fun w1 hx hh => ?_, ?_⟩
        · clear hh
          go_simp
          refine (agentError_any _ _ (l.take k) y w1 ((hlw.ext hx).take k (by omega)) ⟨rfl, i1, i2, i3⟩).mono ?_
          rintro e w' ⟨rfl, hx2⟩
          exact ⟨_, rfl, hx2, rfl⟩
        iterate 1 (refine ⟨fun w1 hx hh => ?_, ?_⟩; focus (clear hh; skip; go_simp; exact ⟨Ext.refl _, rfl⟩))
        intro w1 hx1 hh
        have hx3 := hx.trans hx1.of_alloc
        clear hh hx1 c0 c1 c2 hlw
        obtain ⟨er, her⟩ : ∃ er, agentErrM (l.take k) y = er := ⟨_, rfl⟩
        simp only [her]
        have Her := Lib.hid her
        clear her
        by_cases h0 : er = 0
        · have H0 := Lib.hid h0
          rw [h0]; clear h0
          go_wp2
          go_roundw
          case rel => exact ⟨k + 1, by omega, by go_num, (firstErrFrom_step agentErrM l k hlt y Hy.out (Her.out.trans H0.out)).trans Hd.out, hx3⟩
          case measure => simp [intOf]; omega
        · have H0 := Lib.hid h0
          have h1 : (er != 0) = true := by simpa using h0
          clear h0
          go_wp2
          go_ret2
          have := Hd.out
          rw [firstErrFrom_hit agentErrM l k hlt y Hy.out (by rw [Her.out]; exact H0.out), Her.out] at this
          exact ⟨ret_two (by rw [← this]), hx3⟩
    · go_wp2
      go_ret2
      have := Hd.out
      rw [firstErrFrom_end _ _ _ (by omega)] at this
      exact ⟨ret_two (by rw [← this]), hx⟩
set_option maxHeartbeats 1000000 in
theorem firstEnt_any (days step : Int) (ra aa ea : Option Addr) (rn rc an ac en ec : Nat) (m : Value) (hd : 1 ≤ days ∧ days ≤ 3) (ha : an ≤ 3) (v : Value) (l : List Ent) (w : World) (hl : EntriesAt w v l) :
    Calls Try.prog 95 #[v, .func (.func 55) #[.agg #[.int .i64 days, .slice ra rn rc, .int .i64 step, .slice aa an ac, .slice ea en ec, m]] #[]] w
      fun e w' => e = .returned (.tuple #[.int .i64 (firstErr (rentE an days) l).1, .int .i64 (firstErr (rentE an days) l).2]) ∧ Ext w w' := by
  obtain ⟨a, cap, rfl, hlc, hcm⟩ := hl.shape
  go_enter Try.func95, Try.ntmps95
  go_wp2
  go_loopw [11] (fun i wr => ∃ k : Nat, k ≤ l.length ∧ i = .int .i64 k ∧ firstErrFrom (rentE an days) (l.take k) (l.drop k) = firstErr (rentE an days) l ∧ Ext w wr) (fun i _ => l.length - (intOf i).toNat)
  case atStart => exact ⟨0, Nat.zero_le _, rfl, rfl, Ext.refl _⟩
  case round =>
    obtain ⟨k, hk, rfl, hd, hx⟩ := hrel
    have Hd := Lib.hid hd; clear hd
    by_cases hlt : k < l.length
    · have hls := hl.ext hx
      have hkc : k ≤ cap := by omega
      obtain ⟨bb, off, rfl, h1, h2, h3, h4, i1, i2, i3, i4⟩ := hls.get hlt
      generalize hy : l[k] = y at *
      have Hy := Lib.hid hy; clear hy
      go_wp2_with fail
      have c0 : (wr.alloc (.cells #[.int .i64 y.agent, .int .i64 y.day, .int .i64 y.near, .int .i64 y.far] 58)).cell? ⟨wr.heap.size, 0, none⟩ = some (.int .i64 y.agent) := by simp [go_sem]
      have c1 : (wr.alloc (.cells #[.int .i64 y.agent, .int .i64 y.day, .int .i64 y.near, .int .i64 y.far] 58)).cell? ⟨wr.heap.size, 1, none⟩ = some (.int .i64 y.day) := by simp [go_sem]
      have c2 : (wr.alloc (.cells #[.int .i64 y.agent, .int .i64 y.day, .int .i64 y.near, .int .i64 y.far] 58)).cell? ⟨wr.heap.size, 2, none⟩ = some (.int .i64 y.near) := by simp [go_sem]
      have c3 : (wr.alloc (.cells #[.int .i64 y.agent, .int .i64 y.day, .int .i64 y.near, .int .i64 y.far] 58)).cell? ⟨wr.heap.size, 3, none⟩ = some (.int .i64 y.far) := by simp [go_sem]
      have hlw := hls.ext (ext_alloc wr (.cells #[.int .i64 y.agent, .int .i64 y.day, .int .i64 y.near, .int .i64 y.far] 58))
      apply Facts.wp_region [.val _, .val _, .val _, .val _, .val _, .val (.int .i64 ((rentE an days) (l.take k) y)), .val _] (by kernel_rfl) (by kernel_rfl) trivial ?main
      case main =>
        iterate 5 (refine ⟨fun w1 hx hh => ?_, ?_⟩; focus (clear hh; have e0 := hx.cell c0; have e1 := hx.cell c1; have e2 := hx.cell c2; have e3 := hx.cell c3; go_simp; exact ⟨Ext.refl _, rfl⟩))
        refine ⟨fun w1 hx hh => ?_, ?_⟩
        · clear hh
          go_simp
          refine (entryError_any _ _ days step ra aa ea rn rc an ac en ec m y w1 hd ha ⟨rfl, i1, i2, i3, i4⟩).mono ?_
          rintro e w' ⟨rfl, hx2⟩
          exact ⟨_, rfl, hx2, rfl⟩
        iterate 1 (refine ⟨fun w1 hx hh => ?_, ?_⟩; focus (clear hh; skip; go_simp; exact ⟨Ext.refl _, rfl⟩))
        intro w1 hx1 hh
        have hx3 := hx.trans hx1.of_alloc
        clear hh hx1 c0 c1 c2 c3 hlw
        obtain ⟨er, her⟩ : ∃ er, (rentE an days) (l.take k) y = er := ⟨_, rfl⟩
        simp only [her]
        have Her := Lib.hid her
        clear her
        by_cases h0 : er = 0
        · have H0 := Lib.hid h0
          rw [h0]; clear h0
          go_wp2
          go_roundw
          case rel => exact ⟨k + 1, by omega, by go_num, (firstErrFrom_step (rentE an days) l k hlt y Hy.out (Her.out.trans H0.out)).trans Hd.out, hx3⟩
          case measure => simp [intOf]; omega
        · have H0 := Lib.hid h0
          have h1 : (er != 0) = true := by simpa using h0
          clear h0
          go_wp2
          go_ret2
          have := Hd.out
          rw [firstErrFrom_hit (rentE an days) l k hlt y Hy.out (by rw [Her.out]; exact H0.out), Her.out] at this
          exact ⟨ret_two (by rw [← this]), hx3⟩
    · go_wp2
      go_ret2
      have := Hd.out
      rw [firstErrFrom_end _ _ _ (by omega)] at this
      exact ⟨ret_two (by rw [← this]), hx⟩
set_option maxHeartbeats 1000000 in
theorem firstArg_any (v : Value) (l : List ArgR) (w : World) (hl : ArgsAt w v l) :
    Calls Try.prog 98 #[v, .func (.func 99) #[] #[]] w
      fun e w' => e = .returned (.tuple #[.int .i64 (firstErr argE l).1, .int .i64 (firstErr argE l).2]) ∧ Ext w w' := by
  obtain ⟨a, cap, rfl, hlc, hcm⟩ := hl.shape
  go_enter Try.func98, Try.ntmps98
  go_wp2
  go_loopw [11] (fun i wr => ∃ k : Nat, k ≤ l.length ∧ i = .int .i64 k ∧ firstErrFrom argE (l.take k) (l.drop k) = firstErr argE l ∧ Ext w wr) (fun i _ => l.length - (intOf i).toNat)
  case atStart => exact ⟨0, Nat.zero_le _, rfl, rfl, Ext.refl _⟩
  case round =>
    obtain ⟨k, hk, rfl, hd, hx⟩ := hrel
    have Hd := Lib.hid hd; clear hd
    by_cases hlt : k < l.length
    · have hls := hl.ext hx
      have hkc : k ≤ cap := by omega
      obtain ⟨bb, off, rfl, h1, h2, h3, i1⟩ := hls.get hlt
      generalize hy : l[k] = y at *
      have Hy := Lib.hid hy; clear hy
      go_wp2_with fail
      have c0 : (wr.alloc (.cells #[.int .i64 y.n, .int .i64 y.most, .int .i64 y.e] 103)).cell? ⟨wr.heap.size, 0, none⟩ = some (.int .i64 y.n) := by simp [go_sem]
      have c1 : (wr.alloc (.cells #[.int .i64 y.n, .int .i64 y.most, .int .i64 y.e] 103)).cell? ⟨wr.heap.size, 1, none⟩ = some (.int .i64 y.most) := by simp [go_sem]
      have c2 : (wr.alloc (.cells #[.int .i64 y.n, .int .i64 y.most, .int .i64 y.e] 103)).cell? ⟨wr.heap.size, 2, none⟩ = some (.int .i64 y.e) := by simp [go_sem]
      have hlw := hls.ext (ext_alloc wr (.cells #[.int .i64 y.n, .int .i64 y.most, .int .i64 y.e] 103))
      apply Facts.wp_region [.val _, .val _, .val _, .val _, .val _, .val (.int .i64 (argE (l.take k) y)), .val _] (by kernel_rfl) (by kernel_rfl) trivial ?main
      case main =>
        iterate 5 (refine ⟨fun w1 hx hh => ?_, ?_⟩; focus (clear hh; have e0 := hx.cell c0; have e1 := hx.cell c1; have e2 := hx.cell c2; go_simp; exact ⟨Ext.refl _, rfl⟩))
        refine ⟨fun w1 hx hh => ?_, ?_⟩
        · clear hh
          go_simp
          refine (argumentError_any _ y i1 w1).mono ?_
          rintro e w' ⟨rfl, hx2⟩
          exact ⟨_, rfl, hx2, rfl⟩
        iterate 1 (refine ⟨fun w1 hx hh => ?_, ?_⟩; focus (clear hh; skip; go_simp; exact ⟨Ext.refl _, rfl⟩))
        intro w1 hx1 hh
        have hx3 := hx.trans hx1.of_alloc
        clear hh hx1 c0 c1 c2 hlw
        obtain ⟨er, her⟩ : ∃ er, argE (l.take k) y = er := ⟨_, rfl⟩
        simp only [her]
        have Her := Lib.hid her
        clear her
        by_cases h0 : er = 0
        · have H0 := Lib.hid h0
          rw [h0]; clear h0
          go_wp2
          go_roundw
          case rel => exact ⟨k + 1, by omega, by go_num, (firstErrFrom_step argE l k hlt y Hy.out (Her.out.trans H0.out)).trans Hd.out, hx3⟩
          case measure => simp [intOf]; omega
        · have H0 := Lib.hid h0
          have h1 : (er != 0) = true := by simpa using h0
          clear h0
          go_wp2
          go_ret2
          have := Hd.out
          rw [firstErrFrom_hit argE l k hlt y Hy.out (by rw [Her.out]; exact H0.out), Her.out] at this
          exact ⟨ret_two (by rw [← this]), hx3⟩
    · go_wp2
      go_ret2
      have := Hd.out
      rw [firstErrFrom_end _ _ _ (by omega)] at this
      exact ⟨ret_two (by rw [← this]), hx⟩
set_option maxHeartbeats 1000000 in
theorem listAgt_any (v : Value) (l : List Agt) (w : World) (hl : AgentsAt w v l) :
    Calls Try.prog 52 #[.int .i64 3, v, .func (.func 53) #[] #[]] w
      fun e w' => e = .returned (.tuple #[.int .i64 (listErr 3 l (firstErr agentErrM l)).1, .int .i64 (listErr 3 l (firstErr agentErrM l)).2]) ∧ Ext w w' := by
  obtain ⟨a, cap, rfl, hlc, hcm⟩ := hl.shape
  by_cases h : (3 : Int) < l.length
  · have e : listErr 3 l (firstErr agentErrM l) = (0, 3) := if_pos h
    rw [e]
    go_enter Try.func52, Try.ntmps52
    go_wp2_with fail
    go_ret2
    exact ⟨rfl, (by first | (with_reducible exact Ext.refl _) | (with_reducible assumption) | (show Below _ _ _; go_grown; done))⟩
  · have e : listErr 3 l (firstErr agentErrM l) = firstErr agentErrM l := if_neg h
    rw [e]
    clear e
    go_enter Try.func52, Try.ntmps52
    go_wp2_with fail
    refine (firstAgt_any _ l _ (hl.ext (by first | (with_reducible exact Ext.refl _) | (with_reducible assumption) | (show Below _ _ _; go_grown; done)))).mono ?_
    rintro e w1 ⟨rfl, hx1⟩
    go_wp2
    go_ret2
    exact ⟨rfl, Ext.trans (by first | (with_reducible exact Ext.refl _) | (with_reducible assumption) | (show Below _ _ _; go_grown; done)) hx1⟩
set_option maxHeartbeats 1000000 in
theorem listEnt_any (days step : Int) (ra aa ea : Option Addr) (rn rc an ac en ec : Nat) (m : Value) (hd : 1 ≤ days ∧ days ≤ 3) (ha : an ≤ 3) (v : Value) (l : List Ent) (w : World) (hl : EntriesAt w v l) :
    Calls Try.prog 54 #[.int .i64 5, v, .func (.func 55) #[.agg #[.int .i64 days, .slice ra rn rc, .int .i64 step, .slice aa an ac, .slice ea en ec, m]] #[]] w
      fun e w' => e = .returned (.tuple #[.int .i64 (listErr 5 l (firstErr (rentE an days) l)).1, .int .i64 (listErr 5 l (firstErr (rentE an days) l)).2]) ∧ Ext w w' := by
  obtain ⟨a, cap, rfl, hlc, hcm⟩ := hl.shape
  by_cases h : (5 : Int) < l.length
  · have e : listErr 5 l (firstErr (rentE an days) l) = (0, 3) := if_pos h
    rw [e]
    go_enter Try.func54, Try.ntmps54
    go_wp2_with fail
    go_ret2
    exact ⟨rfl, (by first | (with_reducible exact Ext.refl _) | (with_reducible assumption) | (show Below _ _ _; go_grown; done))⟩
  · have e : listErr 5 l (firstErr (rentE an days) l) = firstErr (rentE an days) l := if_neg h
    rw [e]
    clear e
    go_enter Try.func54, Try.ntmps54
    go_wp2_with fail
    refine (firstEnt_any days step ra aa ea rn rc an ac en ec m hd ha _ l _ (hl.ext (by first | (with_reducible exact Ext.refl _) | (with_reducible assumption) | (show Below _ _ _; go_grown; done)))).mono ?_
    rintro e w1 ⟨rfl, hx1⟩
    go_wp2
    go_ret2
    exact ⟨rfl, Ext.trans (by first | (with_reducible exact Ext.refl _) | (with_reducible assumption) | (show Below _ _ _; go_grown; done)) hx1⟩
end Go.Proofs.Ytdadffmagfknoaa

namespace Go.Proofs.Ytdadffmagfknoaa
set_option linter.unusedSimpArgs false
set_option linter.unusedVariables false
open Go.RowKit
set_option linter.unusedVariables false
set_option maxRecDepth 100000

def agtErr (h : House) : Int × Int := listErr 3 h.agents (firstErr agentErrM h.agents)
def entErr (h : House) : Int × Int := listErr 5 h.entries (firstErr (rentE h.agents.length h.days) h.entries)
def raCheck (h : House) : Int × Int × Int :=
  if inM h.days 1 3 = false then (1, 0, 7) else if (h.rates.length : Int) ≠ h.days then (2, 0, 3) else if (firstErr spanE h.rates).2 ≠ 0 then (2, (firstErr spanE h.rates).1, (firstErr spanE h.rates).2)
  else if inM h.step 0 20 = false then (3, 0, 7) else if (agtErr h).2 ≠ 0 then (4, (agtErr h).1, (agtErr h).2) else if (entErr h).2 ≠ 0 then (5, (entErr h).1, (entErr h).2) else (0, 0, 0)
def raErr (h : House) : Int := (raCheck h).2.2
theorem ret_threeR {a b c : Int} {t : Int × Int × Int} (h : (a, b, c) = t) : Ending.returned (.tuple #[.int .i64 a, .int .i64 b, .int .i64 c]) = .returned (.tuple #[.int .i64 t.1, .int .i64 t.2.1, .int .i64 t.2.2]) := by subst h; rfl
set_option maxHeartbeats 2000000 in
theorem raCheck_any (hv : Value) (h : House) (w : World) (hh : HouseAt w hv h) :
    Calls Try.prog 16 #[hv] w fun e w' => e = .returned (.tuple #[.int .i64 (raCheck h).1, .int .i64 (raCheck h).2.1, .int .i64 (raCheck h).2.2]) ∧ Ext w w' := by
  obtain ⟨ra, rc, aa, ac, ea, ec, rfl, hdi, hsi, hr, ha, he⟩ := hh
  have hR := Lib.hid hr
  have hA := Lib.hid ha
  have hE := Lib.hid he
  have hle := hr.le
  clear hr ha he
  go_enter Try.func16, Try.ntmps16
  go_wp2_with fail
  refine (within_any _ _ _ [h.days] _ (IntsAt.oneAt (by simp) hdi)).mono ?_
  rintro e w' ⟨rfl, rfl⟩
  rw [withinM_one]
  cases h1 : inM h.days 1 3
  · have H1 := Lib.hid h1; clear h1
    go_wp2_with fail
    go_ret3
    exact ⟨ret_threeR (by rw [raCheck, if_pos H1.out]), (by first | (with_reducible exact Ext.refl _) | (with_reducible assumption) | (show Below _ _ _; go_grown; done))⟩
  have hD : 1 ≤ h.days ∧ h.days ≤ 3 := by simpa [inM] using h1
  have H1 := Lib.hid h1; clear h1
  by_cases h2 : (h.rates.length : Int) = h.days
  rotate_left
  · have k2 : ((h.rates.length : Int) != h.days) = true := by simpa using h2
    have H2 := Lib.hid h2; clear h2
    go_wp2_with fail
    go_ret3
    exact ⟨ret_threeR (by rw [raCheck, if_neg (by rw [H1.out]; decide), if_pos H2.out]), (by first | (with_reducible exact Ext.refl _) | (with_reducible assumption) | (show Below _ _ _; go_grown; done))⟩
  have k2 : ((h.rates.length : Int) != h.days) = false := by simpa using h2
  have H2 := Lib.hid h2; clear h2
  go_wp2_with fail
  refine (firstSpan_any _ h.rates _ (hR.out.ext (by first | (with_reducible exact Ext.refl _) | (with_reducible assumption) | (show Below _ _ _; go_grown; done)))).mono ?_
  rintro e w1 ⟨rfl, hx1⟩
  have x1 : Ext w w1 := Ext.trans (by first | (with_reducible exact Ext.refl _) | (with_reducible assumption) | (show Below _ _ _; go_grown; done)) hx1
  have p0 : w1.cell? ⟨w.heap.size, 0, none⟩ = some (.int .i64 h.days) := hx1.cell (by simp [go_sem])
  have p1 : w1.cell? ⟨w.heap.size, 1, none⟩ = some (.slice ra h.rates.length rc) := hx1.cell (by simp [go_sem])
  have p2 : w1.cell? ⟨w.heap.size, 2, none⟩ = some (.int .i64 h.step) := hx1.cell (by simp [go_sem])
  have p3 : w1.cell? ⟨w.heap.size, 3, none⟩ = some (.slice aa h.agents.length ac) := hx1.cell (by simp [go_sem])
  have p4 : w1.cell? ⟨w.heap.size, 4, none⟩ = some (.slice ea h.entries.length ec) := hx1.cell (by simp [go_sem])
  have z1 : w.heap.size < w1.heap.size := cell_lt p0
  clear hx1
  generalize hf : firstErr spanE h.rates = f1
  have Hf := Lib.hid hf
  clear hf
  obtain ⟨at1, e1⟩ := f1
  by_cases h3 : e1 = 0
  rotate_left
  · have h3' : (e1 != 0) = true := by simpa using h3
    have H3 := Lib.hid h3; clear h3
    go_wp2_with fail
    go_ret3
    exact ⟨ret_threeR (by rw [raCheck, if_neg (by rw [H1.out]; decide), if_neg (by rw [H2.out]; simp), Hf.out, if_pos H3.out]), x1⟩
  subst h3
  go_wp2_with fail
  refine (within_any _ _ _ [h.step] _ (IntsAt.oneAt (by simp) hsi)).mono ?_
  rintro e w' ⟨rfl, rfl⟩
  rw [withinM_one]
  cases h4 : inM h.step 0 20
  · have H4 := Lib.hid h4; clear h4
    go_wp2_with fail
    go_ret3
    exact ⟨ret_threeR (by rw [raCheck, if_neg (by rw [H1.out]; decide), if_neg (by rw [H2.out]; simp), Hf.out, if_neg (by simp), if_pos H4.out]), x1.alloc _⟩
  have H4 := Lib.hid h4; clear h4
  go_wp2_with fail
  refine (listAgt_any _ h.agents _ (hA.out.ext (x1.alloc _))).mono ?_
  rintro e w2 ⟨rfl, hx2⟩
  have x2 : Ext w w2 := (x1.alloc _).trans hx2
  have xx2 : Ext w1 w2 := (ext_alloc _ _).trans hx2
  replace p0 := xx2.cell p0
  replace p1 := xx2.cell p1
  replace p2 := xx2.cell p2
  replace p3 := xx2.cell p3
  replace p4 := xx2.cell p4
  replace z1 : w.heap.size < w2.heap.size := cell_lt p0
  clear hx2 xx2 x1
  generalize hg : listErr 3 h.agents (firstErr agentErrM h.agents) = f2
  have Hg : Hid (agtErr h = f2) := Lib.hid hg
  have ha3 : f2.2 = 0 → h.agents.length ≤ 3 := fun h0 => by
    rcases Nat.lt_or_ge 3 h.agents.length with hh | hh
    · rw [← hg, listErr, if_pos (by omega)] at h0; cases h0
    · exact hh
  clear hg
  obtain ⟨at2, e2⟩ := f2
  by_cases h5 : e2 = 0
  rotate_left
  · have h5' : (e2 != 0) = true := by simpa using h5
    have H5 := Lib.hid h5; clear h5
    go_wp2_with fail
    go_ret3
    exact ⟨ret_threeR (by rw [raCheck, if_neg (by rw [H1.out]; decide), if_neg (by rw [H2.out]; simp), Hf.out, if_neg (by simp), if_neg (by rw [H4.out]; decide), Hg.out, if_pos H5.out]), x2⟩
  subst h5
  have hA3 := ha3 rfl
  clear ha3
  go_wp2_with fail
  refine (listEnt_any h.days h.step ra aa ea h.rates.length rc h.agents.length ac h.entries.length ec _ hD hA3 _ h.entries _ (hE.out.ext (x2.alloc _))).mono ?_
  rintro e w3 ⟨rfl, hx3⟩
  have x3 : Ext w w3 := (x2.alloc _).trans hx3
  clear hx3
  generalize hk : listErr 5 h.entries (firstErr (rentE h.agents.length h.days) h.entries) = f3
  have Hk : Hid (entErr h = f3) := Lib.hid hk
  clear hk
  obtain ⟨at3, e3⟩ := f3
  by_cases h6 : e3 = 0
  · subst h6
    go_wp2_with fail
    go_ret3
    exact ⟨ret_threeR (by rw [raCheck, if_neg (by rw [H1.out]; decide), if_neg (by rw [H2.out]; simp), Hf.out, if_neg (by simp), if_neg (by rw [H4.out]; decide), Hg.out, if_neg (by simp), Hk.out, if_neg (by simp)]), x3⟩
  · have h6' : (e3 != 0) = true := by simpa using h6
    have H6 := Lib.hid h6; clear h6
    go_wp2_with fail
    go_ret3
    exact ⟨ret_threeR (by rw [raCheck, if_neg (by rw [H1.out]; decide), if_neg (by rw [H2.out]; simp), Hf.out, if_neg (by simp), if_neg (by rw [H4.out]; decide), Hg.out, if_neg (by simp), Hk.out, if_pos H6.out]), x3⟩
end Go.Proofs.Ytdadffmagfknoaa

namespace Go.Proofs.Ytdadffmagfknoaa
set_option linter.unusedSimpArgs false
set_option linter.unusedVariables false
open Go.RowKit
namespace Facts.Piv

variable {P : Program} {ops : Array Oper}

def pivotB (ops : Array Oper) (p : Nat) : Bool := (List.range ops.size).all fun j => decide (j = p) || (depsOf ops ops.size p).contains j || (depsOf ops ops.size j).contains p
theorem pivotB_spec {p : Nat} (h : pivotB ops p = true) : ∀ j, j < ops.size → j ≠ p → j ∈ depsOf ops ops.size p ∨ p ∈ depsOf ops ops.size j := by
  intro j hj hne
  simp only [pivotB, List.all_eq_true, List.mem_range, Bool.or_eq_true, decide_eq_true_eq, List.contains_iff_mem] at h
  rcases h j hj with (h | h) | h
  · exact absurd h hne
  · exact .inl h
  · exact .inr h
/-- two relations of worlds: what each operation keeps, and what the pivot keeps -/
structure Two (E C : World → World → Prop) : Prop where
  sub : ∀ a b, E a b → C a b
  te : ∀ a b c, E a b → E b c → E a c
  tc : ∀ a b c, C a b → C b c → C a c
  r : ∀ a, E a a
  d : ∀ a : World, E a a.drew

/-- an operation, and a region in whatever order, none of which asks for room -/
def opS (P : Program) (ops : Array Oper) (Q : Exit → Act → World → Prop) (i : Nat) (K : Act → World → Prop) (a : Act) (w : World) : Prop :=
  match ops[i]? with
  | none => K a w
  | some o => if Region.wanted o (yielded ops a.tmps) then o.wp P a w K Q else K (a.put o.dst undef) w
def anyS (P : Program) (ops : Array Oper) (Q : Exit → Act → World → Prop) : Nat → Array Bool → Act → World → Prop
  | 0, listed, a, w => Region.ready .any ops listed = [] ∧ Q .normal a w
  | fuel + 1, listed, a, w =>
    (Region.ready .any ops listed = [] → Q .normal a w) ∧
    ∀ i ∈ Region.ready .any ops listed, opS P ops Q i (anyS P ops Q fuel (listed.setIfInBounds i true)) a w
theorem opS_of_stepG {i : Nat} {o : Oper} {a : Act} {w : World} {S : Value → World → Prop} {Q : Exit → Act → World → Prop} {K : Act → World → Prop} (hi : ops[i]? = some o) (h : stepG P ops o a w S)
    (hK : ∀ v w', S v w' → K (a.put o.dst v) w') : opS P ops Q i K a w := by
  unfold opS
  simp only [hi]
  unfold stepG at h
  split
  · rename_i hw
    rw [if_pos hw] at h
    unfold Oper.wp
    generalize (execOp a.eval o).run P w = r at *
    cases r with
    | halt x w' => exact h.elim
    | ok n w' =>
      cases n <;> simp only [upon] at h <;> simp only [Oper.upon]
      case value v => exact hK _ _ h
      case skip => exact hK _ _ h
      case enter f args => exact h.mono fun e w'' ⟨v, he, hs⟩ => by subst he; exact hK _ _ hs
  · rename_i hw
    rw [if_neg hw] at h
    exact hK _ _ h
theorem opS_mono {i : Nat} {a : Act} {w : World} {Q : Exit → Act → World → Prop} {K K' : Act → World → Prop} (hk : ∀ a w, K a w → K' a w) (h : opS P ops Q i K a w) : opS P ops Q i K' a w := by
  unfold opS at *
  cases ho : ops[i]? with
  | none => rw [ho] at h; exact hk _ _ h
  | some o =>
    rw [ho] at h
    simp only at h ⊢
    split
    · rename_i hw; rw [if_pos hw] at h; exact Oper.wp_mono hk h
    · rename_i hw; rw [if_neg hw] at h; exact hk _ _ h
theorem any_of_anyS {Q : Exit → Act → World → Prop} : ∀ (fuel : Nat) (listed : Array Bool) (a : Act) (w : World), anyS P ops Q fuel listed a w → wpAny P .any ops Q fuel listed a w
  | 0, _, _, _, h => h
  | fuel + 1, listed, a, w, h => by
    refine ⟨h.1, fun i hi => ?_⟩
    have h1 := opS_mono (fun a w => any_of_anyS fuel _ a w) (h.2 i hi)
    unfold opS at h1
    unfold wpOp
    cases ho : ops[i]? with
    | none => rw [ho] at h1; exact h1
    | some o =>
      rw [ho] at h1
      simp only at h1 ⊢
      split
      · rename_i hw; rw [if_pos hw] at h1; exact .inl h1
      · rename_i hw; rw [if_neg hw] at h1; exact h1

theorem any_facts {E C : World → World → Prop} (T : Two E C) (p : Nat) (hp : pivotB ops p = true) {Q : Exit → Act → World → Prop} {a : Act} {w : World} (Φ : Nat → Value → World → Prop) (fix : Nat → Option Value) (hfix : ∀ i v u w, fix i = some v → Φ i u w → u = v) (hB : okB ops = true)
    (hkeep : ∀ i u w1 w2, i < ops.size → E w1 w2 → Φ i u w1 → Φ i u w2) (hkeepC : ∀ i u w1 w2, i < ops.size → (depsOf ops ops.size p).contains i = true → C w1 w2 → Φ i u w1 → Φ i u w2)
    (hops : ∀ i o, ops[i]? = some o → ∀ (vs : Nat → Value) w1, (∀ j v, fix j = some v → vs j = v) → ((depsOf ops ops.size i).contains p = false → E w w1) → C w w1 → (∀ j ∈ depsOf ops ops.size i, Φ j (vs j) w1) → stepG P ops o (acts ops a vs (fun _ => true) i) w1 (fun u w2 => (if i = p then C w1 w2 else E w1 w2) ∧ Φ i u w2))
    (hend : ∀ (vs : Nat → Value) w1, (∀ j v, fix j = some v → vs j = v) → C w w1 → (∀ i, i < ops.size → Φ i (vs i) w1) → Q .normal (acts ops a vs (fun _ => true) ops.size) w1) : anyS P ops Q ops.size (Array.replicate ops.size false) a { w with drawn := w.drawn + 1 } := by
  have hsel : ∀ (j : Nat) (o : Oper) cs b, ops[j]? = some o → o.op ≠ .select cs b := by
    have h2 := hB
    simp only [okB, Bool.and_eq_true] at h2
    exact Region.noSelect_spec h2.1
  suffices key : ∀ (fuel : Nat) (listed : Array Bool) (vs : Nat → Value) (w1 : World), (∀ j v, fix j = some v → vs j = v) → listed.size = ops.size → listed.toList.count true + fuel = ops.size → (listed.getD p false = false → E w w1) → C w w1 →
      (∀ j, listed.getD j false = true → ∀ i ∈ direct ops j, listed.getD i false = true) → (∀ j, j < ops.size → listed.getD j false = true → Φ j (vs j) w1) →
      anyS P ops Q fuel listed (acts ops a vs (fun j => listed.getD j false) ops.size) w1 by
    have h0 := key ops.size (Array.replicate ops.size false) (fun j => (fix j).getD undef) { w with drawn := w.drawn + 1 } (fun j v h => by simp [h]) (by simp) (by simp [List.count_replicate]) (fun _ => T.d w) (T.sub _ _ (T.d w))
      (fun j hj => by rw [getD_rep] at hj; cases hj) (fun j _ hj => by rw [getD_rep] at hj; cases hj)
    have e : acts ops a (fun j => (fix j).getD undef) (fun j => (Array.replicate ops.size false).getD j false) ops.size = a := by
      have : ∀ n, acts ops a (fun j => (fix j).getD undef) (fun j => (Array.replicate ops.size false).getD j false) n = a := by
        intro n
        induction n with
        | zero => rfl
        | succ n ih => simp only [acts]; rw [if_neg (by rw [getD_rep]; exact Bool.false_ne_true)]; exact ih
      exact this _
    rw [e] at h0
    exact h0
  intro fuel
  have hdone : ∀ (listed : Array Bool) (vs : Nat → Value) (w1 : World), (∀ j v, fix j = some v → vs j = v) → (∀ j, j < ops.size → listed.getD j false = true) → C w w1 → (∀ j, j < ops.size → listed.getD j false = true → Φ j (vs j) w1) →
      Q .normal (acts ops a vs (fun j => listed.getD j false) ops.size) w1 := by
    intro listed vs w1 hfx hall hx hΦ
    have := hend vs w1 hfx hx fun i hi => hΦ i hi (hall i hi)
    rwa [acts_congr a vs vs (fun _ => true) (fun j => listed.getD j false) ops.size fun j hj => ⟨(hall j hj).symm, fun _ => rfl⟩] at this
  induction fuel with
  | zero =>
    intro listed vs w1 hfx hsz hc hxE hx hcl hΦ
    have hall : ∀ j, j < ops.size → listed.getD j false = true := by
      intro j hj
      have hlen : listed.toList.count true = listed.toList.length := by simp only [Array.length_toList]; omega
      have := List.count_eq_length.1 hlen (listed[j]'(by omega)) (by simp)
      rw [Array.getD_eq_getD_getElem?, Array.getElem?_eq_getElem (by omega)]
      exact this.symm
    refine ⟨?_, hdone listed vs w1 hfx hall hx hΦ⟩
    rw [List.eq_nil_iff_forall_not_mem]
    intro i hi
    have hi1 := (mem_ready.1 hi)
    obtain ⟨o, ho, -⟩ := hi1.2
    have hlt : i < ops.size := (Array.getElem?_eq_some_iff.1 ho).1
    have h1 := hall i hlt
    have h2 := hi1.1
    rw [Array.getD_eq_getD_getElem?, Array.getElem?_eq_getElem (by omega)] at h1 h2
    simp only [Option.getD_some] at h1 h2
    rw [h1] at h2; cases h2
  | succ fuel ih =>
    intro listed vs w1 hfx hsz hc hxE hx hcl hΦ
    refine ⟨fun h => hdone listed vs w1 hfx (all_listed hB hsz h) hx hΦ, fun i hi => ?_⟩
    obtain ⟨hi0, o, ho, hafter⟩ := mem_ready.1 hi
    have hlt : i < ops.size := (Array.getElem?_eq_some_iff.1 ho).1
    have hnot : listed.getD i false = false := by
      rw [Array.getD_eq_getD_getElem?, Array.getElem?_eq_getElem (by omega)] at hi0 ⊢
      exact hi0
    have hdir := direct_ready ho hafter
    have hdeps := dep_in hcl ops.size i hdir
    have hdl : ∀ j ∈ depsOf ops ops.size i, j < ops.size := fun j hj => by
      have := hdeps j hj
      rcases Nat.lt_or_ge j listed.size with h' | h'
      · omega
      · simp [Array.getD_eq_getD_getElem?, Array.getElem?_eq_none h'] at this
    have hnp : (depsOf ops ops.size i).contains p = false → i ≠ p → listed.getD p false = false := fun hcp hip => by
      cases hlp : listed.getD p false with
      | false => rfl
      | true =>
        exfalso
        rcases pivotB_spec hp i hlt hip with h | h
        · have := dep_in hcl ops.size p (hcl p hlp) i h
          rw [hnot] at this; cases this
        · rw [← List.contains_iff_mem, hcp] at h; cases h
    have hxE' : (depsOf ops ops.size i).contains p = false → E w w1 := fun hcp => by
      by_cases hip : i = p
      · exact hxE (by rw [← hip]; exact hnot)
      · exact hxE (hnp hcp hip)
    have hst := hops i o ho vs w1 hfx hxE' hx fun j hj => hΦ j (hdl j hj) (hdeps j hj)
    -- a later one that has come up is apart from this one
    have hlater : ∀ j, i < j → j < ops.size → listed.getD j false = true → apartB ops i j = true := fun j h1 h2 h3 =>
      ((okB_spec hB j h2).2 i h1).resolve_right fun hmem => by
        have := dep_in hcl ops.size j (hcl j h3) i hmem
        rw [hnot] at this; cases this
    have hearlier : ∀ j, j < i → listed.getD j false = false → apartB ops j i = true := fun j h1 h3 =>
      ((okB_spec hB i hlt).2 j h1).resolve_right fun hmem => by
        have := hdeps j hmem
        rw [h3] at this; cases this
    have hacts : ∀ n, i ≤ n → n ≤ ops.size → ∀ t, t ∈ o.looksAt ops → (acts ops a vs (fun j => listed.getD j false) n).tmps[t]? = (acts ops a vs (fun _ => true) i).tmps[t]? := by
      intro n hin
      obtain ⟨k, rfl⟩ := Nat.exists_eq_add_of_le hin
      clear hin
      induction k with
      | zero =>
        intro _ t ht
        refine acts_slot a vs _ _ t i fun j hj hd => ?_
        cases hl : listed.getD j false with
        | true => rfl
        | false =>
          have hap := hearlier j hj hl
          have hoj : ops[j]? = some (ops[j]'(by omega)) := by simp [show j < ops.size from by omega]
          rw [hoj] at hd
          simp only [apartB, hoj, ho] at hap
          exact absurd ht ((Oper.apart_spec hap).1 t hd)
      | succ k ih2 =>
        intro hle t ht
        have ih2 := ih2 (by omega) t ht
        obtain ⟨n, hn⟩ : ∃ n, n = i + k := ⟨_, rfl⟩
        rw [← hn] at ih2
        rw [show i + (k + 1) = n + 1 from by omega]
        simp only [acts]
        by_cases hl : listed.getD n false = true
        · rw [if_pos hl]
          have hni : i ≠ n := fun e => by subst e; rw [hnot] at hl; cases hl
          have hap := hlater n (by omega) (by omega) hl
          have hon : ops[n]? = some (ops[n]'(by omega)) := by simp [show n < ops.size from by omega]
          simp only [apartB, hon, ho] at hap
          rw [put_other _ _ _ _ (fun hd => (Oper.apart_spec hap).2.2 t (by rw [hon] at hd; exact hd) ht)]
          exact ih2
        · rw [if_neg hl]; exact ih2
    have hst2 : stepG P ops o (acts ops a vs (fun j => listed.getD j false) ops.size) w1 (fun u w2 => (if i = p then C w1 w2 else E w1 w2) ∧ Φ i u w2) :=
      stepG_same (hsel i o · · ho) (fun t ht => (hacts ops.size (by omega) (Nat.le_refl _) t ht).symm) hst
    refine opS_of_stepG ho hst2 ?_
    rintro v w2 ⟨hx2, hv⟩
    have hod : (ops[i]?).bind (·.dst) = o.dst := by rw [ho]; rfl
    rw [← hod, acts_put a vs (fun j => listed.getD j false) i v hnot ops.size hlt (fun j h1 h2 h3 d hd hd2 => by
      have hap := hlater j h1 h2 h3
      have hoj : ops[j]? = some (ops[j]'h2) := by simp [h2]
      simp only [apartB, hoj, ho] at hap
      rw [ho] at hd; rw [hoj] at hd2
      exact (Oper.apart_spec hap).2.1 d hd hd2)]
    have hget : ∀ j, (listed.setIfInBounds i true).getD j false = (listed.getD j false || decide (j = i)) := by
      intro j
      by_cases hji : j = i
      · subst hji; simp [Array.getD_eq_getD_getElem?, show j < listed.size from by omega]
      · rw [getD_set_ne false (Ne.symm hji)]; simp [hji]
    have := ih (listed.setIfInBounds i true) (fun j => if j = i then v else vs j) w2 (fun j u hj => by
        by_cases hji : j = i
        · subst hji; simpa using hfix j u v w2 hj hv
        · simpa [hji] using hfx j u hj) (by simpa using hsz) (by
        rw [Array.toList_setIfInBounds, List.count_set (by simpa using (by omega : i < listed.size))]
        have e : (listed.toList[i]'(by simpa using (by omega : i < listed.size))) = false := by
          rw [Array.getD_eq_getD_getElem?, Array.getElem?_eq_getElem (by omega)] at hnot
          simpa using hnot
        have e' : (listed.toList[i]'(by simpa using (by omega : i < listed.size)) == true) = false := by rw [e]; rfl
        rw [e']; simp only [Bool.false_eq_true, if_false, beq_self_eq_true, if_true]; omega) (fun hl => by
          rw [hget] at hl
          simp only [Bool.or_eq_false_iff, decide_eq_false_iff_not] at hl
          rw [if_neg (fun e => hl.2 e.symm)] at hx2
          exact T.te _ _ _ (hxE hl.1) hx2) (by
          split at hx2
          · exact T.tc _ _ _ hx hx2
          · exact T.tc _ _ _ hx (T.sub _ _ hx2))
      (by
        intro j hj k hk
        rw [hget] at hj ⊢
        by_cases hji : j = i
        · subst hji; rw [hdir k hk]; rfl
        · simp only [hji, decide_false, Bool.or_false] at hj
          rw [hcl j hj k hk]; rfl)
      (by
        intro j hj hl
        by_cases hji : j = i
        · subst hji; simpa using hv
        · rw [hget] at hl
          simp only [hji, decide_false, Bool.or_false] at hl
          simp only [hji, if_false]
          split at hx2
          · rename_i hip
            subst hip
            refine hkeepC j _ _ _ hj ?_ hx2 (hΦ j hj hl)
            rw [List.contains_iff_mem]
            refine (pivotB_spec hp j hj hji).resolve_right fun h => ?_
            have := dep_in hcl ops.size j (hcl j hl) i h
            rw [hnot] at this; cases this
          · exact hkeep j _ _ _ hj hx2 (hΦ j hj hl))
    have e2 : (fun j => (listed.setIfInBounds i true).getD j false) = fun j => listed.getD j false || decide (j = i) := funext hget
    rw [e2] at this
    exact this

def Walk (E C : World → World → Prop) (p : Nat) (P : Program) (ops : Array Oper) (w : World) (Q : Exit → Act → World → Prop) : Nat → List Oper → List Spec → List (Nat × (World → Prop)) → Act → Prop
  | _, [], _, env, a => ∀ w1, C w w1 → (∀ j f, (j, f) ∈ env → f w1) → Q .normal a w1
  | _, _ :: _, [], _, _ => False
  | i, o :: rest, .val v :: ss, env, a => (∀ w1, ((depsOf ops ops.size i).contains p = false → E w w1) → C w w1 → Have ops i env w1 → stepG P ops o a w1 (fun u w2 => (if i = p then C w1 w2 else E w1 w2) ∧ u = v)) ∧ Walk E C p P ops w Q (i + 1) rest ss env (a.put o.dst v)
  | i, o :: rest, .fact f :: ss, env, a => (∀ w1, ((depsOf ops ops.size i).contains p = false → E w w1) → C w w1 → Have ops i env w1 → stepG P ops o a w1 (fun u w2 => (if i = p then C w1 w2 else E w1 w2) ∧ f u w2)) ∧ ∀ u, Walk E C p P ops w Q (i + 1) rest ss ((i, f u) :: env) (a.put o.dst u)

def keepsS (E C : World → World → Prop) (ops : Array Oper) (p : Nat) : Nat → List Spec → Prop
  | _, [] => True
  | i, .val _ :: r => keepsS E C ops p (i + 1) r
  | i, .fact f :: r => (∀ u w1 w2, E w1 w2 → f u w1 → f u w2) ∧ ((depsOf ops ops.size p).contains i = true → ∀ u w1 w2, C w1 w2 → f u w1 → f u w2) ∧ keepsS E C ops p (i + 1) r
theorem keepsS_get {E C : World → World → Prop} {p : Nat} : ∀ (ss : List Spec) (k i : Nat) (s : Spec), keepsS E C ops p k ss → ss[i]? = some s →
    (∀ u w1 w2, E w1 w2 → s.holds u w1 → s.holds u w2) ∧ ((depsOf ops ops.size p).contains (k + i) = true → ∀ u w1 w2, C w1 w2 → s.holds u w1 → s.holds u w2)
  | [], _, _, _, _, h => by simp at h
  | .val v :: r, k, 0, s, _, h => by simp at h; subst h; exact ⟨fun _ _ _ _ h => h, fun _ _ _ _ _ h => h⟩
  | .val v :: r, k, i + 1, s, hk, h => by
    have := keepsS_get r (k + 1) i s hk (by simpa using h)
    rwa [show k + 1 + i = k + (i + 1) from by omega] at this
  | .fact f :: r, k, 0, s, hk, h => by simp at h; subst h; exact ⟨hk.1, hk.2.1⟩
  | .fact f :: r, k, i + 1, s, hk, h => by
    have := keepsS_get r (k + 1) i s hk.2.2 (by simpa using h)
    rwa [show k + 1 + i = k + (i + 1) from by omega] at this

theorem walk_at {E C : World → World → Prop} {p : Nat} {w : World} {Q : Exit → Act → World → Prop} {a0 : Act} (ss : List Spec) (vs : Nat → Value) (hfx : ∀ j s v, ss[j]? = some s → s.fixed = some v → vs j = v) :
    ∀ (n k : Nat) (rest : List Oper) (env : List (Nat × (World → Prop))) (a : Act), n + k = ops.size → (∀ j, rest[j]? = ops[k + j]?) → rest.length = n → a = acts ops a0 vs (fun _ => true) k →
      (∀ j q, (j, q) ∈ env → ∃ f, ss[j]? = some (.fact f) ∧ j < k ∧ q = f (vs j)) → (∀ j f, ss[j]? = some (.fact f) → j < k → (j, f (vs j)) ∈ env) → Walk E C p P ops w Q k rest (ss.drop k) env a →
      (∀ i o, k ≤ i → ops[i]? = some o → ∃ s, ss[i]? = some s ∧ ∀ w1, ((depsOf ops ops.size i).contains p = false → E w w1) → C w w1 → (∀ j ∈ depsOf ops ops.size i, j < i → ∀ s, ss[j]? = some s → s.holds (vs j) w1) → stepG P ops o (acts ops a0 vs (fun _ => true) i) w1 (fun u w2 => (if i = p then C w1 w2 else E w1 w2) ∧ s.holds u w2)) ∧
      (∀ w1, C w w1 → (∀ i s, i < ops.size → ss[i]? = some s → s.holds (vs i) w1) → Q .normal (acts ops a0 vs (fun _ => true) ops.size) w1) := by
  intro n
  induction n with
  | zero =>
    intro k rest env a hk hr hl ha henv henv2 hw
    obtain rfl : rest = [] := List.length_eq_zero_iff.1 hl
    have e : k = ops.size := by omega
    subst e
    refine ⟨fun i o hi ho => by have := (Array.getElem?_eq_some_iff.1 ho).1; omega, fun w1 hx hall => ?_⟩
    simp only [Walk] at hw
    rw [← ha]
    refine hw w1 hx fun j q hq => ?_
    obtain ⟨f, hf, hj, rfl⟩ := henv j q hq
    exact hall j _ hj hf
  | succ n ih =>
    intro k rest env a hk hr hl ha henv henv2 hw
    obtain ⟨o, rest, rfl⟩ : ∃ o r, rest = o :: r := by cases rest with | nil => simp at hl | cons o r => exact ⟨o, r, rfl⟩
    have hok : ops[k]? = some o := by simpa using (hr 0).symm
    have hact : ∀ v, vs k = v → a.put o.dst v = acts ops a0 vs (fun _ => true) (k + 1) := fun v hv => by
      simp only [acts, if_true]; rw [← ha, hok, hv]; rfl
    cases hs : ss[k]? with
    | none =>
      rw [List.drop_eq_nil_of_le (by rcases Nat.lt_or_ge k ss.length with h | h; · rw [List.getElem?_eq_getElem h] at hs; cases hs
                                     · exact h)] at hw
      simp only [Walk] at hw
    | some s =>
      have hlt : k < ss.length := (List.getElem?_eq_some_iff.1 hs).1
      rw [List.drop_eq_getElem_cons hlt, (List.getElem?_eq_some_iff.1 hs).2] at hw
      have hlean : ∀ w1, (∀ j ∈ depsOf ops ops.size k, j < k → ∀ s, ss[j]? = some s → s.holds (vs j) w1) → Have ops k env w1 := by
        intro w1 h j q hq hc
        obtain ⟨f, hf, hj, rfl⟩ := henv j q hq
        exact h j (by simpa using hc) hj _ hf
      have hr' : ∀ j, rest[j]? = ops[k + 1 + j]? := fun j => by have := hr (j + 1); simpa [Nat.add_assoc, Nat.add_comm 1 j] using this
      cases s with
      | val v =>
        simp only [Walk] at hw
        have hv : vs k = v := hfx k _ v hs rfl
        obtain ⟨h1, h2⟩ := ih (k + 1) rest env _ (by omega) hr' (by simpa using hl) (hact v hv) (fun j q hq => by obtain ⟨f, hf, hj, e⟩ := henv j q hq; exact ⟨f, hf, by omega, e⟩)
          (fun j f hf hj => henv2 j f hf (by rcases Nat.lt_or_ge j k with h | h; · exact h
                                             · obtain rfl : j = k := by omega
                                               rw [hs] at hf; cases hf)) hw.2
        refine ⟨fun i o' hi ho => ?_, h2⟩
        rcases Nat.lt_or_ge k i with h | h
        · exact h1 i o' (by omega) ho
        · obtain rfl : i = k := by omega
          rw [hok] at ho; cases ho
          exact ⟨_, hs, fun w1 hE hx hd => by rw [← ha]; exact hw.1 w1 hE hx (hlean w1 hd)⟩
      | fact f =>
        simp only [Walk] at hw
        obtain ⟨h1, h2⟩ := ih (k + 1) rest ((k, f (vs k)) :: env) _ (by omega) hr' (by simpa using hl) (hact (vs k) rfl) (fun j q hq => by
            rcases List.mem_cons.1 hq with e | hq
            · cases e; exact ⟨f, hs, by omega, rfl⟩
            · obtain ⟨f, hf, hj, e⟩ := henv j q hq; exact ⟨f, hf, by omega, e⟩)
          (fun j g hg hj => by
            rcases Nat.lt_or_ge j k with h | h
            · exact List.mem_cons_of_mem _ (henv2 j g hg h)
            · obtain rfl : j = k := by omega
              rw [hs] at hg; cases hg
              exact List.mem_cons_self) (hw.2 (vs k))
        refine ⟨fun i o' hi ho => ?_, h2⟩
        rcases Nat.lt_or_ge k i with h | h
        · exact h1 i o' (by omega) ho
        · obtain rfl : i = k := by omega
          rw [hok] at ho; cases ho
          exact ⟨_, hs, fun w1 hE hx hd => by rw [← ha]; exact hw.1 w1 hE hx (hlean w1 hd)⟩

/-- THE RULE, for a region whose operations are written out: a spec for each operation, the walk in the text's order. -/
theorem any_region {E C : World → World → Prop} (T : Two E C) (p : Nat) {Q : Exit → Act → World → Prop} {a : Act} {w : World} {l : List Oper} (ss : List Spec) (hB : okB l.toArray = true) (hpv : pivotB l.toArray p = true) (hk : keepsS E C l.toArray p 0 ss)
    (h : Walk E C p P l.toArray w Q 0 l ss [] a) : anyS P l.toArray Q l.toArray.size (Array.replicate l.toArray.size false) a { w with drawn := w.drawn + 1 } := by
  have base := fun vs hfx => walk_at (E := E) (C := C) (p := p) (P := P) (ops := l.toArray) (w := w) (Q := Q) (a0 := a) ss vs hfx l.length 0 l [] a (by simp) (by simp) rfl rfl (fun _ _ h => by cases h) (fun _ _ _ h => by omega) h
  refine any_facts T p hpv (fun i => match ss[i]? with | some s => s.holds | none => fun _ _ => False) (fun i => (ss[i]?).bind Spec.fixed) ?_ hB ?_ ?_ ?_ ?_
  · intro i v u w hv hu
    cases hs : ss[i]? with
    | none => simp [hs] at hv
    | some s => cases s with
      | val x => simp only [hs, Option.bind_some, Spec.fixed, Option.some.injEq] at hv; subst hv; simpa [hs, Spec.holds] using hu
      | fact f => simp [hs, Spec.fixed] at hv
  · intro i u w1 w2 _ hx hu
    cases hs : ss[i]? with
    | none => simp [hs] at hu
    | some s => simp only [hs] at hu ⊢; exact (keepsS_get ss 0 i s hk hs).1 u w1 w2 hx hu
  · intro i u w1 w2 _ hc hx hu
    cases hs : ss[i]? with
    | none => simp [hs] at hu
    | some s => simp only [hs] at hu ⊢; exact (keepsS_get ss 0 i s hk hs).2 (by rw [Nat.zero_add]; exact hc) u w1 w2 hx hu
  · intro i o ho vs w1 hfx hE hx hd
    obtain ⟨h1, -⟩ := base vs fun j s v hs hv => hfx j v (by simp [hs, hv])
    obtain ⟨s, hs, hst⟩ := h1 i o (Nat.zero_le _) ho
    simp only [hs]
    refine hst w1 hE hx fun j hj _ s' hs' => ?_
    have := hd j hj
    simpa only [hs'] using this
  · intro vs w1 hfx hx hall
    obtain ⟨-, h2⟩ := base vs fun j s v hs hv => hfx j v (by simp [hs, hv])
    refine h2 w1 hx fun i s hi hs => ?_
    have := hall i hi
    simpa only [hs] using this
theorem wp_region {E C : World → World → Prop} (T : Two E C) (p : Nat) {id : Nat} {Q : Exit → Act → World → Prop} {a : Act} {w : World} {l : List Oper} (ss : List Spec) (hm : P.follows .mixedOrders = true) (hB : okB l.toArray = true) (hpv : pivotB l.toArray p = true) (hk : keepsS E C l.toArray p 0 ss)
    (h : Walk E C p P l.toArray w Q 0 l ss [] a) : (Code.region id l.toArray true).wp P Q a w :=
  wp_region_any hm (any_of_anyS _ _ _ _ (any_region T p ss hB hpv hk h))

/-! ### The same within a fence, for operations that call nothing -/
def quietOp : Op → Bool
  | .move .. | .assign .. | .pick .. | .alloc .. | .box .. | .load .. | .store .. | .binOp .. | .unOp .. | .fieldAddr .. | .indexAddr .. | .index .. | .lookup .. | .mapEntry .. | .entryStore .. | .extract .. => true
  | _ => false
def tame : Result Next → Prop
  | .ok (.value _) _ => True
  | .ok .skip _ => True
  | .ok _ _ => False
  | .halt _ _ => True
theorem tame_v (s : Sem Value) (w : World) : tame ((do pure (.value (← s)) : Sem Next).run P w) := by
  simp only [Sem.run_bind]
  cases s.run P w <;> simp [Result.andThen, tame]
theorem tame_u (s : Sem Unit) (w : World) : tame ((do s; pure .skip : Sem Next).run P w) := by
  simp only [Sem.run_bind]
  cases s.run P w <;> simp [Result.andThen, tame]
theorem tame_exec {o : Oper} (h : quietOp o.op = true) (ρ : Operand → Value) (w : World) : tame ((execOp ρ o).run P w) := by
  obtain ⟨guard, op, dst, ty, after, pos⟩ := o
  unfold execOp
  cases op <;> simp only [quietOp, Bool.false_eq_true] at h <;> first
    | exact tame_v _ w
    | exact tame_u _ w
    | (simp [tame]; done)
    | (simp only [Sem.run_bind]; cases (asBool (ρ _)).run P w <;> simp [Result.andThen, tame]; done)
theorem wpIn_of_wp {F : Fence} {n : Nat} {o : Oper} {a : Act} {w : World} {K : Act → World → Prop} {Q : Exit → Act → World → Prop} (hq : quietOp o.op = true) (h : o.wp P a w K Q) : o.wpIn F n P a w K Q := by
  unfold Oper.wpIn
  refine ⟨fun f hf => ?_, ?_⟩
  · unfold Oper.about at hf
    cases ho : o.op <;> rw [ho] at hf hq <;> simp [quietOp] at hf hq
  · rw [Oper.semAt_plain F _ _ (fun c hc => by rw [hc] at hq; simp [quietOp] at hq)]
    have ht := tame_exec (P := P) hq a.eval w
    unfold Oper.wp at h
    generalize (execOp a.eval o).run P w = r at *
    cases r with
    | ok x w' => cases x <;> simp only [tame] at ht <;> exact h
    | halt x w' => cases x <;> simp only [Oper.upon] at h <;> simp only [Oper.uponIn] <;> exact h
theorem anyIn_of_any {F : Fence} {n : Nat} {Q : Exit → Act → World → Prop} (hq : ∀ (i : Nat) (o : Oper), ops[i]? = some o → quietOp o.op = true) : ∀ (fuel : Nat) (listed : Array Bool) (a : Act) (w : World), anyS P ops Q fuel listed a w → wpAnyIn F n P .any ops Q fuel listed a w
  | 0, _, _, _, h => h
  | fuel + 1, listed, a, w, h => by
    refine ⟨h.1, fun i hi => ?_⟩
    have h1 := opS_mono (fun a w => anyIn_of_any (F := F) (n := n) hq fuel _ a w) (h.2 i hi)
    unfold opS at h1
    unfold wpOpIn
    cases ho : ops[i]? with
    | none => rw [ho] at h1; exact h1
    | some o =>
      rw [ho] at h1
      simp only at h1 ⊢
      split
      · rename_i hw
        rw [if_pos hw] at h1
        exact wpIn_of_wp (hq i o ho) h1
      · rename_i hw
        rw [if_neg hw] at h1
        refine ⟨fun f hf => ?_, h1⟩
        have hqo := hq i o ho
        unfold Oper.about at hf
        cases hop : o.op <;> rw [hop] at hf hqo <;> simp [quietOp] at hf hqo
theorem wpIn_region {F : Fence} {n : Nat} {E C : World → World → Prop} (T : Two E C) (p : Nat) {id : Nat} {Q : Exit → Act → World → Prop} {a : Act} {w : World} {l : List Oper} (ss : List Spec) (hm : P.follows .mixedOrders = true) (hB : okB l.toArray = true) (hpv : pivotB l.toArray p = true)
    (hq : (l.all fun o => quietOp o.op) = true) (hk : keepsS E C l.toArray p 0 ss)
    (h : Walk E C p P l.toArray w Q 0 l ss [] a) : (Code.region id l.toArray true).wpIn F n P Q a w := by
  refine wpIn_region_any hm (anyIn_of_any (fun i o ho => ?_) _ _ _ _ (any_region T p ss hB hpv hk h))
  rw [List.all_eq_true] at hq
  exact hq o (List.mem_of_getElem? (i := i) (by simpa using ho))
end Facts.Piv
end Go.Proofs.Ytdadffmagfknoaa
