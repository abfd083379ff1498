/-
  WHAT AN AGENT HAS PAID IN ALL, and what each entry is worth; plain.
  RatePaid: what an agent has paid in all is within what its entries are worth.
  A BOOK THAT IS HANDED IN, opened: lists of letters, alphabets and spellings as they lie in memory.
  A HOUSE THAT IS HANDED IN, opened: spans, agents and entries as they lie in memory.
  A BYTE, AND A NUMBER, that is handed in.
  WHAT IS SENT, plain: by the agent that Send names enough is paid in any truth, and none surely pays as much for less.
  RateSent: for what Send returns its agent pays enough, in any truth; no agent surely does for less.
  ARRAYS OF BYTES AND OF NUMBERS, AND A NUMBER OF TWO BYTES, that are handed in.
  A HOUSE WITH ONE AGENT ALONE, and without entries; what this agent pays, by how it rounds; plain.
  alike OF THE STATEMENTS: a house with an agent alone, and without entries.
-/
import Derived.Test.YtdadffmagfknoaaBunAN
import Derived.Test.YtdadffmagfknoaaBunAM
import Derived.Test.YtdadffmagfknoaaBunAA
import Derived.Deep.Slices
import Derived.Deep.Strs
import Derived.WideKeyArgs
import Derived.OpenShut
import Derived.Lib.SmallJoins
import Derived.Test.YtdadffmagfknoaaBunAL
namespace Go.Proofs.Ytdadffmagfknoaa
set_option linter.unusedSimpArgs false
set_option linter.unusedVariables false
open Go.RowKit
set_option linter.unusedVariables false

theorem firstErr_zero {α : Type} (f : List α → α → Int) : ∀ (l pre : List α), (∀ x ∈ l, ∀ p, f p x = 0) → firstErrFrom f pre l = (0, 0)
  | [], _, _ => rfl
  | x :: l, pre, h => by
    rw [firstErrFrom, if_pos (h x (by simp) pre)]
    exact firstErr_zero f l _ fun y hy => h y (by simp [hy])
theorem openR_zero {h : House} (hv : raErr h = 0) (l : List ArgR) (hl : ∀ a ∈ l, inM a.n 0 a.most = true) : openR h l = 0 := by
  unfold openR
  rw [if_neg (by rw [hv]; decide)]
  have : firstErr argE l = (0, 0) := firstErr_zero argE l [] fun a ha p => by
    show argErrM a = 0
    unfold argErrM
    rw [hl a ha]; rfl
  rw [this]
theorem num_ok {h : House} (hv : raErr h = 0) (hne : truL h (outB 0) ≠ []) (l : List ArgR) (hl : ∀ a ∈ l, inM a.n 0 a.most = true) (f : List Int → Int) :
    numErr h l f = 0 ∧ NumIs f (truL h (outB 0)) (numSpan h l f).1 (numSpan h l f).2 := by
  have ho := openR_zero hv l hl
  unfold numErr numSpan
  rw [if_neg (by rw [ho]; decide), if_neg (by rw [ho]; decide)]
  exact numM_is f hne
theorem num_none {h : House} (hv : raErr h = 0) (hne : truL h (outB 0) = []) (l : List ArgR) (hl : ∀ a ∈ l, inM a.n 0 a.most = true) (f : List Int → Int) :
    numErr h l f = 8 ∧ numSpan h l f = (0, 0) := by
  have ho := openR_zero hv l hl
  unfold numErr numSpan
  rw [if_neg (by rw [ho]; decide), if_neg (by rw [ho]; decide), hne]
  exact ⟨rfl, rfl⟩
def worthArgs (h : House) (who day near : Int) : List ArgR := [⟨who, agtsM h, 4⟩, ⟨day, daysM h, 4⟩, ⟨near, 99, 7⟩]
def worthF (h : House) (who day near : Int) : List Int → Int := fun r => payM (agtAt h who) near (r.getD day.toNat 0)
theorem worth_args {h : House} (hv : raErr h = 0) {who day near : Int} (h1 : 0 ≤ who ∧ who < h.agents.length) (h2 : 0 ≤ day ∧ day < h.days) (h3 : 0 ≤ near ∧ near ≤ 99) : ∀ a ∈ worthArgs h who day near, inM a.n 0 a.most = true := by
  have hV := validH_of hv
  intro a ha
  simp only [worthArgs, List.mem_cons, List.not_mem_nil, or_false] at ha
  rcases ha with rfl | rfl | rfl
  · show inM who 0 (agtsM h) = true
    rw [agtsM_is hV]; simp [inM]; omega
  · show inM day 0 (daysM h) = true
    rw [daysM_is hV]; simp [inM]; omega
  · show inM near 0 99 = true
    simp [inM]; omega
theorem worth_ok {h : House} (hv : raErr h = 0) (hne : truL h (outB 0) ≠ []) {who day near : Int} (h1 : 0 ≤ who ∧ who < h.agents.length) (h2 : 0 ≤ day ∧ day < h.days) (h3 : 0 ≤ near ∧ near ≤ 99) :
    numErr h (worthArgs h who day near) (worthF h who day near) = 0 ∧ NumIs (worthF h who day near) (truL h (outB 0)) (numSpan h (worthArgs h who day near) (worthF h who day near)).1 (numSpan h (worthArgs h who day near) (worthF h who day near)).2 :=
  num_ok hv hne _ (worth_args hv h1 h2 h3) _
theorem worth_in {h : House} (hv : raErr h = 0) {who day near : Int} (h1 : 0 ≤ who ∧ who < h.agents.length) (h2 : 0 ≤ day ∧ day < h.days) (h3 : 0 ≤ near ∧ near ≤ 99) {r : List Int} (hr : r ∈ truL h (outB 0)) :
    0 ≤ worthF h who day near r ∧ worthF h who day near r ≤ 199 := by
  have hV := validH_of hv
  have hg := ratesL_good hV (truL_sub hV hr) (j := day.toNat) (by omega)
  exact payM_in (hV.agent _ (agtAt_mem h1.1 h1.2)).1 h3 ⟨by omega, hg.2⟩
theorem NumIs.within {f : List Int → Int} {l : List (List Int)} {a b c d : Int} (h : NumIs f l a b) (hb : ∀ r ∈ l, c ≤ f r ∧ f r ≤ d) : c ≤ a ∧ b ≤ d := by
  obtain ⟨r, hr, e⟩ := h.least
  obtain ⟨q, hq, e'⟩ := h.most
  have := hb r hr
  have := hb q hq
  omega
/-- what an entry is worth, for an agent -/
def entSpan (h : House) (who : Int) (k : Nat) : Int × Int := numSpan h (worthArgs h who (entAt h k).day (entAt h k).near) (worthF h who (entAt h k).day (entAt h k).near)
def leastTo (h : House) (who : Int) : Nat → Int
  | 0 => 0
  | k + 1 => if (entAt h k).agent = who then leastTo h who k + (entSpan h who k).1 else leastTo h who k
def mostTo (h : House) (who : Int) : Nat → Int
  | 0 => 0
  | k + 1 => if (entAt h k).agent = who then mostTo h who k + (entSpan h who k).2 else mostTo h who k
theorem entSpan_ok {h : House} (hv : raErr h = 0) (hne : truL h (outB 0) ≠ []) {who : Int} (hw : 0 ≤ who ∧ who < h.agents.length) {k : Nat} (hk : k < h.entries.length) :
    numErr h (worthArgs h who (entAt h k).day (entAt h k).near) (worthF h who (entAt h k).day (entAt h k).near) = 0 ∧ NumIs (worthF h who (entAt h k).day (entAt h k).near) (truL h (outB 0)) (entSpan h who k).1 (entSpan h who k).2 ∧
      0 ≤ (entSpan h who k).1 ∧ (entSpan h who k).2 ≤ 199 ∧ (entSpan h who k).1 ≤ (entSpan h who k).2 := by
  have hV := validH_of hv
  have he := hV.entry _ (entAt_mem hk)
  obtain ⟨h1, h2⟩ := worth_ok hv hne hw he.2.1 he.2.2.1
  have h3 := h2.within (c := 0) (d := 199) fun r hr => worth_in hv hw he.2.1 he.2.2.1 hr
  exact ⟨h1, h2, h3.1, h3.2, h2.lo_le⟩
theorem entSpan_told {h : House} (hv : raErr h = 0) (hne : truL h (outB 0) ≠ []) {who : Int} {k : Nat} (hk : k < h.entries.length) (hw : (entAt h k).agent = who) (ht : toldE (entAt h k) = true) :
    entSpan h who k = ((entAt h k).far, (entAt h k).far) := by
  have hV := validH_of hv
  have he := hV.entry _ (entAt_mem hk)
  subst hw
  obtain ⟨-, h2, -, -, -⟩ := entSpan_ok hv hne he.1 hk
  have h3 := h2.within (c := (entAt h k).far) (d := (entAt h k).far) fun r hr => by
    have h4 := ((mem_truL hV).1 hr).2 k hk (by simp [outB]) ht
    unfold agreesM entPay at h4
    have h5 := eq_of_beq h4
    unfold worthF
    omega
  have h4 := h2.lo_le
  exact Prod.ext (by omega) (by omega)
theorem sum_to {h : House} (hv : raErr h = 0) (hne : truL h (outB 0) ≠ []) {who : Int} (hw : 0 ≤ who ∧ who < h.agents.length) {r : List Int} (hr : r ∈ truL h (outB 0)) :
    ∀ k, k ≤ h.entries.length → leastTo h who k ≤ paidTo h who r k ∧ paidTo h who r k ≤ mostTo h who k
  | 0, _ => ⟨Int.le_refl _, Int.le_refl _⟩
  | k + 1, hk => by
    have ih := sum_to hv hne hw hr k (by omega)
    obtain ⟨-, h2, -⟩ := entSpan_ok hv hne hw (k := k) (by omega)
    have h3 := h2.all r hr
    unfold leastTo paidTo mostTo
    by_cases ha : (entAt h k).agent = who
    · rw [if_pos ha, if_pos ha, if_pos ha]
      have e : entPay h (entAt h k) (r.getD (entAt h k).day.toNat 0) = worthF h who (entAt h k).day (entAt h k).near r := by unfold entPay worthF; rw [ha]
      omega
    · rw [if_neg ha, if_neg ha, if_neg ha]
      exact ih
theorem least_in {h : House} (hv : raErr h = 0) (hne : truL h (outB 0) ≠ []) {who : Int} (hw : 0 ≤ who ∧ who < h.agents.length) : ∀ k, k ≤ h.entries.length → 0 ≤ leastTo h who k ∧ leastTo h who k ≤ mostTo h who k ∧ mostTo h who k ≤ 199 * (k : Int)
  | 0, _ => ⟨Int.le_refl _, Int.le_refl _, by simp [mostTo]⟩
  | k + 1, hk => by
    have ih := least_in hv hne hw k (by omega)
    obtain ⟨-, -, h3, h4, h5⟩ := entSpan_ok hv hne hw (k := k) (by omega)
    unfold leastTo mostTo
    by_cases ha : (entAt h k).agent = who
    · rw [if_pos ha, if_pos ha]; omega
    · rw [if_neg ha, if_neg ha]; omega
theorem paid_args {h : House} (hv : raErr h = 0) {who : Int} (hw : 0 ≤ who ∧ who < h.agents.length) : ∀ a ∈ [(⟨who, agtsM h, 4⟩ : ArgR)], inM a.n 0 a.most = true := by
  have hV := validH_of hv
  intro a ha
  rw [List.mem_singleton] at ha
  subst ha
  show inM who 0 (agtsM h) = true
  rw [agtsM_is hV]; simp [inM]; omega
theorem paid_ok {h : House} (hv : raErr h = 0) (hne : truL h (outB 0) ≠ []) {who : Int} (hw : 0 ≤ who ∧ who < h.agents.length) :
    numErr h [⟨who, agtsM h, 4⟩] (fun r => paidM h who r) = 0 ∧ leastTo h who h.entries.length ≤ (numSpan h [⟨who, agtsM h, 4⟩] (fun r => paidM h who r)).1 ∧ (numSpan h [⟨who, agtsM h, 4⟩] (fun r => paidM h who r)).2 ≤ mostTo h who h.entries.length ∧ (numSpan h [⟨who, agtsM h, 4⟩] (fun r => paidM h who r)).1 ≤ (numSpan h [⟨who, agtsM h, 4⟩] (fun r => paidM h who r)).2 := by
  obtain ⟨h1, h2⟩ := num_ok hv hne _ (paid_args hv hw) (fun r => paidM h who r)
  have h3 := h2.within (c := leastTo h who h.entries.length) (d := mostTo h who h.entries.length) fun r hr => sum_to hv hne hw hr _ (Nat.le_refl _)
  exact ⟨h1, h3.1, h3.2, h2.lo_le⟩
/-- without a truth, or without agents, Paid has an error -/
theorem paid_bad {h : House} (hb : ¬ (raErr h = 0 ∧ truL h (outB 0) ≠ [] ∧ 0 < h.agents.length)) : numErr h [⟨0, agtsM h, 4⟩] (fun r => paidM h 0 r) ≠ 0 := by
  by_cases hv : raErr h = 0
  · have hV := validH_of hv
    by_cases ha : 0 < h.agents.length
    · have hT : truL h (outB 0) = [] := Decidable.byContradiction fun hT => hb ⟨hv, hT, ha⟩
      rw [(num_none hv hT _ (paid_args hv ⟨Int.le_refl _, by omega⟩) _).1]
      decide
    · have ho : openR h [⟨0, agtsM h, 4⟩] = 4 := by
        rw [openR_one hv _ (by show (4 : Int) ≠ 0; decide), if_pos (by rw [agtsM_is hV]; simp [inM]; omega)]
      unfold numErr
      rw [if_pos (by rw [ho]; decide), ho]
      decide
  · rw [(numErr_bad hv _ _).1]
    exact hv
end Go.Proofs.Ytdadffmagfknoaa

namespace Go.Proofs.Ytdadffmagfknoaa
set_option linter.unusedSimpArgs false
set_option linter.unusedVariables false
open Go.RowKit
set_option linter.unusedVariables false
set_option maxRecDepth 100000

set_option maxHeartbeats 8000000 in
theorem paid8_any (hv : Value) (h : House) (x : Nat) (hx256 : x < 256) (w : World) (hh : HouseAt w hv h) :
    Calls Try.prog 13 #[hv, .int .u8 x] w fun e w' => e = .returned (.bool true) ∧ Ext w w' := by
  have hsome := fun w1 (hx : Ext w w1) => some8_any hv h w1 (hh.ext hx)
  have hpaid := fun d hd w1 (hx : Ext w w1) => paidPub_any hv h d hd w1 (hh.ext hx)
  have hworth := fun a d n ha hd hn w1 (hx : Ext w w1) => worthPub_any hv h a d n ha hd hn w1 (hh.ext hx)
  obtain ⟨ra, rc, aa, ac, ea, ec, rfl, hdi, hsi, -, -, hent⟩ := hh
  have hE := Lib.hid hent
  clear hent
  go_enter Try.func13, Try.ntmps13
  go_wp2_with fail
  refine (hsome _ (ext_alloc _ _)).mono ?_
  rintro e w1 ⟨rfl, hx⟩
  have x1 : Ext w w1 := hx.of_alloc
  have p0 : w1.cell? ⟨w.heap.size, 0, none⟩ = some (.int .i64 h.days) := hx.cell (by simp [go_sem])
  have p1 : w1.cell? ⟨w.heap.size, 1, none⟩ = some (.slice ra h.rates.length rc) := hx.cell (by simp [go_sem])
  have p2 : w1.cell? ⟨w.heap.size, 2, none⟩ = some (.int .i64 h.step) := hx.cell (by simp [go_sem])
  have p3 : w1.cell? ⟨w.heap.size, 3, none⟩ = some (.slice aa h.agents.length ac) := hx.cell (by simp [go_sem])
  have p4 : w1.cell? ⟨w.heap.size, 4, none⟩ = some (.slice ea h.entries.length ec) := hx.cell (by simp [go_sem])
  have z0 := cell_lt p0
  clear hx hsome
  by_cases hg : someM h = true ∧ 0 < h.agents.length
  rotate_left
  · have hb := paid_bad (h := h) fun ⟨a, b, c⟩ => hg ⟨someM_iff.2 ⟨a, b⟩, c⟩
    have hp0 := hpaid 0 (by unfold I64; omega)
    generalize numErr h [⟨0, agtsM h, 4⟩] (fun r => paidM h 0 r) = ne at *
    generalize numSpan h [⟨0, agtsM h, 4⟩] (fun r => paidM h 0 r) = ns at *
    obtain ⟨n1, n2⟩ := ns
    unfold spanV at hp0
    have hne : (ne != 0) = true := by simpa using hb
    have HNE := Lib.hid hne
    clear hpaid hworth hb hne
    cases hs : someM h
    · clear hg hs
      go_wp2_with fail
      refine (hp0 _ x1).mono ?_
      rintro e w2 ⟨rfl, hx2⟩
      have x2 := x1.trans hx2
      have k := HNE.out
      clear hx2 hp0
      go_wp2_with fail
      (refine (awakeR_any _).mono ?_; rintro e w9 ⟨rfl, hx9⟩; have x9 := Ext.trans (x2.alloc _) hx9; clear hx9)
      go_wp2
      go_ret
      exact ⟨rfl, x9⟩
    · have hz : h.agents.length = 0 := by
        rcases Nat.eq_zero_or_pos h.agents.length with h1 | h1
        · exact h1
        · exact absurd ⟨hs, h1⟩ hg
      rw [hz] at p3 hp0 ⊢
      clear hg hs hz
      go_wp2_with fail
      refine (hp0 _ x1).mono ?_
      rintro e w2 ⟨rfl, hx2⟩
      have x2 := x1.trans hx2
      have k := HNE.out
      clear hx2 hp0
      go_wp2_with fail
      (refine (awakeR_any _).mono ?_; rintro e w9 ⟨rfl, hx9⟩; have x9 := Ext.trans (x2.alloc _) hx9; clear hx9)
      go_wp2
      go_ret
      exact ⟨rfl, x9⟩
  obtain ⟨hs, hpos⟩ := hg
  rw [hs]
  obtain ⟨hv, hne⟩ := someM_iff.1 hs
  have hV := validH_of hv
  have hen := hV.entries
  have hag3 := hV.agents
  have HVv := Lib.hid hv
  have HNe := Lib.hid hne
  have HV := Lib.hid hV
  clear hs hv hne hV
  have kpos : ((h.agents.length : Int) == 0) = false := by rw [beq_eq_false_iff_ne]; omega
  obtain ⟨n, hn⟩ : ∃ n, h.agents.length = n := ⟨_, rfl⟩
  rw [hn] at p3 kpos hpos hag3 ⊢
  have hwho : x % n < n := Nat.mod_lt _ hpos
  have hqi : (x : Int) % (n : Int) = ((x % n : Nat) : Int) := (Int.natCast_emod x n).symm
  generalize x % n = q at *
  have hq64 : I64 (q : Int) := by unfold I64; omega
  have hqn : 0 ≤ (q : Int) ∧ (q : Int) < h.agents.length := by rw [hn]; omega
  have hP := paid_ok HVv.out HNe.out hqn
  have hp := hpaid q hq64
  have hsp := fun k hk => entSpan_ok HVv.out HNe.out hqn (k := k) hk
  have hto := fun k hk ha ht => entSpan_told HVv.out HNe.out (who := (q : Int)) (k := k) hk ha ht
  have hlin := fun k hk => least_in HVv.out HNe.out hqn k hk
  rw [hP.1] at hp
  generalize numSpan h [⟨q, agtsM h, 4⟩] (fun r => paidM h q r) = PS at *
  obtain ⟨s1, s2⟩ := PS
  obtain ⟨-, hP1, hP2, hP3⟩ := hP
  unfold spanV at hp
  simp only [hn] at hp hworth
  have Hqn := Lib.hid hqn
  have Hn := Lib.hid hn
  have HSP := Lib.hid hsp
  have HTO := Lib.hid hto
  have HLIN := Lib.hid hlin
  have HP1 := Lib.hid hP1
  have HP2 := Lib.hid hP2
  have HP3 := Lib.hid hP3
  clear hn hpaid hqn hsp hto hlin hP1 hP2 hP3
  go_wp2_with fail
  try rw [hqi]
  refine (hp _ x1).mono ?_
  rintro e w2 ⟨rfl, hx2⟩
  obtain ⟨W, hW⟩ : ∃ W, W = w2.alloc (.cells #[.int .i64 s1, .int .i64 s2] 35) := ⟨_, rfl⟩
  have xW : Ext w1 W := by rw [hW]; exact hx2.alloc _
  have d0 : W.cell? ⟨w2.heap.size, 0, none⟩ = some (.int .i64 s1) := by rw [hW]; simp [go_sem]
  have d1 : W.cell? ⟨w2.heap.size, 1, none⟩ = some (.int .i64 s2) := by rw [hW]; simp [go_sem]
  have HW := Lib.hid hW
  replace p0 := xW.cell p0
  replace p1 := xW.cell p1
  replace p2 := xW.cell p2
  replace p3 := xW.cell p3
  replace p4 := xW.cell p4
  replace x1 := x1.trans xW
  clear hW hx2 xW hp z0 hqi
  have z0 := cell_lt p0
  obtain ⟨bS, hbS⟩ : ∃ b, b = w2.heap.size := ⟨_, rfl⟩
  rw [← hbS] at d0 d1
  have HBS := Lib.hid hbS
  clear hbS
  go_wp2
  rw [← HW.out, ← HBS.out]
  clear HW HBS
  go_loopw [10, 11, 12, 13, 14, 15] (fun l m i nb wb f wr => ∃ k : Nat, k ≤ h.entries.length ∧ i = .int .i64 k ∧ l = .int .i64 (leastTo h q k) ∧ m = .int .i64 (mostTo h q k) ∧ Ext W wr) (fun _ _ i _ _ _ _ => h.entries.length - (intOf i).toNat)
  case atStart => exact ⟨0, Nat.zero_le _, rfl, rfl, rfl, Ext.refl _⟩
  case round =>
    obtain ⟨k, hk, rfl, rfl, rfl, hx⟩ := hrel
    have q0 := hx.cell p0
    have q1 := hx.cell p1
    have q2 := hx.cell p2
    have q3 := hx.cell p3
    have q4 := hx.cell p4
    have y0 := cell_lt q0
    by_cases hlt : k < h.entries.length
    · have k1 : (k : Int) < (h.entries.length : Int) := by omega
      obtain ⟨eb, eo, rfl, c0, c1, c2, c3, g0, g1, g2, g3⟩ := SliceAt.get (hE.out.ext (x1.trans hx)) hlt
      rw [← entAt_get hlt] at c0 c1 c2 c3 g0 g1 g2 g3
      have z2 := cell_lt c0
      by_cases ha : (entAt h k).agent = q
      · have ha' : ((entAt h k).agent != (q : Int)) = false := by simpa using ha
        have hl1 : leastTo h q (k + 1) = leastTo h q k + (entSpan h q k).1 := by rw [leastTo, if_pos ha]
        have hm1 : mostTo h q (k + 1) = mostTo h q k + (entSpan h q k).2 := by rw [mostTo, if_pos ha]
        obtain ⟨hs1, -, hs3, hs4, hs5⟩ := HSP.out k hlt
        have hs6 : ((entAt h k).far != -1) = true → entSpan h q k = ((entAt h k).far, (entAt h k).far) := fun e => HTO.out k hlt ha e
        have hlk := HLIN.out k hk
        have hw := hworth (q : Int) (entAt h k).day (entAt h k).near hq64 g1 g2
        have e1 : numErr h [⟨q, agtsM h, 4⟩, ⟨(entAt h k).day, daysM h, 4⟩, ⟨(entAt h k).near, 99, 7⟩] (fun r => payM (agtAt h q) (entAt h k).near (r.getD (entAt h k).day.toNat 0)) = 0 := hs1
        have e2 : numSpan h [⟨q, agtsM h, 4⟩, ⟨(entAt h k).day, daysM h, 4⟩, ⟨(entAt h k).near, 99, 7⟩] (fun r => payM (agtAt h q) (entAt h k).near (r.getD (entAt h k).day.toNat 0)) = entSpan h q k := rfl
        rw [e1, e2] at hw
        clear e1 e2 hs1
        generalize entSpan h q k = es at *
        obtain ⟨v1, v2⟩ := es
        simp only at hl1 hm1 hs3 hs4 hs5
        unfold spanV at hw
        have wl : IntKind.i64.wrap (leastTo h q k + v1) = leastTo h q k + v1 := IntWalk.i64_in _ (by omega)
        have wm : IntKind.i64.wrap (mostTo h q k + v2) = mostTo h q k + v2 := IntWalk.i64_in _ (by omega)
        have HL1 := Lib.hid hl1
        have HM1 := Lib.hid hm1
        have HS6 := Lib.hid hs6
        generalize (entAt h k).far = far at *
        clear ha hl1 hm1 hs6 hlk hs3 hs4 hs5
        go_wp2_with fail
        refine (hw _ ((x1.trans hx).alloc _)).mono ?_
        rintro e w3 ⟨rfl, hx3⟩
        have b3 : w3.cell? ⟨wr.heap.size, 3, none⟩ = some (.int .i64 far) := hx3.cell (by simp [go_sem])
        have xr : Ext wr w3 := hx3.of_alloc
        have z3 := cell_lt b3
        clear hw hx3 q0 q1 q2 q3 q4 y0 c0 c1 c2 c3 z2
        obtain ⟨bX, hbX⟩ : ∃ b, b = wr.heap.size := ⟨_, rfl⟩
        rw [← hbX] at b3 z3 ⊢
        clear hbX
        go_wp2_with fail
        obtain ⟨W3, hW3⟩ : ∃ W3, W3 = w3.alloc (.cells #[.int .i64 v1, .int .i64 v2] 35) := ⟨_, rfl⟩
        have x3 : Ext wr W3 := by rw [hW3]; exact xr.alloc _
        have f0 : W3.cell? ⟨w3.heap.size, 0, none⟩ = some (.int .i64 v1) := by rw [hW3]; simp [go_sem]
        have f1 : W3.cell? ⟨w3.heap.size, 1, none⟩ = some (.int .i64 v2) := by rw [hW3]; simp [go_sem]
        have f3 : W3.cell? ⟨bX, 3, none⟩ = some (.int .i64 far) := by rw [hW3]; exact (ext_alloc _ _).cell b3
        rw [← hW3]
        clear hW3
        obtain ⟨bW, hbW⟩ : ∃ b, b = w3.heap.size := ⟨_, rfl⟩
        rw [← hbW] at f0 f1 ⊢
        clear hbW b3 z3 xr
        have hx4 := hx.trans x3
        by_cases ht : far = -1
        · have ht' : (far != -1) = false := by simpa using ht
          clear ht HS6
          apply Facts.wp_region (.val _ :: .val _ :: .val _ :: .val _ :: .val _ :: .val _ :: .val _ :: .val _ :: .val _ :: .val _ :: .val _ :: .val _ :: .val _ :: .val _ :: .val _ :: .val _ :: []) (by kernel_rfl) (by kernel_rfl) trivial ?main
          case main =>
            iterate 16 (refine ⟨fun w1 hx hh => ?_, ?_⟩; focus (clear hh; have j0 := hx.cell f3; go_simp; first | exact ⟨Ext.refl _, rfl⟩ | exact Ext.refl _))
            intro w5 hx5 hh
            clear hh
            replace f0 := hx5.cell f0
            replace f1 := hx5.cell f1
            replace hx4 := hx4.trans hx5
            clear hx5 f3
            go_simp
            go_wp2_with fail
            apply Facts.wp_region (.val _ :: .val _ :: .val _ :: .val _ :: .val _ :: .val _ :: .val _ :: .val _ :: .val _ :: .val _ :: []) (by kernel_rfl) (by kernel_rfl) trivial ?main
            case main =>
              iterate 10 (refine ⟨fun w1 hx hh => ?_, ?_⟩; focus (clear hh; have j0 := hx.cell f0; have j1 := hx.cell f1; go_simp; first | exact ⟨Ext.refl _, rfl⟩ | exact Ext.refl _))
              intro w6 hx6 hh
              clear hh
              replace hx4 := hx4.trans hx6
              go_simp
              go_wp2
              go_roundw
              case rel => exact ⟨k + 1, by omega, by go_num, by rw [HL1.out], by rw [HM1.out], hx4⟩
              case measure => simp [intOf]; omega
        · have ht' : (far != -1) = true := by simpa using ht
          obtain ⟨hv1, hv2⟩ := Prod.mk.inj (HS6.out ht')
          subst hv1 hv2
          clear ht HS6
          apply Facts.wp_region (.val _ :: .val _ :: .val _ :: .val _ :: .val _ :: .val _ :: .val _ :: .val _ :: .val _ :: .val _ :: .val _ :: .val _ :: .val _ :: .val _ :: .val _ :: .val _ :: []) (by kernel_rfl) (by kernel_rfl) trivial ?main
          case main =>
            iterate 7 (refine ⟨fun w1 hx hh => ?_, ?_⟩; focus (clear hh; have j0 := hx.cell f3; go_simp; first | exact ⟨Ext.refl _, rfl⟩ | exact Ext.refl _))
            iterate 5 (refine ⟨fun w1 hx hh => ?_, ?_⟩; focus (clear hh; have j0 := hx.cell f3; have j1 := hx.cell f0; have j2 := hx.cell f1; go_simp; first | exact ⟨Ext.refl _, rfl⟩ | exact Ext.refl _))
            refine ⟨fun w1 hx hh => ?_, ?_⟩
            · clear hh
              go_simp
              refine (lawSpan_any _ _ _).mono ?_
              rintro e w' ⟨rfl, hx2⟩
              exact ⟨_, rfl, hx2, rfl⟩
            iterate 1 (refine ⟨fun w1 hx hh => ?_, ?_⟩; focus (clear hh; have j0 := equalInE_span; go_simp; first | exact ⟨Ext.refl _, rfl⟩ | exact Ext.refl _))
            iterate 2 (refine ⟨fun w1 hx hh => ?_, ?_⟩; focus (clear hh; skip; go_simp; first | exact ⟨Ext.refl _, rfl⟩ | exact Ext.refl _))
            intro w5 hx5 hh
            clear hh
            replace f0 := hx5.cell f0
            replace f1 := hx5.cell f1
            replace hx4 := hx4.trans hx5
            clear hx5 f3
            go_simp
            go_wp2_with fail
            apply Facts.wp_region (.val _ :: .val _ :: .val _ :: .val _ :: .val _ :: .val _ :: .val _ :: .val _ :: .val _ :: .val _ :: []) (by kernel_rfl) (by kernel_rfl) trivial ?main
            case main =>
              iterate 10 (refine ⟨fun w1 hx hh => ?_, ?_⟩; focus (clear hh; have j0 := hx.cell f0; have j1 := hx.cell f1; go_simp; first | exact ⟨Ext.refl _, rfl⟩ | exact Ext.refl _))
              intro w6 hx6 hh
              clear hh
              replace hx4 := hx4.trans hx6
              go_simp
              go_wp2
              go_roundw
              case rel => exact ⟨k + 1, by omega, by go_num, by rw [HL1.out], by rw [HM1.out], hx4⟩
              case measure => simp [intOf]; omega
      · have ha' : ((entAt h k).agent != (q : Int)) = true := by simpa using ha
        have hl1 : leastTo h q (k + 1) = leastTo h q k := by rw [leastTo, if_neg ha]
        have hm1 : mostTo h q (k + 1) = mostTo h q k := by rw [mostTo, if_neg ha]
        have HL1 := Lib.hid hl1
        have HM1 := Lib.hid hm1
        clear ha hl1 hm1
        go_wp2
        go_roundw
        case rel => exact ⟨k + 1, by omega, by go_num, by rw [HL1.out], by rw [HM1.out], hx.alloc _⟩
        case measure => simp [intOf]; omega
    · obtain rfl : k = h.entries.length := by omega
      have r0 := hx.cell d0
      have r1 := hx.cell d1
      have k1 := HP1.out
      have k2 := HP2.out
      have k3 := HP3.out
      have x2 := x1.trans hx
      clear hlt
      go_wp2_with fail
      (refine (awakeR_any _).mono ?_; rintro e w9 ⟨rfl, hx9⟩; have x9 := Ext.trans x2 hx9; clear hx9)
      go_wp2
      go_ret
      exact ⟨rfl, x9⟩
end Go.Proofs.Ytdadffmagfknoaa

namespace Go.Proofs.Ytdadffmagfknoaa
set_option linter.unusedSimpArgs false
set_option linter.unusedVariables false
open Go.ChangeShapes Go.WideShapes Go.RowKit

theorem add_none (b o n : Nat) : (⟨b, o, none⟩ : Addr).add n = ⟨b, o + n, none⟩ := by
  unfold Addr.add
  by_cases h : n = 0
  · subst h; simp
  · simp [h]
theorem three_of {cs : List Value} (h : cs.length = 3) : ∃ a b c, cs = [a, b, c] := by
  match cs, h with
  | [a, b, c], _ => exact ⟨a, b, c, rfl⟩
theorem two_of {cs : List Value} (h : cs.length = 2) : ∃ a b, cs = [a, b] := by
  match cs, h with
  | [a, b], _ => exact ⟨a, b, rfl⟩
theorem spot_none {w : World} {a : Addr} {v : Value} (h : w.cell? a = some v) : a.spot = none := by
  unfold World.cell? at h
  cases hs : a.spot with
  | none => rfl
  | some x => split at h <;> simp [hs] at h
section
variable {H : Type} {enc : TypeId × Value → H} {w : World} {base : Nat} {sp : Nat → Bool} {held : Bool}
theorem slice_of {α : Type} [Inhabited α] {sz : Nat} {R : World → Nat → Nat → α → Prop} {t e : TypeId} (ht : Try.prog.underlying t = some (.slice e)) (hc : Try.prog.cellsOf e = sz) (hsz : 0 < sz)
    (hel : ∀ n cs y, DataW.trod enc Try.prog w base sp held n e cs = some y → ∃ x : α, ∀ b o, (∀ j, j < sz → w.cell? ⟨b, o + j, none⟩ = cs[j]?) → R w b o x)
    {fuel : Nat} {v : Value} {x : DataW H × List MemPlace} (h : DataW.trod enc Try.prog w base sp held fuel t [v] = some x) : ∃ l : List α, SliceAt sz R w v l := by
  rcases Deep.open_slice ht h with ⟨h1, _⟩ | ⟨a, len, cap, m, n, D, Pl, hcs, _, hl, hm, hmm, _, hx⟩
  · obtain rfl : v = .slice none 0 0 := by simpa using h1
    exact ⟨[], SliceAt.nil⟩
  · obtain rfl : v = .slice (some a) len cap := by simpa using hcs
    have hlm : len ≤ m := by rw [hmm]; split <;> omega
    rw [hc] at hx
    obtain ⟨f, hf⟩ := Deep.choose_lt (α := α) (n := len) (p := fun i x => ∃ cs', w.cells? base (a.add (i * sz)) sz = some cs' ∧ ∀ b o, (∀ j, j < sz → w.cell? ⟨b, o + j, none⟩ = cs'[j]?) → R w b o x) (fun i hi => by
      obtain ⟨cs', h1, h2⟩ := hx i (by omega)
      obtain ⟨x, hR⟩ := hel _ _ _ h2
      exact ⟨x, cs', h1, hR⟩)
    refine ⟨(List.range len).map f, some a, cap, by simp, by simpa using hl, by simpa [maxLen] using hm, fun i hi => ?_⟩
    have hi' : i < len := by simpa using hi
    obtain ⟨b, o, s⟩ := a
    have hs : s = none := by
      obtain ⟨cs0, h1, _⟩ := hf 0 (by omega)
      obtain ⟨_, hl0, h2⟩ := World.cells?_some h1
      have h3 := h2 0 hsz
      rw [Nat.zero_mul] at h3
      have h4 : w.cell? ⟨b, o, s⟩ = cs0[0]? := by simpa [Addr.add] using h3
      rw [List.getElem?_eq_getElem (by omega)] at h4
      exact spot_none h4
    subst hs
    obtain ⟨cs', h1, hR⟩ := hf i hi'
    refine ⟨b, o, rfl, ?_⟩
    have e1 : ((List.range len).map f)[i] = f i := by simp
    rw [e1]
    refine hR b (o + i * sz) fun j hj => ?_
    have h2 := (World.cells?_some h1).2.2 j hj
    rw [add_none, add_none] at h2
    exact h2
instance : Inhabited Letter := ⟨⟨0, 0, true⟩⟩
instance : Inhabited Alphabet := ⟨⟨⟨#[]⟩, []⟩⟩
instance : Inhabited Spelling := ⟨⟨0, ⟨#[]⟩⟩⟩
theorem cellsInt : Try.prog.cellsOf 3 = 1 := by kernel_rfl
theorem cellsU8 : Try.prog.cellsOf 5 = 1 := by kernel_rfl
theorem cellsBool : Try.prog.cellsOf 4 = 1 := by kernel_rfl
theorem cellsString : Try.prog.cellsOf 9 = 1 := by kernel_rfl
theorem wf_i64 {n : Int} (h : (Lit.int .i64 n).wf = true) : I64 n := by
  simpa [Lit.wf, IntKind.min, IntKind.max, IntKind.signed, IntKind.bits, I64] using h
theorem wf_u8 {n : Int} (h : (Lit.int .u8 n).wf = true) : U8 n := by
  simpa [Lit.wf, IntKind.min, IntKind.max, IntKind.signed, IntKind.bits, U8] using h
/-- a place that was there is as it was -/
theorem same_of_ext {W W' : World} (h : Ext W W') {p : MemPlace} (hp : p.block < W.heap.size) : W.sameAt W' p := by
  cases p with
  | cell b off =>
    show W'.cell? ⟨b, off, none⟩ = W.cell? ⟨b, off, none⟩
    exact Below.cell (p := ⟨b, off, none⟩) h hp
  | map b =>
    show W'.heap[b]? = W.heap[b]?
    exact Below.block h b hp
end
end Go.Proofs.Ytdadffmagfknoaa

namespace Go.Proofs.Ytdadffmagfknoaa
set_option linter.unusedSimpArgs false
set_option linter.unusedVariables false
open Go.ChangeShapes Go.WideShapes Go.RowKit
section
variable {H : Type} {enc : TypeId × Value → H} {w : World} {base : Nat} {sp : Nat → Bool} {held : Bool}
theorem four_of {cs : List Value} (h : cs.length = 4) : ∃ a b c d, cs = [a, b, c, d] := by
  match cs, h with
  | [a, b, c, d], _ => exact ⟨a, b, c, d, rfl⟩
theorem fiveR_of {cs : List Value} (h : cs.length = 5) : ∃ a b c d e, cs = [a, b, c, d, e] := by
  match cs, h with
  | [a, b, c, d, e], _ => exact ⟨a, b, c, d, e, rfl⟩
theorem trod_struct5 {P : Program} {t : TypeId} {f0 f1 f2 f3 f4 : Field} {fuel : Nat} {cs : List Value} {x : DataW H × List MemPlace} (ht : P.underlying t = some (.struct #[f0, f1, f2, f3, f4])) (h : DataW.trod enc P w base sp held fuel t cs = some x) :
    ∃ y0 y1 y2 y3 y4 n, cs.length = P.cellsOf t ∧ DataW.trod enc P w base sp held n f0.type ((cs.drop f0.offset).take (P.cellsOf f0.type)) = some y0 ∧
      DataW.trod enc P w base sp held n f1.type ((cs.drop f1.offset).take (P.cellsOf f1.type)) = some y1 ∧ DataW.trod enc P w base sp held n f2.type ((cs.drop f2.offset).take (P.cellsOf f2.type)) = some y2 ∧
      DataW.trod enc P w base sp held n f3.type ((cs.drop f3.offset).take (P.cellsOf f3.type)) = some y3 ∧ DataW.trod enc P w base sp held n f4.type ((cs.drop f4.offset).take (P.cellsOf f4.type)) = some y4 := by
  obtain ⟨xs, n, _, rfl, hl, hlen, hf⟩ := DataW.trod_struct ht h
  match xs, hlen with
  | [y0, y1, y2, y3, y4], _ => exact ⟨y0, y1, y2, y3, y4, n, hl, by simpa using hf 0 f0 rfl, by simpa using hf 1 f1 rfl, by simpa using hf 2 f2 rfl, by simpa using hf 3 f3 rfl, by simpa using hf 4 f4 rfl⟩
instance : Inhabited Agt := ⟨⟨⟨#[]⟩, 0, 0⟩⟩
instance : Inhabited Ent := ⟨⟨0, 0, 0, 0⟩⟩
theorem cellsSpan : Try.prog.cellsOf 35 = 2 := by kernel_rfl
theorem cellsAgent : Try.prog.cellsOf 72 = 3 := by kernel_rfl
theorem cellsEntry : Try.prog.cellsOf 58 = 4 := by kernel_rfl
theorem cellsHouse : Try.prog.cellsOf 26 = 5 := by kernel_rfl
theorem cellsSpans : Try.prog.cellsOf 22 = 1 := by kernel_rfl
theorem cellsAgents : Try.prog.cellsOf 23 = 1 := by kernel_rfl
theorem cellsEntries : Try.prog.cellsOf 24 = 1 := by kernel_rfl
theorem span_of {n : Nat} {cs : List Value} {y : DataW H × List MemPlace} (h : DataW.trod enc Try.prog w base sp held n 35 cs = some y) :
    ∃ x : Int × Int, cs = [.int .i64 x.1, .int .i64 x.2] ∧ I64 x.1 ∧ I64 x.2 := by
  obtain ⟨y0, y1, m, -, hl, h0, h1⟩ := trod_struct2 Try.underlying35 h
  rw [cellsSpan] at hl
  obtain ⟨c0, c1, rfl⟩ := two_of hl
  simp only [cellsInt, List.drop_zero, List.drop_succ_cons, List.take_succ_cons, List.take_zero] at h0 h1
  obtain ⟨a, ea, -, wa⟩ := DataW.trod_int Try.underlying3 h0
  obtain ⟨b, eb, -, wb⟩ := DataW.trod_int Try.underlying3 h1
  simp only [List.cons.injEq, and_true] at ea eb
  subst ea eb
  exact ⟨(a, b), rfl, wf_i64 wa, wf_i64 wb⟩
theorem spans_of {fuel : Nat} {v : Value} {x : DataW H × List MemPlace} (h : DataW.trod enc Try.prog w base sp held fuel 22 [v] = some x) : ∃ l, SpansAt w v l :=
  slice_of Try.underlying22 cellsSpan (by decide) (fun n cs y hy => by
    obtain ⟨x, rfl, h1, h2⟩ := span_of hy
    refine ⟨x, fun b o hc => ⟨?_, ?_, h1, h2⟩⟩
    · exact hc 0 (by decide)
    · exact hc 1 (by decide)) h
theorem agent_of {n : Nat} {cs : List Value} {y : DataW H × List MemPlace} (h : DataW.trod enc Try.prog w base sp held n 72 cs = some y) :
    ∃ x : Agt, cs = [.string x.name, .int .i64 x.fee, .int .i64 x.round] ∧ x.name.size ≤ 9223372036854775807 ∧ I64 x.fee ∧ I64 x.round := by
  obtain ⟨y0, y1, y2, m, -, hl, h0, h1, h2⟩ := Deep.trod_struct3 Try.underlying72 h
  rw [cellsAgent] at hl
  obtain ⟨c0, c1, c2, rfl⟩ := three_of hl
  simp only [cellsString, cellsInt, List.drop_zero, List.drop_succ_cons, List.take_succ_cons, List.take_zero] at h0 h1 h2
  obtain ⟨s, es, -, hs⟩ := DataW.trod_string Try.underlying9 h0
  obtain ⟨a, ea, -, wa⟩ := DataW.trod_int Try.underlying3 h1
  obtain ⟨b, eb, -, wb⟩ := DataW.trod_int Try.underlying3 h2
  simp only [List.cons.injEq, and_true] at es ea eb
  subst es ea eb
  exact ⟨⟨s, a, b⟩, rfl, by simpa [maxLen] using hs, wf_i64 wa, wf_i64 wb⟩
theorem agents_of {fuel : Nat} {v : Value} {x : DataW H × List MemPlace} (h : DataW.trod enc Try.prog w base sp held fuel 23 [v] = some x) : ∃ l, AgentsAt w v l :=
  slice_of Try.underlying23 cellsAgent (by decide) (fun n cs y hy => by
    obtain ⟨x, rfl, h1, h2, h3⟩ := agent_of hy
    refine ⟨x, fun b o hc => ⟨?_, ?_, ?_, h1, h2, h3⟩⟩
    · exact hc 0 (by decide)
    · exact hc 1 (by decide)
    · exact hc 2 (by decide)) h
theorem entryL_of {n : Nat} {cs : List Value} {y : DataW H × List MemPlace} (h : DataW.trod enc Try.prog w base sp held n 58 cs = some y) :
    ∃ x : Ent, cs = [.int .i64 x.agent, .int .i64 x.day, .int .i64 x.near, .int .i64 x.far] ∧ I64 x.agent ∧ I64 x.day ∧ I64 x.near ∧ I64 x.far := by
  obtain ⟨y0, y1, y2, y3, m, -, hl, h0, h1, h2, h3⟩ := Joins.trod_struct4 Try.underlying58 h
  rw [cellsEntry] at hl
  obtain ⟨c0, c1, c2, c3, rfl⟩ := four_of hl
  simp only [cellsInt, List.drop_zero, List.drop_succ_cons, List.take_succ_cons, List.take_zero] at h0 h1 h2 h3
  obtain ⟨a, ea, -, wa⟩ := DataW.trod_int Try.underlying3 h0
  obtain ⟨b, eb, -, wb⟩ := DataW.trod_int Try.underlying3 h1
  obtain ⟨c, ec, -, wc⟩ := DataW.trod_int Try.underlying3 h2
  obtain ⟨d, ed, -, wd⟩ := DataW.trod_int Try.underlying3 h3
  simp only [List.cons.injEq, and_true] at ea eb ec ed
  subst ea eb ec ed
  exact ⟨⟨a, b, c, d⟩, rfl, wf_i64 wa, wf_i64 wb, wf_i64 wc, wf_i64 wd⟩
theorem entries_of {fuel : Nat} {v : Value} {x : DataW H × List MemPlace} (h : DataW.trod enc Try.prog w base sp held fuel 24 [v] = some x) : ∃ l, EntriesAt w v l :=
  slice_of Try.underlying24 cellsEntry (by decide) (fun n cs y hy => by
    obtain ⟨x, rfl, h1, h2, h3, h4⟩ := entryL_of hy
    refine ⟨x, fun b o hc => ⟨?_, ?_, ?_, ?_, h1, h2, h3, h4⟩⟩
    · exact hc 0 (by decide)
    · exact hc 1 (by decide)
    · exact hc 2 (by decide)
    · exact hc 3 (by decide)) h
set_option maxRecDepth 100000 in
/-- an entry, handed in -/
theorem entry_of {r : Reach} {b0 : Nat} {v : Value} {d : DataW H} {ps : List MemPlace} (hval : Value.okWide Try.prog w r b0 58 v) (hd : DataW.Trod enc Try.prog w base sp held 58 v d ps) : ∃ x, EntV v x := by
  simp only [Value.okWide, Try.underlying58] at hval
  obtain ⟨cs, rfl, -, -⟩ := hval
  obtain ⟨fuel, h⟩ := hd
  simp only [Value.cells] at h
  obtain ⟨x, e, hx⟩ := entryL_of h
  obtain ⟨cs⟩ := cs
  simp only at e
  subst e
  exact ⟨x, rfl, hx⟩
set_option maxRecDepth 100000 in
/-- A HOUSE -/
theorem house_of {r : Reach} {b0 : Nat} {v : Value} {d : DataW H} {ps : List MemPlace} (hval : Value.okWide Try.prog w r b0 26 v) (hd : DataW.Trod enc Try.prog w base sp held 26 v d ps) : ∃ h, HouseAt w v h := by
  simp only [Value.okWide, Try.underlying26] at hval
  obtain ⟨cs, rfl, -, -⟩ := hval
  obtain ⟨fuel, h⟩ := hd
  simp only [Value.cells] at h
  obtain ⟨y0, y1, y2, y3, y4, m, hl, h0, h1, h2, h3, h4⟩ := trod_struct5 Try.underlying26 h
  rw [cellsHouse] at hl
  obtain ⟨cs⟩ := cs
  obtain ⟨c0, c1, c2, c3, c4, rfl⟩ := fiveR_of hl
  simp only [cellsInt, cellsSpans, cellsAgents, cellsEntries, List.drop_zero, List.drop_succ_cons, List.take_succ_cons, List.take_zero] at h0 h1 h2 h3 h4
  obtain ⟨a, ea, -, wa⟩ := DataW.trod_int Try.underlying3 h0
  obtain ⟨rl, hrl⟩ := spans_of h1
  obtain ⟨b, eb, -, wb⟩ := DataW.trod_int Try.underlying3 h2
  obtain ⟨al, hal⟩ := agents_of h3
  obtain ⟨el, hel⟩ := entries_of h4
  simp only [List.cons.injEq, and_true] at ea eb
  subst ea eb
  obtain ⟨ra, rc, rfl, -⟩ := hrl.shape
  obtain ⟨aa, ac, rfl, -⟩ := hal.shape
  obtain ⟨xa, xc, rfl, -⟩ := hel.shape
  exact ⟨⟨a, rl, b, al, el⟩, ra, rc, aa, ac, xa, xc, rfl, wf_i64 wa, wf_i64 wb, hrl, hal, hel⟩
end
end Go.Proofs.Ytdadffmagfknoaa

namespace Go.Proofs.Ytdadffmagfknoaa
set_option linter.unusedSimpArgs false
set_option linter.unusedVariables false
open Go.ChangeShapes Go.WideShapes Go.RowKit
set_option maxRecDepth 100000
section
variable {H : Type} {enc : TypeId × Value → H} {w : World} {base : Nat} {sp : Nat → Bool} {held : Bool}
theorem byteR_of {r : Reach} {b0 : Nat} {v : Value} {d : DataW H} {ps : List MemPlace} (hval : Value.okWide Try.prog w r b0 5 v) (hd : DataW.Trod enc Try.prog w base sp held 5 v d ps) : ∃ x : Nat, v = .int .u8 x ∧ x ≤ 255 := by
  obtain ⟨a, rfl, -, -, wa⟩ := Go.ChangeShapes.open_int Try.underlying5 hval hd
  have ha := wf_u8 wa
  unfold U8 at ha
  exact ⟨a.toNat, by rw [show ((a.toNat : Nat) : Int) = a from by omega], by omega⟩
theorem intR_of {r : Reach} {b0 : Nat} {v : Value} {d : DataW H} {ps : List MemPlace} (hval : Value.okWide Try.prog w r b0 3 v) (hd : DataW.Trod enc Try.prog w base sp held 3 v d ps) : ∃ x : Int, v = .int .i64 x ∧ I64 x := by
  obtain ⟨a, rfl, -, -, wa⟩ := Go.ChangeShapes.open_int Try.underlying3 hval hd
  exact ⟨a, rfl, wf_i64 wa⟩
end
end Go.Proofs.Ytdadffmagfknoaa

namespace Go.Proofs.Ytdadffmagfknoaa
set_option linter.unusedSimpArgs false
set_option linter.unusedVariables false
open Go.RowKit
set_option linter.unusedVariables false

theorem payM_mono (a : Agt) (near : Int) {x y : Int} (hxy : x ≤ y) : payM a near x ≤ payM a near y := by
  have h : max (near - a.fee) 0 * x ≤ max (near - a.fee) 0 * y := Int.mul_le_mul_of_nonneg_left hxy (by omega)
  unfold payM
  generalize max (near - a.fee) 0 * x = p at *
  generalize max (near - a.fee) 0 * y = q at *
  split
  · omega
  · split <;> omega
def dayLo (h : House) (d : Int) : Int := (numM (fun r => r.getD d.toNat 0) (truL h (outB 0))).1.1
theorem dayLo_is {h : House} (hne : truL h (outB 0) ≠ []) (d : Int) : (∀ r ∈ truL h (outB 0), dayLo h d ≤ r.getD d.toNat 0) ∧ ∃ r ∈ truL h (outB 0), r.getD d.toNat 0 = dayLo h d := by
  obtain ⟨-, h2⟩ := numM_is (fun r => r.getD d.toNat 0) hne
  exact ⟨fun r hr => (h2.all r hr).1, h2.least⟩
theorem send_args {h : House} (hv : raErr h = 0) {d far : Int} (hd : 0 ≤ d ∧ d < h.days) (hf : 0 ≤ far ∧ far ≤ 198) : ∀ a ∈ [(⟨d, daysM h, 4⟩ : ArgR), ⟨far, 198, 7⟩], inM a.n 0 a.most = true := by
  have hV := validH_of hv
  intro a ha
  simp only [List.mem_cons, List.not_mem_nil, or_false] at ha
  rcases ha with rfl | rfl
  · show inM d 0 (daysM h) = true
    rw [daysM_is hV]; simp [inM]; omega
  · show inM far 0 198 = true
    simp [inM]; omega
theorem send_is {h : House} (hv : raErr h = 0) (hne : truL h (outB 0) ≠ []) {d far a n e : Int} (hd : 0 ≤ d ∧ d < h.days) (hf : 0 ≤ far ∧ far ≤ 198) (hs : SendR h [⟨d, daysM h, 4⟩, ⟨far, 198, 7⟩] d far a n e) : SendIs h (dayLo h d) far a n e := by
  have ho := openR_zero hv _ (send_args hv hd hf)
  obtain ⟨h1, -⟩ := numM_is (fun r => r.getD d.toNat 0) hne
  rcases hs with ⟨g, -⟩ | ⟨-, g, -⟩ | ⟨-, -, g⟩
  · exact absurd ho g
  · exact absurd h1 g
  · exact g
theorem send_bad {h : House} (hb : someM h = false) {a n e : Int} (hs : SendR h [⟨0, daysM h, 4⟩, ⟨0, 198, 7⟩] 0 0 a n e) : e ≠ 0 := by
  rcases hs with ⟨g, -, -, g4⟩ | ⟨-, g, -, -, g4⟩ | ⟨g, g2, -⟩
  · rw [g4]; exact g
  · rw [g4]; exact g
  · have hv : raErr h = 0 := by
      refine Decidable.byContradiction fun hv => ?_
      rw [openR_bad hv] at g
      exact hv g
    have hne : truL h (outB 0) ≠ [] := fun e => by rw [e] at g2; cases g2
    rw [someM_iff.2 ⟨hv, hne⟩] at hb
    cases hb
theorem worth_less {h : House} (hv : raErr h = 0) (hne : truL h (outB 0) ≠ []) {who day near far : Int} (h1 : 0 ≤ who ∧ who < h.agents.length) (h2 : 0 ≤ day ∧ day < h.days) (h3 : 0 ≤ near ∧ near ≤ 99) (hl : payM (agtAt h who) near (dayLo h day) < far) :
    (numSpan h (worthArgs h who day near) (worthF h who day near)).1 < far := by
  obtain ⟨-, hn⟩ := worth_ok hv hne h1 h2 h3
  obtain ⟨-, r, hr, e⟩ := dayLo_is hne day
  have := (hn.all r hr).1
  unfold worthF at this
  rw [e] at this
  exact Int.lt_of_le_of_lt this hl
theorem pays_enough {h : House} (hne : truL h (outB 0) ≠ []) {who day near far : Int} (hl : far ≤ payM (agtAt h who) near (dayLo h day)) {r : List Int} (hr : r ∈ truL h (outB 0)) : far ≤ payM (agtAt h who) near (r.getD day.toNat 0) := by
  have h1 := (dayLo_is hne day).1 r hr
  have := payM_mono (agtAt h who) near h1
  omega
end Go.Proofs.Ytdadffmagfknoaa

namespace Go.Proofs.Ytdadffmagfknoaa
set_option linter.unusedSimpArgs false
set_option linter.unusedVariables false
open Go.RowKit
set_option linter.unusedVariables false
set_option maxRecDepth 100000

set_option maxHeartbeats 16000000 in
theorem sent8_any (hv : Value) (h : House) (c0 c1 y : Nat) (hc0 : c0 < 256) (hc1 : c1 < 256) (hy : y < 65536) (w : World) (hh : HouseAt w hv h) :
    Calls Try.prog 11 #[hv, .agg #[.int .u8 c0, .int .u8 c1], .int .u16 y] w fun e w' => e = .returned (.bool true) ∧ Ext w w' := by
  have hsome := fun w1 (hx : Ext w w1) => some8_any hv h w1 (hh.ext hx)
  have hsend := fun d f hd hf w1 (hx : Ext w w1) => sendPub_any hv h d f hd hf w1 (hh.ext hx)
  have hworth := fun a d n ha hd hn w1 (hx : Ext w w1) => worthPub_any hv h a d n ha hd hn w1 (hh.ext hx)
  have htru := fun hV w1 (hx : Ext w w1) => refTruths_any hv (.slice none 0 0) h hV [] w1 (hh.ext hx) SliceAt.nil
  rw [outL_nil] at htru
  obtain ⟨ra, rc, aa, ac, ea, ec, rfl, hdi, hsi, -, hagt, -⟩ := hh
  have hA := Lib.hid hagt
  clear hagt
  go_enter Try.func11, Try.ntmps11
  go_wp2_with fail
  refine (hsome _ ((ext_alloc _ _).alloc _)).mono ?_
  rintro e w1 ⟨rfl, hx⟩
  have x1 : Ext w w1 := ((ext_alloc _ _).alloc _).trans hx
  have p0 : w1.cell? ⟨w.heap.size, 0, none⟩ = some (.int .i64 h.days) := hx.cell (by simp [go_sem])
  have p1 : w1.cell? ⟨w.heap.size, 1, none⟩ = some (.slice ra h.rates.length rc) := hx.cell (by simp [go_sem])
  have p2 : w1.cell? ⟨w.heap.size, 2, none⟩ = some (.int .i64 h.step) := hx.cell (by simp [go_sem])
  have p3 : w1.cell? ⟨w.heap.size, 3, none⟩ = some (.slice aa h.agents.length ac) := hx.cell (by simp [go_sem])
  have p4 : w1.cell? ⟨w.heap.size, 4, none⟩ = some (.slice ea h.entries.length ec) := hx.cell (by simp [go_sem])
  have r0 : w1.cell? ⟨w.heap.size + 1, 0, none⟩ = some (.int .u8 c0) := hx.cell (by simp [go_sem])
  have r1 : w1.cell? ⟨w.heap.size + 1, 1, none⟩ = some (.int .u8 c1) := hx.cell (by simp [go_sem])
  have z0 := cell_lt p0
  have z1 := cell_lt r0
  clear hx hsome
  cases hs : someM h
  · have hp0 := hsend 0 0 (by unfold I64; omega) (by unfold I64; omega)
    clear hsend hworth htru
    have HB : Hid (∀ a n e : Int, SendR h [⟨0, daysM h, 4⟩, ⟨0, 198, 7⟩] 0 0 a n e → e ≠ 0) := Lib.hid fun a n e hr => send_bad hs hr
    clear hs
    go_wp2_with fail
    refine (hp0 _ x1).mono ?_
    rintro e w2 ⟨sa, sn, se, rfl, hr, hx2⟩
    have x2 := x1.trans hx2
    have hne := HB.out _ _ _ hr
    have k : (se != 0) = true := by simpa using hne
    clear hx2 hp0 hr hne
    go_wp2_with fail
    (refine (awakeR_any _).mono ?_; rintro e w9 ⟨rfl, hx9⟩; have x9 := Ext.trans x2 hx9; clear hx9)
    go_wp2
    go_ret
    exact ⟨rfl, x9⟩
  obtain ⟨hv, hne⟩ := someM_iff.1 hs
  have hV := validH_of hv
  have hag3 := hV.agents
  have hdays := hV.days
  have hgood : ∀ q ∈ truL h (outB 0), q.length = h.days.toNat ∧ ∀ x ∈ q, 1 ≤ x ∧ x ≤ 20 := fun q hq => by
    have h1 := levels_mem hV (Nat.le_refl _)
    rw [← ratesL_levels] at h1
    exact h1 q (truL_sub hV hq)
  have hsb := fun (d far a n e : Int) => send_is hv hne (d := d) (far := far) (a := a) (n := n) (e := e)
  have hwl := fun (who day near far : Int) => worth_less hv hne (who := who) (day := day) (near := near) (far := far)
  have hwo := fun (who day near : Int) h1 h2 h3 => (worth_ok hv hne (who := who) (day := day) (near := near) h1 h2 h3).1
  have hpe := fun (who day near far : Int) hl (r : List Int) => pays_enough hne (who := who) (day := day) (near := near) (far := far) hl (r := r)
  have hmany := truL_many hV (outB 0)
  have ht := htru hV
  clear htru hs
  generalize truL h (outB 0) = T at *
  obtain ⟨dn, hdn⟩ : ∃ dn : Nat, h.days = (dn : Int) := ⟨h.days.toNat, by omega⟩
  obtain ⟨n, hn⟩ : ∃ n, h.agents.length = n := ⟨_, rfl⟩
  have hposT : 0 < T.length := List.length_pos_iff.2 hne
  obtain ⟨N, hN⟩ : ∃ N, T.length = N := ⟨_, rfl⟩
  simp only [hdn, hn] at ht hsend hworth
  rw [hn] at p3 ⊢
  rw [hdn] at p0 ⊢
  rw [hn] at hag3
  rw [hdn] at hdays
  have Hn := Lib.hid hn
  have Hdn := Lib.hid hdn
  have HN := Lib.hid hN
  have HV := Lib.hid hV
  have HSB := Lib.hid hsb
  have HWL := Lib.hid hwl
  have HWO := Lib.hid hwo
  have HPE := Lib.hid hpe
  have Hgood := Lib.hid hgood
  rw [hN] at hposT hmany
  clear hn hdn hN hV hsb hwl hwo hpe hgood hne hv
  go_wp2_with fail
  refine (ht _ x1).mono ?_
  rintro e w2 ⟨u, rfl, hu, hx2⟩
  (replace p0 := Ext.cell hx2 p0; replace p1 := Ext.cell hx2 p1; replace p2 := Ext.cell hx2 p2; replace p3 := Ext.cell hx2 p3; replace p4 := Ext.cell hx2 p4; replace r0 := Ext.cell hx2 r0; replace r1 := Ext.cell hx2 r1; replace z0 := cell_lt p0; replace z1 := cell_lt r0; replace x1 := Ext.trans x1 hx2)
  obtain ⟨oa, oc, rfl, -⟩ := hu.shape
  have hq : y % N < N := Nat.mod_lt _ hposT
  have hyi : (y : Int) % (N : Int) = ((y % N : Nat) : Int) := (Int.natCast_emod y N).symm
  generalize y % N = q at *
  obtain ⟨ob, oo, rfl, s, cs, hs⟩ := SliceAt.get hu (show q < T.length by rw [HN.out]; exact hq)
  have htm : T[q]'(by rw [HN.out]; exact hq) ∈ T := List.getElem_mem _
  generalize T[q]'(by rw [HN.out]; exact hq) = t at *
  have hgt := Hgood.out t htm
  rw [HN.out, Nat.mul_one] at *
  obtain ⟨ta, tc, rfl, -⟩ := hs.shape
  have kN : ((N : Int) == 0) = false := by rw [beq_eq_false_iff_ne]; omega
  have kq : (q : Int) < (N : Int) := by omega
  have htl : t.length = dn := by rw [hgt.1, Hdn.out, Int.toNat_natCast]
  have HTM := Lib.hid htm
  have HGT := Lib.hid hgt
  clear hx2 ht htm hgt hu
  go_wp2_with fail
  -- the day and the pence
  have hd : c0 % dn < dn := Nat.mod_lt _ (by omega)
  have hdi2 : (c0 : Int) % (dn : Int) = ((c0 % dn : Nat) : Int) := (Int.natCast_emod c0 dn).symm
  have hdt : Int.tmod (c0 : Int) (dn : Int) = ((c0 % dn : Nat) : Int) := by rw [Int.tmod_eq_emod_of_nonneg (by omega), hdi2]
  have wc0 : IntKind.i64.wrap (c0 : Int) = (c0 : Int) := IntWalk.i64_in _ (by omega)
  have wc1 : IntKind.i64.wrap (c1 : Int) = (c1 : Int) := IntWalk.i64_in _ (by omega)
  generalize c0 % dn = d at *
  obtain ⟨far, hfar⟩ : ∃ far : Int, (c1 : Int) % 199 = far := ⟨_, rfl⟩
  have hfr : 0 ≤ far ∧ far ≤ 198 := by omega
  have kdn : ((dn : Int) == 0) = false := by rw [beq_eq_false_iff_ne]; omega
  have kdn2 : ¬ dn = 0 := by omega
  have hft : Int.tmod (c1 : Int) 199 = far := by rw [Int.tmod_eq_emod_of_nonneg (by omega), hfar]
  obtain ⟨tb, tO, rfl, tv, -⟩ := SliceAt.get hs (show d < t.length by rw [htl]; exact hd)
  have htd : t.getD ((d : Nat) : Int).toNat 0 = t[d]'(by rw [htl]; exact hd) := by rw [Int.toNat_natCast, List.getD_eq_getElem?_getD, List.getElem?_eq_getElem (by rw [htl]; exact hd)]; rfl
  have htg := HGT.out.2 _ (List.getElem_mem (show d < t.length by rw [htl]; exact hd))
  have hpe := fun (who near far : Int) hl => HPE.out who ((d : Nat) : Int) near far hl t HTM.out
  rw [htd] at hpe
  rw [Nat.mul_one] at tv
  generalize t[d]'(by rw [htl]; exact hd) = tr at *
  have HPE2 := Lib.hid hpe
  have HTL := Lib.hid htl
  clear hs hpe htd htl kN kq HPE
  apply Facts.wp_region (.val _ :: .val _ :: .val _ :: .val _ :: .val _ :: .val _ :: .val _ :: .val _ :: .val _ :: .val _ :: .val _ :: .val _ :: []) (by kernel_rfl) (by kernel_rfl) trivial ?main
  case main =>
    iterate 12 (refine ⟨fun w1 hx hh => ?_, ?_⟩; focus (clear hh; have j0 := hx.cell r0; have j1 := hx.cell r1; have j2 := hx.cell p0; go_simp; first | exact ⟨Ext.refl _, rfl⟩ | exact Ext.refl _))
    intro w3 hx3 hh
    clear hh
    (replace p0 := Ext.cell hx3 p0; replace p1 := Ext.cell hx3 p1; replace p2 := Ext.cell hx3 p2; replace p3 := Ext.cell hx3 p3; replace p4 := Ext.cell hx3 p4; replace r0 := Ext.cell hx3 r0; replace r1 := Ext.cell hx3 r1; replace z0 := cell_lt p0; replace z1 := cell_lt r0; replace x1 := Ext.trans x1 hx3)
    replace tv := hx3.cell tv
    clear hx3
    go_simp
    have hd64 : I64 (d : Int) := by unfold I64; omega
    have hf64 : I64 far := by unfold I64; omega
    have hsd := hsend d far hd64 hf64
    have hdd : 0 ≤ (d : Int) ∧ (d : Int) < h.days := by rw [Hdn.out]; omega
    have hSB := fun a n e hr => HSB.out d far a n e hdd hfr hr
    have HSB2 := Lib.hid hSB
    have Hdd := Lib.hid hdd
    clear hsend hSB HSB hdd
    go_wp2_with fail
    try rw [hdi2]
    try rw [hfar]
    refine (hsd _ x1).mono ?_
    rintro e w4 ⟨sa, sn, se, rfl, hr, hx4⟩
    (replace p0 := Ext.cell hx4 p0; replace p1 := Ext.cell hx4 p1; replace p2 := Ext.cell hx4 p2; replace p3 := Ext.cell hx4 p3; replace p4 := Ext.cell hx4 p4; replace r0 := Ext.cell hx4 r0; replace r1 := Ext.cell hx4 r1; replace z0 := cell_lt p0; replace z1 := cell_lt r0; replace x1 := Ext.trans x1 hx4)
    replace tv := hx4.cell tv
    have hS := HSB2.out sa sn se hr
    clear hx4 hsd hr hdi2 hfar hdt hft wc0 wc1
    rcases hS with ⟨rfl, an, nn, rfl, hsn, hnn, han, g1, g2, g3⟩ | ⟨rfl, rfl, rfl, g⟩
    · skip
      rw [← hsn] at g1
      simp only [← hsn] at g3
      have hann : an < n := by rw [← Hn.out]; exact han
      have hai : 0 ≤ (an : Int) ∧ (an : Int) < h.agents.length := by omega
      have hag1 : h.agents[an] = agtAt h (an : Int) := by unfold agtAt; rw [Int.toNat_natCast, List.getD_eq_getElem?_getD, List.getElem?_eq_getElem han]; rfl
      have hagv := HV.out.agent _ (agtAt_mem (h := h) (i := (an : Int)) hai.1 hai.2)
      have hpay := HPE2.out (an : Int) sn far g1
      obtain ⟨ab, ao, rfl, a0, a1, a2, gs, gf, gr⟩ := SliceAt.get (hA.out.ext x1) han
      rw [hag1] at a0 a1 a2 gs gf gr
      generalize agtAt h (an : Int) = ag at *
      have hin1 : inM (an : Int) 0 ((n : Int) - 1) = true := by rw [inM_iff]; omega
      have hin2 : inM sn 0 99 = true := by rw [inM_iff]; omega
      have wn : IntKind.i64.wrap ((n : Int) - 1) = (n : Int) - 1 := IntWalk.i64_in _ (by omega)
      have kan : (an : Int) < (n : Int) := by omega
      have kd : (d : Int) < (dn : Int) := by omega
      have hnlt : ¬ payM ag sn tr < far := by omega
      have HIN1 := Lib.hid hin1
      have HIN2 := Lib.hid hin2
      have HAG := Lib.hid hagv
      have HG2 := Lib.hid g2
      have HG3 := Lib.hid g3
      have z2 := cell_lt a0
      have hsr : 0 ≤ sn ∧ sn ≤ 99 := by omega
      have htr2 : 0 ≤ tr ∧ tr ≤ 20 := by omega
      have HSN := Lib.hid hsn
      clear hin1 hin2 hagv hpay hag1 hai g1 g2 g3 han hsn
      go_wp2_with fail
      apply Facts.wp_region (.val _ :: .val _ :: .val _ :: .val _ :: .val _ :: .val _ :: .val _ :: .val _ :: .val _ :: .val _ :: .val _ :: .val _ :: .val _ :: .val _ :: .val _ :: .val _ :: .val _ :: .val _ :: .val _ :: .val _ :: .val _ :: .val _ :: .val _ :: .val _ :: .val _ :: .val _ :: .val _ :: []) (by kernel_rfl) (by kernel_rfl) trivial ?main
      case main =>
        iterate 5 (refine ⟨fun w1 hx hh => ?_, ?_⟩; focus (clear hh; have j0 := hx.cell p3; go_simp; first | exact ⟨Ext.refl _, rfl⟩ | exact Ext.refl _))
        refine ⟨fun w1 hx hh => ?_, ?_⟩
        · clear hh
          go_simp
          refine (In_any _ _ _ _).mono ?_
          rintro e w' ⟨rfl, rfl⟩
          rw [HIN1.out]
          exact ⟨_, rfl, Ext.refl _, rfl⟩
        iterate 3 (refine ⟨fun w1 hx hh => ?_, ?_⟩; focus (clear hh; skip; go_simp; first | exact ⟨Ext.refl _, rfl⟩ | exact Ext.refl _))
        refine ⟨fun w1 hx hh => ?_, ?_⟩
        · clear hh
          go_simp
          refine (In_any _ _ _ _).mono ?_
          rintro e w' ⟨rfl, rfl⟩
          rw [HIN2.out]
          exact ⟨_, rfl, Ext.refl _, rfl⟩
        iterate 13 (refine ⟨fun w1 hx hh => ?_, ?_⟩; focus (clear hh; have j0 := hx.cell p3; have j1 := hx.cell a0; have j2 := hx.cell a1; have j3 := hx.cell a2; have j4 := hx.cell tv; go_simp; first | exact ⟨Ext.refl _, rfl⟩ | exact Ext.refl _))
        refine ⟨fun w1 hx hh => ?_, ?_⟩
        · clear hh
          go_simp
          refine (refPays_any _ ag sn tr ⟨rfl, gs, gf, gr⟩ HAG.out.1 HAG.out.2 hsr htr2 _).mono ?_
          rintro e w' ⟨rfl, hx2⟩
          exact ⟨_, rfl, hx2, rfl⟩
        iterate 3 (refine ⟨fun w1 hx hh => ?_, ?_⟩; focus (clear hh; skip; go_simp; first | exact ⟨Ext.refl _, rfl⟩ | exact Ext.refl _))
        intro w5 hx5 hh
        clear hh
        (replace p0 := Ext.cell hx5 p0; replace p1 := Ext.cell hx5 p1; replace p2 := Ext.cell hx5 p2; replace p3 := Ext.cell hx5 p3; replace p4 := Ext.cell hx5 p4; replace r0 := Ext.cell hx5 r0; replace r1 := Ext.cell hx5 r1; replace z0 := cell_lt p0; replace z1 := cell_lt r0; replace x1 := Ext.trans x1 hx5)
        clear hx5 a0 a1 a2 gs gf gr tv z2
        go_simp
        go_wp2
        go_loopw [20, 21, 22, 23, 24] (fun i b f b2 f2 wr => ∃ k : Nat, k ≤ n ∧ i = .int .i64 k ∧ Ext w5 wr) (fun i _ _ _ _ _ => n - (intOf i).toNat)
        case atStart => exact ⟨0, Nat.zero_le _, rfl, Ext.refl _⟩
        case round =>
          obtain ⟨k, hk, rfl, hx⟩ := hrel
          (replace p0 := Ext.cell hx p0; replace p1 := Ext.cell hx p1; replace p2 := Ext.cell hx p2; replace p3 := Ext.cell hx p3; replace p4 := Ext.cell hx p4; replace r0 := Ext.cell hx r0; replace r1 := Ext.cell hx r1; replace z0 := cell_lt p0; replace z1 := cell_lt r0; replace x1 := Ext.trans x1 hx)
          by_cases hlt : k < n
          · have k1 : (k : Int) < (n : Int) := by omega
            have hkn : Hid (0 ≤ (k : Int) ∧ (k : Int) < h.agents.length) := Lib.hid (by rw [Hn.out]; omega)
            have hkl : Hid (k < h.agents.length) := Lib.hid (by rw [Hn.out]; exact hlt)
            rcases Nat.eq_zero_or_pos nn with hz | hz
            · have kz : ¬ (0 : Int) < sn := by have := HSN.out; omega
              by_cases hka : k < an
              · have kk : (k : Int) < (an : Int) := by omega
                (have hw := hworth (k : Int) d (sn) (by unfold I64; omega) hd64 (by unfold I64; omega); have hlow := HWL.out (k : Int) d (sn) far hkn.out Hdd.out (by omega) (HG3.out k hka); have hok := HWO.out (k : Int) d (sn) hkn.out Hdd.out (by omega); have e1 : numErr h [⟨k, agtsM h, 4⟩, ⟨d, daysM h, 4⟩, ⟨sn, 99, 7⟩] (fun r => payM (agtAt h k) (sn) (r.getD ((d : Nat) : Int).toNat 0)) = 0 := hok; have e2 : numSpan h [⟨k, agtsM h, 4⟩, ⟨d, daysM h, 4⟩, ⟨sn, 99, 7⟩] (fun r => payM (agtAt h k) (sn) (r.getD ((d : Nat) : Int).toNat 0)) = numSpan h (worthArgs h k d (sn)) (worthF h k d (sn)) := rfl; rw [e1, e2] at hw; clear e1 e2 hok; generalize numSpan h (worthArgs h k d (sn)) (worthF h k d (sn)) = sp at *; obtain ⟨v1, v2⟩ := sp; unfold spanV at hw; have hlow2 : v1 < far := hlow; have hge : ¬ far ≤ v1 := (by omega); clear hlow)
                clear hz
                (go_wp2_with fail; refine (hw _ x1).mono ?_; rintro e w6 ⟨rfl, hx6⟩; have hx7 := hx6.alloc (.cells #[.int .i64 v1, .int .i64 v2] 35); replace hx := hx.trans hx7; (replace p0 := Ext.cell hx7 p0; replace p1 := Ext.cell hx7 p1; replace p2 := Ext.cell hx7 p2; replace p3 := Ext.cell hx7 p3; replace p4 := Ext.cell hx7 p4; replace r0 := Ext.cell hx7 r0; replace r1 := Ext.cell hx7 r1; replace z0 := cell_lt p0; replace z1 := cell_lt r0; replace x1 := Ext.trans x1 hx7); clear hx6 hx7 hw hlow2)
                go_wp2
                go_roundw
                case rel => exact ⟨k + 1, by omega, by go_num, hx⟩
                case measure => simp [intOf]; omega
              · have kk : ¬ (k : Int) < (an : Int) := by omega
                clear hz
                go_wp2
                go_roundw
                case rel => exact ⟨k + 1, by omega, by go_num, hx⟩
                case measure => simp [intOf]; omega
            · have kz : (0 : Int) < sn := by have := HSN.out; omega
              obtain ⟨n1, hn1⟩ : ∃ n1, nn = n1 + 1 := ⟨nn - 1, by omega⟩
              have wnn : IntKind.i64.wrap (sn - 1) = (n1 : Int) := by rw [HSN.out, hn1, show ((n1 + 1 : Nat) : Int) - 1 = (n1 : Int) from by omega]; exact IntWalk.i64_in _ (by omega)
              by_cases hka : k < an
              · have kk : (k : Int) < (an : Int) := by omega
                (have hw := hworth (k : Int) d ((n1 : Int)) (by unfold I64; omega) hd64 (by unfold I64; omega); have hlow := HWL.out (k : Int) d ((n1 : Int)) far hkn.out Hdd.out (by omega) (HG2.out n1 (by omega) k hkl.out); have hok := HWO.out (k : Int) d ((n1 : Int)) hkn.out Hdd.out (by omega); have e1 : numErr h [⟨k, agtsM h, 4⟩, ⟨d, daysM h, 4⟩, ⟨(n1 : Int), 99, 7⟩] (fun r => payM (agtAt h k) ((n1 : Int)) (r.getD ((d : Nat) : Int).toNat 0)) = 0 := hok; have e2 : numSpan h [⟨k, agtsM h, 4⟩, ⟨d, daysM h, 4⟩, ⟨(n1 : Int), 99, 7⟩] (fun r => payM (agtAt h k) ((n1 : Int)) (r.getD ((d : Nat) : Int).toNat 0)) = numSpan h (worthArgs h k d ((n1 : Int))) (worthF h k d ((n1 : Int))) := rfl; rw [e1, e2] at hw; clear e1 e2 hok; generalize numSpan h (worthArgs h k d ((n1 : Int))) (worthF h k d ((n1 : Int))) = sp at *; obtain ⟨v1, v2⟩ := sp; unfold spanV at hw; have hlow2 : v1 < far := hlow; have hge : ¬ far ≤ v1 := (by omega); clear hlow)
                have Hn1 := Lib.hid hn1
                clear hn1
                (go_wp2_with fail; refine (hw _ x1).mono ?_; rintro e w6 ⟨rfl, hx6⟩; have hx7 := hx6.alloc (.cells #[.int .i64 v1, .int .i64 v2] 35); replace hx := hx.trans hx7; (replace p0 := Ext.cell hx7 p0; replace p1 := Ext.cell hx7 p1; replace p2 := Ext.cell hx7 p2; replace p3 := Ext.cell hx7 p3; replace p4 := Ext.cell hx7 p4; replace r0 := Ext.cell hx7 r0; replace r1 := Ext.cell hx7 r1; replace z0 := cell_lt p0; replace z1 := cell_lt r0; replace x1 := Ext.trans x1 hx7); clear hx6 hx7 hw hlow2)
                (have hw := hworth (k : Int) d (sn) (by unfold I64; omega) hd64 (by unfold I64; omega); have hlow := HWL.out (k : Int) d (sn) far hkn.out Hdd.out (by omega) (HG3.out k hka); have hok := HWO.out (k : Int) d (sn) hkn.out Hdd.out (by omega); have e1 : numErr h [⟨k, agtsM h, 4⟩, ⟨d, daysM h, 4⟩, ⟨sn, 99, 7⟩] (fun r => payM (agtAt h k) (sn) (r.getD ((d : Nat) : Int).toNat 0)) = 0 := hok; have e2 : numSpan h [⟨k, agtsM h, 4⟩, ⟨d, daysM h, 4⟩, ⟨sn, 99, 7⟩] (fun r => payM (agtAt h k) (sn) (r.getD ((d : Nat) : Int).toNat 0)) = numSpan h (worthArgs h k d (sn)) (worthF h k d (sn)) := rfl; rw [e1, e2] at hw; clear e1 e2 hok; generalize numSpan h (worthArgs h k d (sn)) (worthF h k d (sn)) = sp at *; obtain ⟨v1, v2⟩ := sp; unfold spanV at hw; have hlow2 : v1 < far := hlow; have hge : ¬ far ≤ v1 := (by omega); clear hlow)
                (go_wp2_with fail; refine (hw _ x1).mono ?_; rintro e w7 ⟨rfl, hx6⟩; have hx7 := hx6.alloc (.cells #[.int .i64 v1, .int .i64 v2] 35); replace hx := hx.trans hx7; (replace p0 := Ext.cell hx7 p0; replace p1 := Ext.cell hx7 p1; replace p2 := Ext.cell hx7 p2; replace p3 := Ext.cell hx7 p3; replace p4 := Ext.cell hx7 p4; replace r0 := Ext.cell hx7 r0; replace r1 := Ext.cell hx7 r1; replace z0 := cell_lt p0; replace z1 := cell_lt r0; replace x1 := Ext.trans x1 hx7); clear hx6 hx7 hw hlow2)
                go_wp2
                go_roundw
                case rel => exact ⟨k + 1, by omega, by go_num, hx⟩
                case measure => simp [intOf]; omega
              · have kk : ¬ (k : Int) < (an : Int) := by omega
                (have hw := hworth (k : Int) d ((n1 : Int)) (by unfold I64; omega) hd64 (by unfold I64; omega); have hlow := HWL.out (k : Int) d ((n1 : Int)) far hkn.out Hdd.out (by omega) (HG2.out n1 (by omega) k hkl.out); have hok := HWO.out (k : Int) d ((n1 : Int)) hkn.out Hdd.out (by omega); have e1 : numErr h [⟨k, agtsM h, 4⟩, ⟨d, daysM h, 4⟩, ⟨(n1 : Int), 99, 7⟩] (fun r => payM (agtAt h k) ((n1 : Int)) (r.getD ((d : Nat) : Int).toNat 0)) = 0 := hok; have e2 : numSpan h [⟨k, agtsM h, 4⟩, ⟨d, daysM h, 4⟩, ⟨(n1 : Int), 99, 7⟩] (fun r => payM (agtAt h k) ((n1 : Int)) (r.getD ((d : Nat) : Int).toNat 0)) = numSpan h (worthArgs h k d ((n1 : Int))) (worthF h k d ((n1 : Int))) := rfl; rw [e1, e2] at hw; clear e1 e2 hok; generalize numSpan h (worthArgs h k d ((n1 : Int))) (worthF h k d ((n1 : Int))) = sp at *; obtain ⟨v1, v2⟩ := sp; unfold spanV at hw; have hlow2 : v1 < far := hlow; have hge : ¬ far ≤ v1 := (by omega); clear hlow)
                clear hn1
                (go_wp2_with fail; refine (hw _ x1).mono ?_; rintro e w6 ⟨rfl, hx6⟩; have hx7 := hx6.alloc (.cells #[.int .i64 v1, .int .i64 v2] 35); replace hx := hx.trans hx7; (replace p0 := Ext.cell hx7 p0; replace p1 := Ext.cell hx7 p1; replace p2 := Ext.cell hx7 p2; replace p3 := Ext.cell hx7 p3; replace p4 := Ext.cell hx7 p4; replace r0 := Ext.cell hx7 r0; replace r1 := Ext.cell hx7 r1; replace z0 := cell_lt p0; replace z1 := cell_lt r0; replace x1 := Ext.trans x1 hx7); clear hx6 hx7 hw hlow2)
                go_wp2
                go_roundw
                case rel => exact ⟨k + 1, by omega, by go_num, hx⟩
                case measure => simp [intOf]; omega
          · obtain rfl : k = n := by omega
            go_wp2_with fail
            (refine (awakeR_any _).mono ?_; rintro e w9 ⟨rfl, hx9⟩; have x9 := Ext.trans x1 hx9; clear hx9)
            go_wp2
            go_ret
            exact ⟨rfl, x9⟩
    · have G := Lib.hid g
      clear g
      go_wp2
      go_loopw [17, 18, 19] (fun i b f wr => ∃ k : Nat, k ≤ n ∧ i = .int .i64 k ∧ Ext w4 wr) (fun i _ _ _ => n - (intOf i).toNat)
      case atStart => exact ⟨0, Nat.zero_le _, rfl, Ext.refl _⟩
      case round =>
        obtain ⟨k, hk, rfl, hx⟩ := hrel
        (replace p0 := Ext.cell hx p0; replace p1 := Ext.cell hx p1; replace p2 := Ext.cell hx p2; replace p3 := Ext.cell hx p3; replace p4 := Ext.cell hx p4; replace r0 := Ext.cell hx r0; replace r1 := Ext.cell hx r1; replace z0 := cell_lt p0; replace z1 := cell_lt r0; replace x1 := Ext.trans x1 hx)
        by_cases hlt : k < n
        · have k1 : (k : Int) < (n : Int) := by omega
          have hkn : 0 ≤ (k : Int) ∧ (k : Int) < h.agents.length := by rw [Hn.out]; omega
          have hw := hworth (k : Int) d 99 (by unfold I64; omega) hd64 (by unfold I64; omega)
          have hlow := HWL.out (k : Int) d 99 far hkn Hdd.out (by omega) (G.out 99 (by omega) k (by rw [Hn.out]; exact hlt))
          have hok := HWO.out (k : Int) d 99 hkn Hdd.out (by omega)
          have e1 : numErr h [⟨k, agtsM h, 4⟩, ⟨d, daysM h, 4⟩, ⟨99, 99, 7⟩] (fun r => payM (agtAt h k) 99 (r.getD ((d : Nat) : Int).toNat 0)) = 0 := hok
          have e2 : numSpan h [⟨k, agtsM h, 4⟩, ⟨d, daysM h, 4⟩, ⟨99, 99, 7⟩] (fun r => payM (agtAt h k) 99 (r.getD ((d : Nat) : Int).toNat 0)) = numSpan h (worthArgs h k d 99) (worthF h k d 99) := rfl
          rw [e1, e2] at hw
          clear e1 e2 hok
          generalize numSpan h (worthArgs h k d 99) (worthF h k d 99) = sp at *
          obtain ⟨v1, v2⟩ := sp
          unfold spanV at hw
          have hlow2 : v1 < far := hlow
          have hge : ¬ far ≤ v1 := by omega
          clear hlow hkn
          go_wp2_with fail
          refine (hw _ x1).mono ?_
          rintro e w5 ⟨rfl, hx5⟩
          have x5 := hx.trans (hx5.alloc (.cells #[.int .i64 v1, .int .i64 v2] 35))
          clear hx5 hw
          go_wp2
          go_roundw
          case rel => exact ⟨k + 1, by omega, by go_num, x5⟩
          case measure => simp [intOf]; omega
        · obtain rfl : k = n := by omega
          go_wp2_with fail
          (refine (awakeR_any _).mono ?_; rintro e w9 ⟨rfl, hx9⟩; have x9 := Ext.trans x1 hx9; clear hx9)
          go_wp2
          go_ret
          exact ⟨rfl, x9⟩
end Go.Proofs.Ytdadffmagfknoaa

namespace Go.Proofs.Ytdadffmagfknoaa
set_option linter.unusedSimpArgs false
set_option linter.unusedVariables false
open Go.ChangeShapes Go.WideShapes Go.RowKit
set_option maxRecDepth 100000
section
variable {H : Type} {enc : TypeId × Value → H} {w : World} {base : Nat} {sp : Nat → Bool} {held : Bool}
theorem arrayR_of {t e : TypeId} {k : IntKind} {n : Nat} (ht : Try.prog.underlying t = some (.array n e)) (he : Try.prog.underlying e = some (.int k)) (hce : Try.prog.cellsOf e = 1) (hct : Try.prog.cellsOf t = n)
    {r : Reach} {b0 : Nat} {v : Value} {d : DataW H} {ps : List MemPlace} (hval : Value.okWide Try.prog w r b0 t v) (hd : DataW.Trod enc Try.prog w base sp held t v d ps) :
    ∃ l : List Int, v = .agg (l.map (Value.int k)).toArray ∧ l.length = n ∧ ∀ x ∈ l, (Lit.int k x).wf = true := by
  simp only [Value.okWide, ht] at hval
  obtain ⟨cs, rfl, -, -⟩ := hval
  obtain ⟨fuel, h⟩ := hd
  simp only [Value.cells] at h
  obtain ⟨xs, m, -, -, hl, hxl, hel⟩ := DataW.trod_array ht h
  rw [hct] at hl
  rw [hce] at hel
  have hone : ∀ i (hi : i < n), ∃ a : Int, cs.toList[i]'(by omega) = .int k a ∧ (Lit.int k a).wf = true := by
    intro i hi
    have h1 := hel i hi
    rw [Nat.mul_one, List.getElem?_eq_getElem (by omega)] at h1
    have e1 : (cs.toList.drop i).take 1 = [cs.toList[i]'(by omega)] := by
      rw [List.drop_eq_getElem_cons (by omega)]; rfl
    rw [e1] at h1
    obtain ⟨a, ea, -, wa⟩ := DataW.trod_int he h1
    simp only [List.cons.injEq, and_true] at ea
    exact ⟨a, ea, wa⟩
  have key : ∀ l : List Value, (∀ i (hi : i < l.length), ∃ a : Int, l[i] = .int k a ∧ (Lit.int k a).wf = true) → ∃ q : List Int, l = q.map (Value.int k) ∧ ∀ x ∈ q, (Lit.int k x).wf = true := by
    intro l
    induction l with
    | nil => exact fun _ => ⟨[], rfl, by simp⟩
    | cons c l ih =>
      intro hc
      obtain ⟨a, ea, wa⟩ := hc 0 (by simp)
      obtain ⟨q, eq, wq⟩ := ih fun i hi => by
        have := hc (i + 1) (by simpa using hi)
        simpa using this
      refine ⟨a :: q, ?_, ?_⟩
      · simp only [List.getElem_cons_zero] at ea
        rw [ea, eq]; rfl
      · intro x hx
        rcases List.mem_cons.1 hx with rfl | hx
        · exact wa
        · exact wq x hx
  obtain ⟨q, eq, wq⟩ := key cs.toList fun i hi => hone i (by omega)
  refine ⟨q, ?_, by rw [← hl, eq]; simp, wq⟩
  congr 1
  rw [← eq]
theorem cellsU8R : Try.prog.cellsOf 5 = 1 := by kernel_rfl
/-- an array of two bytes -/
theorem bytes2R_of {r : Reach} {b0 : Nat} {v : Value} {d : DataW H} {ps : List MemPlace} (hval : Value.okWide Try.prog w r b0 66 v) (hd : DataW.Trod enc Try.prog w base sp held 66 v d ps) :
    ∃ x y : Nat, v = .agg #[.int .u8 x, .int .u8 y] ∧ x ≤ 255 ∧ y ≤ 255 := by
  obtain ⟨l, rfl, hl, hw⟩ := arrayR_of Try.underlying66 Try.underlying5 cellsU8R (by kernel_rfl) hval hd
  match l, hl with
  | [a, b], _ =>
    have ha := wf_u8 (hw a (by simp))
    have hb := wf_u8 (hw b (by simp))
    unfold U8 at ha hb
    refine ⟨a.toNat, b.toNat, ?_, by omega, by omega⟩
    rw [show ((a.toNat : Nat) : Int) = a from by omega, show ((b.toNat : Nat) : Int) = b from by omega]
    rfl
theorem wf_u16 {n : Int} (h : (Lit.int .u16 n).wf = true) : 0 ≤ n ∧ n ≤ 65535 := by
  simpa [Lit.wf, IntKind.min, IntKind.max, IntKind.signed, IntKind.bits] using h
theorem shortR_of {r : Reach} {b0 : Nat} {v : Value} {d : DataW H} {ps : List MemPlace} (hval : Value.okWide Try.prog w r b0 52 v) (hd : DataW.Trod enc Try.prog w base sp held 52 v d ps) : ∃ x : Nat, v = .int .u16 x ∧ x ≤ 65535 := by
  obtain ⟨a, rfl, -, -, wa⟩ := Go.ChangeShapes.open_int Try.underlying52 hval hd
  have ha := wf_u16 wa
  exact ⟨a.toNat, by rw [show ((a.toNat : Nat) : Int) = a from by omega], by omega⟩
end
end Go.Proofs.Ytdadffmagfknoaa

namespace Go.Proofs.Ytdadffmagfknoaa
set_option linter.unusedSimpArgs false
set_option linter.unusedVariables false
open Go.RowKit
set_option linter.unusedVariables false

def alikeA (fee round : Int) : Agt := ⟨⟨#[97]⟩, fee, round⟩
def alikeH (h : House) (fee round : Int) : House := ⟨h.days, h.rates, h.step, [alikeA fee round], []⟩
theorem alike_agt (h : House) {fee round : Int} (hf : 0 ≤ fee ∧ fee ≤ 20) (hr : 0 ≤ round ∧ round ≤ 2) : agtErr (alikeH h fee round) = (0, 0) := by
  have h1 : agentErrM [] (alikeA fee round) = 0 := by
    unfold agentErrM alikeA
    have e : nameErrM (([] : List Agt).map (·.name)) (⟨#[97]⟩ : ByteArray) = 0 := by decide +kernel
    simp only
    rw [e, if_neg (by decide), if_neg]
    simp [inM]; omega
  unfold agtErr listErr alikeH
  rw [if_neg (by show ¬ ((1 : Nat) : Int) > 3; decide)]
  unfold firstErr firstErrFrom
  rw [if_pos h1]
  rfl
theorem alike_err (h : House) {fee round : Int} (hf : 0 ≤ fee ∧ fee ≤ 20) (hr : 0 ≤ round ∧ round ≤ 2) : raErr (alikeH h fee round) = raErr (alikeH h 0 0) := by
  have h1 := alike_agt h hf hr
  have h2 := alike_agt h (fee := 0) (round := 0) (by decide) (by decide)
  have h3 : entErr (alikeH h fee round) = (0, 0) := rfl
  have h4 : entErr (alikeH h 0 0) = (0, 0) := rfl
  unfold raErr raCheck
  rw [h1, h2, h3, h4]
  rfl
theorem ratesTo_alike (h : House) (fee round : Int) : ∀ (n d : Nat) (r : List Int), ratesTo (alikeH h fee round) n d r = ratesTo h n d r
  | 0, d, r => rfl
  | n + 1, d, r => by
    have h1 : loAt (alikeH h fee round) d r = loAt h d r := rfl
    have h2 : hiAt (alikeH h fee round) d r = hiAt h d r := rfl
    simp only [ratesTo, h1, h2, ratesTo_alike h fee round n]
theorem truL_alike (h : House) (fee round : Int) : truL (alikeH h fee round) (outB 0) = ratesL h := by
  rw [truL_filter]
  have h1 : ∀ q, ((List.range (alikeH h fee round).days.toNat).all fun d => okDay (alikeH h fee round) (outB 0) d q) = true := fun q => by
    rw [List.all_eq_true]
    intro d _
    rfl
  simp only [h1]
  have h2 : ratesL (alikeH h fee round) = ratesL h := ratesTo_alike h fee round _ _ _
  rw [h2]
  simp
theorem NumIs.le {f g : List Int → Int} {l : List (List Int)} {a b c d : Int} (h : NumIs f l a b) (h' : NumIs g l c d) (hs : ∀ r ∈ l, f r ≤ g r) : a ≤ c ∧ b ≤ d := by
  obtain ⟨r, hr, e⟩ := h'.least
  obtain ⟨q, hq, e'⟩ := h.most
  have h1 := (h.all r hr).1
  have h2 := (h'.all q hq).2
  have h3 := hs r hr
  have h4 := hs q hq
  omega
theorem NumIs.shift {f : List Int → Int} {l : List (List Int)} {a b : Int} (h : NumIs f l a b) : NumIs (fun r => f r + 1) l (a + 1) (b + 1) := by
  obtain ⟨r, hr, e⟩ := h.least
  obtain ⟨q, hq, e'⟩ := h.most
  exact ⟨fun r hr => by have := h.all r hr; omega, ⟨r, hr, by omega⟩, ⟨q, hq, by omega⟩⟩
theorem payA0 (fee near x : Int) : payM (alikeA fee 0) near x = max (near - fee) 0 * x / 10 := by
  unfold payM
  rw [if_neg (by show ¬ (0 : Int) = 1; decide), if_neg (by show ¬ (0 : Int) = 2; decide)]; rfl
theorem payA1 (fee near x : Int) : payM (alikeA fee 1) near x = (max (near - fee) 0 * x + 9) / 10 := by
  unfold payM
  rw [if_pos (by show (1 : Int) = 1; rfl)]; rfl
theorem payA2 (fee near x : Int) : payM (alikeA fee 2) near x = (max (near - fee) 0 * x + 5) / 10 := by
  unfold payM
  rw [if_neg (by show ¬ (2 : Int) = 1; decide), if_pos (by show (2 : Int) = 2; rfl)]; rfl
theorem pay_low {fee near x : Int} (hx : 0 ≤ x) : payM (alikeA fee 0) near x ≤ payM (alikeA fee 2) near x ∧ payM (alikeA fee 2) near x ≤ payM (alikeA fee 1) near x ∧ payM (alikeA fee 1) near x ≤ payM (alikeA fee 0) near x + 1 := by
  have h1 : 0 ≤ max (near - fee) 0 * x := Int.mul_nonneg (by omega) hx
  rw [payA0, payA1, payA2]
  generalize max (near - fee) 0 * x = p at *
  omega
theorem pay_more {fee fee' near near' x : Int} (hx : 0 ≤ x) (hf : fee' ≤ fee) (hn : near ≤ near') : payM (alikeA fee 0) near x ≤ payM (alikeA fee' 0) near' x := by
  have h1 : max (near - fee) 0 * x ≤ max (near' - fee') 0 * x := Int.mul_le_mul_of_nonneg_right (by omega) hx
  rw [payA0, payA0]
  generalize max (near - fee) 0 * x = p at *
  generalize max (near' - fee') 0 * x = q at *
  omega
/-- what the one agent pays on a day, over all rates -/
def soloF (fee round day near : Int) : List Int → Int := fun r => payM (alikeA fee round) near (r.getD day.toNat 0)
def soloSpan (h : House) (fee round day near : Int) : Int × Int := numSpan (alikeH h fee round) (worthArgs (alikeH h fee round) 0 day near) (worthF (alikeH h fee round) 0 day near)
theorem solo_ok {h : House} (hv : raErr (alikeH h 0 0) = 0) (hne : ratesL h ≠ []) {fee round day near : Int} (hf : 0 ≤ fee ∧ fee ≤ 20) (hr : 0 ≤ round ∧ round ≤ 2) (hd : 0 ≤ day ∧ day < h.days) (hn : 0 ≤ near ∧ near ≤ 99) :
    numErr (alikeH h fee round) (worthArgs (alikeH h fee round) 0 day near) (worthF (alikeH h fee round) 0 day near) = 0 ∧ NumIs (soloF fee round day near) (ratesL h) (soloSpan h fee round day near).1 (soloSpan h fee round day near).2 := by
  have h1 := worth_ok (h := alikeH h fee round) (by rw [alike_err h hf hr]; exact hv) (by rw [truL_alike]; exact hne) (who := 0) (day := day) (near := near) ⟨Int.le_refl _, by show (0 : Int) < ((1 : Nat) : Int); decide⟩ hd hn
  rw [truL_alike] at h1
  exact h1
theorem solo_good {h : House} (hv : raErr (alikeH h 0 0) = 0) {day : Int} (hd : 0 ≤ day ∧ day < h.days) {r : List Int} (hr : r ∈ ratesL h) : 0 ≤ r.getD day.toNat 0 := by
  have hV := validH_of hv
  have e : ratesL (alikeH h 0 0) = ratesL h := ratesTo_alike h 0 0 _ _ _
  rw [← e] at hr
  have := ratesL_good hV hr (j := day.toNat) (by show day.toNat < h.days.toNat; omega)
  omega
theorem solo_rel {h : House} (hv : raErr (alikeH h 0 0) = 0) (hne : ratesL h ≠ []) {fee fee' day near near' : Int} (hf : 0 ≤ fee ∧ fee ≤ 20) (hf' : 0 ≤ fee' ∧ fee' ≤ fee) (hd : 0 ≤ day ∧ day < h.days) (hn : 0 ≤ near ∧ near ≤ near') (hn' : near' ≤ 99) :
    (soloSpan h fee 0 day near).1 ≤ (soloSpan h fee 2 day near).1 ∧ (soloSpan h fee 2 day near).1 ≤ (soloSpan h fee 1 day near).1 ∧ (soloSpan h fee 1 day near).1 ≤ (soloSpan h fee 0 day near).1 + 1 ∧
    (soloSpan h fee 0 day near).2 ≤ (soloSpan h fee 2 day near).2 ∧ (soloSpan h fee 2 day near).2 ≤ (soloSpan h fee 1 day near).2 ∧ (soloSpan h fee 1 day near).2 ≤ (soloSpan h fee 0 day near).2 + 1 ∧
    (soloSpan h fee 0 day near).1 ≤ (soloSpan h fee' 0 day near).1 ∧ (soloSpan h fee 0 day near).2 ≤ (soloSpan h fee' 0 day near).2 ∧ (soloSpan h fee 0 day near).1 ≤ (soloSpan h fee 0 day near').1 ∧ (soloSpan h fee 0 day near).2 ≤ (soloSpan h fee 0 day near').2 := by
  have n0 := (solo_ok hv hne hf (round := 0) (by decide) hd (near := near) (by omega)).2
  have n2 := (solo_ok hv hne hf (round := 2) (by decide) hd (near := near) (by omega)).2
  have n1 := (solo_ok hv hne hf (round := 1) (by decide) hd (near := near) (by omega)).2
  have nf := (solo_ok hv hne (fee := fee') (by omega) (round := 0) (by decide) hd (near := near) (by omega)).2
  have nn := (solo_ok hv hne hf (round := 0) (by decide) hd (near := near') (by omega)).2
  have g := fun r hr => solo_good hv hd (r := r) hr
  have a1 := n0.le n2 fun r hr => (pay_low (g r hr)).1
  have a2 := n2.le n1 fun r hr => (pay_low (g r hr)).2.1
  have a3 := n1.le n0.shift fun r hr => (pay_low (g r hr)).2.2
  have a4 := n0.le nf fun r hr => pay_more (g r hr) hf'.2 (Int.le_refl _)
  have a5 := n0.le nn fun r hr => pay_more (g r hr) (Int.le_refl _) hn.2
  exact ⟨a1.1, a2.1, a3.1, a1.2, a2.2, a3.2, a4.1, a4.2, a5.1, a5.2⟩
/-- without rates Worth has an error -/
theorem solo_bad {h : House} {fee near : Int} (hf : 0 ≤ fee ∧ fee ≤ 20) (hn : 0 ≤ near ∧ near ≤ 99) (hb : ¬ (raErr (alikeH h fee 0) = 0 ∧ truL (alikeH h fee 0) (outB 0) ≠ [])) :
    numErr (alikeH h fee 0) (worthArgs (alikeH h fee 0) 0 0 near) (worthF (alikeH h fee 0) 0 0 near) ≠ 0 := by
  by_cases hv : raErr (alikeH h fee 0) = 0
  · have hT : truL (alikeH h fee 0) (outB 0) = [] := Decidable.byContradiction fun hT => hb ⟨hv, hT⟩
    have hV := validH_of hv
    rw [(num_none hv hT _ (worth_args hv ⟨Int.le_refl _, by show (0 : Int) < ((1 : Nat) : Int); decide⟩ ⟨Int.le_refl _, by have := hV.days; omega⟩ hn) _).1]
    decide
  · rw [(numErr_bad hv _ _).1]
    exact hv
end Go.Proofs.Ytdadffmagfknoaa

namespace Go.Proofs.Ytdadffmagfknoaa
set_option linter.unusedSimpArgs false
set_option linter.unusedVariables false
open Go.RowKit
set_option linter.unusedVariables false
set_option maxRecDepth 100000

set_option maxHeartbeats 4000000 in
theorem alike8_any (d s : Int) (ra aa ea : Option Addr) (rn rc an ac en ec : Nat) (fee rd : Int) (w : World) :
    Calls Try.prog 48 #[.agg #[.int .i64 d, .slice ra rn rc, .int .i64 s, .slice aa an ac, .slice ea en ec], .int .i64 fee, .int .i64 rd] w fun e w' => ∃ B, e = .returned (.agg #[.int .i64 d, .slice ra rn rc, .int .i64 s, .slice (some ⟨B, 0, none⟩) 1 1, .slice none 0 0]) ∧ w.heap.size ≤ B ∧ B < w'.heap.size ∧ w'.cell? ⟨B, 0, none⟩ = some (.string ⟨#[97]⟩) ∧ w'.cell? ⟨B, 1, none⟩ = some (.int .i64 fee) ∧ w'.cell? ⟨B, 2, none⟩ = some (.int .i64 rd) ∧ Ext w w' := by
  go_enter Try.func48, Try.ntmps48
  go_wp2
  exact bodyPost_ret (v := .agg #[.int .i64 d, .slice ra rn rc, .int .i64 s, .slice (some ⟨w.heap.size + 1 + 1, 0, none⟩) 1 1, .slice none 0 0]) (by simp [results, Try.results48, go_sem]) rfl ⟨w.heap.size + 1 + 1, rfl, by omega, by simp, by simp [go_sem], by simp [go_sem], by simp [go_sem], ((ext_alloc _ _).alloc _).alloc _⟩
theorem alikeAt {w W : World} {h : House} {ra : Option Addr} {rc : Nat} (hr : SpansAt w (.slice ra h.rates.length rc) h.rates) (hx : Ext w W) (hd : I64 h.days) (hs : I64 h.step) {fee rd : Int} (hf : I64 fee) (hrd : I64 rd) {B : Nat}
    (b0 : W.cell? ⟨B, 0, none⟩ = some (.string ⟨#[97]⟩)) (b1 : W.cell? ⟨B, 1, none⟩ = some (.int .i64 fee)) (b2 : W.cell? ⟨B, 2, none⟩ = some (.int .i64 rd)) :
    HouseAt W (.agg #[.int .i64 h.days, .slice ra h.rates.length rc, .int .i64 h.step, .slice (some ⟨B, 0, none⟩) 1 1, .slice none 0 0]) (alikeH h fee rd) := by
  refine ⟨ra, rc, some ⟨B, 0, none⟩, 1, none, 0, rfl, hd, hs, hr.ext hx, ⟨_, _, rfl, Nat.le_refl _, by omega, fun i hi => ⟨B, 0, rfl, ?_⟩⟩, SliceAt.nil⟩
  have hi' : i < 1 := hi
  obtain rfl : i = 0 := by omega
  exact ⟨b0, b1, b2, by show (1 : Nat) ≤ _; omega, hf, hrd⟩
theorem solo_in {h : House} (hv : raErr (alikeH h 0 0) = 0) (hne : ratesL h ≠ []) {fee round day near : Int} (hf : 0 ≤ fee ∧ fee ≤ 20) (hr : 0 ≤ round ∧ round ≤ 2) (hd : 0 ≤ day ∧ day < h.days) (hn : 0 ≤ near ∧ near ≤ 99) :
    0 ≤ (soloSpan h fee round day near).1 ∧ (soloSpan h fee round day near).2 ≤ 199 ∧ (soloSpan h fee round day near).1 ≤ (soloSpan h fee round day near).2 := by
  have h1 := (solo_ok hv hne hf hr hd hn).2
  have h2 := h1.within (c := 0) (d := 199) fun r hr' => by
    have h3 := worth_in (h := alikeH h fee round) (by rw [alike_err h hf hr]; exact hv) (who := 0) (day := day) (near := near) ⟨Int.le_refl _, by show (0 : Int) < ((1 : Nat) : Int); decide⟩ hd hn (r := r) (by rw [truL_alike]; exact hr')
    exact h3
  exact ⟨h2.1, h2.2, h1.lo_le⟩
/-- Worth, of the one agent -/
theorem soloWorth_any (v : Value) (h : House) {fee round : Int} (day near : Int) (w : World) (hh : HouseAt w v (alikeH h fee round)) (hd : I64 day) (hn : I64 near) (he : numErr (alikeH h fee round) (worthArgs (alikeH h fee round) 0 day near) (worthF (alikeH h fee round) 0 day near) = 0) :
    Calls Try.prog 24 #[v, .int .i64 0, .int .i64 day, .int .i64 near] w fun e w' => e = .returned (.tuple #[.agg #[.int .i64 (soloSpan h fee round day near).1, .int .i64 (soloSpan h fee round day near).2], .int .i64 0]) ∧ Ext w w' := by
  refine (worthPub_any v (alikeH h fee round) 0 day near (by unfold I64; omega) hd hn w hh).mono ?_
  rintro e w' ⟨rfl, hx⟩
  refine ⟨?_, hx⟩
  have e2 : numErr (alikeH h fee round) [⟨0, agtsM (alikeH h fee round), 4⟩, ⟨day, daysM (alikeH h fee round), 4⟩, ⟨near, 99, 7⟩] (fun r => payM (agtAt (alikeH h fee round) 0) near (r.getD day.toNat 0)) = 0 := he
  rw [e2]
  rfl
end Go.Proofs.Ytdadffmagfknoaa
