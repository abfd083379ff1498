/-
  WHAT fewestOdd AND Odd RETURN where there is no error.
  WHAT cmp.Or, sets.compare, sets.Fewest AND fewestOdd RETURN where there is no error.
  WHAT sets.Fewest AND fewestOdd RETURN where there is no error.
  WHAT fewestOdd RETURNS where there is no error.
  WHAT Odd RETURNS where there is no error.
  WHAT Count, Reads, Common, First, Alike AND Odd RETURN where the book or an index has an error.
  WHAT First RETURNS where there is an error; what Common and Alike return where the spellings are no ascending list, or the same.
-/
import Derived.Test.YtoifmphpeflliaaBunF
import Derived.Test.YtoifmphpeflliaaBunP
namespace Go.Proofs.Ytoifmphpeflliaa
open Go.RowKit
set_option linter.unusedVariables false

/-- whether some string has all of these bits -/
def sharedB (M : Tally) (n : Nat) : Bool := M.any fun p => p.2 &&& n == n
theorem FirstIs.shared {M : Tally} {n : Nat} {k : List Int} {f : Bool} (h : FirstIs M (fun _ => True) n k f) : f = sharedB M n := by
  unfold sharedB
  cases f
  · symm
    rw [List.any_eq_false]
    intro p hp
    obtain ⟨i, hi, rfl⟩ := List.getElem_of_mem hp
    simpa using (h.no rfl).2 i hi trivial
  · symm
    obtain ⟨i, hi, -, e⟩ := (h.yes rfl).1
    rw [List.any_eq_true]
    exact ⟨M[i], List.getElem_mem hi, by simpa using e⟩
/-- which of two lists is told first: that with fewer numbers, of as long ones that which comes first -/
def cmpFew (l m : List Nat) : Int := cmpSS (ints l) (ints m)
theorem cmpL_zero : ∀ {a b : List Int}, cmpL a b = 0 → a = b
  | [], [], _ => rfl
  | [], _ :: _, h => by simp [cmpL] at h
  | _ :: _, [], h => by simp [cmpL] at h
  | x :: a, y :: b, h => by
    unfold cmpL at h
    by_cases h1 : cmpM x y = 0
    · rw [if_pos h1] at h
      rw [cmpM_zero.1 h1, cmpL_zero h]
    · rw [if_neg h1] at h; exact absurd h h1
theorem cmpSS_zero {a b : List Int} (h : cmpSS a b = 0) : a = b := by
  unfold cmpSS at h
  split at h
  · exact cmpL_zero h
  · rename_i h1
    have := cmpM_zero.1 h
    exact absurd (by omega) h1
theorem cmpSS_le {a b c : List Int} (h : cmpSS a b < 0) (k : ¬ 0 < cmpSS b c) : cmpSS a c < 0 := by
  by_cases h0 : cmpSS b c = 0
  · rw [← cmpSS_zero h0]; exact h
  · exact cmpSS_trans h (by omega)
def fewStep (P : Nat → Bool) (r : Option (List Nat)) (s : Nat) : Option (List Nat) := match r with
  | none => if P s = true then some (membersM s) else none
  | some f => if 0 < cmpFew (membersM s) f then some f else if P s = true then some (membersM s) else some f
/-- the first of the fewest, of the sets below a number -/
def fewTo (P : Nat → Bool) (k : Nat) : Option (List Nat) := (List.range k).foldl (fewStep P) none
theorem fewTo_succ (P : Nat → Bool) (k : Nat) : fewTo P (k + 1) = fewStep P (fewTo P k) k := by simp [fewTo, List.range_succ]
def FewIs (P : Nat → Bool) (k : Nat) : Option (List Nat) → Prop
  | none => ∀ s, s < k → P s = false
  | some f => (∃ s, s < k ∧ P s = true ∧ membersM s = f) ∧ ∀ s, s < k → P s = true → ¬ cmpFew (membersM s) f < 0
theorem fewTo_is (P : Nat → Bool) : ∀ k, FewIs P k (fewTo P k)
  | 0 => fun s h => by omega
  | k + 1 => by
    have ih := fewTo_is P k
    rw [fewTo_succ]
    have self : ∀ l : List Nat, cmpFew l l = 0 := fun l => cmpSS_self _
    cases hr : fewTo P k with
    | none =>
      rw [hr] at ih
      simp only [fewStep]
      by_cases hp : P k = true
      · rw [if_pos hp]
        refine ⟨⟨k, by omega, hp, rfl⟩, fun s hs hps => ?_⟩
        rcases Nat.lt_or_ge s k with h | h
        · rw [ih s h] at hps; cases hps
        · obtain rfl : s = k := by omega
          rw [self]; omega
      · rw [if_neg hp]
        intro s hs
        rcases Nat.lt_or_ge s k with h | h
        · exact ih s h
        · obtain rfl : s = k := by omega
          simpa using hp
    | some f =>
      rw [hr] at ih
      obtain ⟨⟨s0, h0, hp0, e0⟩, hmin⟩ := ih
      simp only [fewStep]
      by_cases hc : 0 < cmpFew (membersM k) f
      · rw [if_pos hc]
        refine ⟨⟨s0, by omega, hp0, e0⟩, fun s hs hps => ?_⟩
        rcases Nat.lt_or_ge s k with h | h
        · exact hmin s h hps
        · obtain rfl : s = k := by omega
          omega
      · rw [if_neg hc]
        by_cases hp : P k = true
        · rw [if_pos hp]
          refine ⟨⟨k, by omega, hp, rfl⟩, fun s hs hps hlt => ?_⟩
          rcases Nat.lt_or_ge s k with h | h
          · exact hmin s h hps (cmpSS_le hlt hc)
          · obtain rfl : s = k := by omega
            rw [self] at hlt; omega
        · rw [if_neg hp]
          refine ⟨⟨s0, by omega, hp0, e0⟩, fun s hs hps => ?_⟩
          rcases Nat.lt_or_ge s k with h | h
          · exact hmin s h hps
          · obtain rfl : s = k := by omega
            exact absurd hps hp
def allOf (b : Book) : Nat := 2 ^ b.spellings.length - 1
theorem andNot_small : ∀ (a b : Fin 32), bits BinOp.andNot IntKind.i64 ((a.1 : Nat) : Int) ((b.1 : Nat) : Int) = ((a.1 ^^^ (a.1 &&& b.1) : Nat) : Int) := by decide +kernel
theorem xor_lt : ∀ (a b : Fin 32), a.1 ^^^ (a.1 &&& b.1) < 32 := by decide +kernel
theorem allOf_lt {b : Book} (h : b.spellings.length ≤ 5) : allOf b < 32 := by
  unfold allOf
  have : 2 ^ b.spellings.length ≤ 2 ^ 5 := Nat.pow_le_pow_right (by decide) h
  have h0 : 0 < 2 ^ b.spellings.length := Nat.two_pow_pos _
  omega
theorem membersM_mem {n m : Nat} (h : m ∈ membersM n) : n.testBit m = true ∧ m < 5 := by
  simp only [membersM, membersTo, List.mem_filter, List.mem_range] at h
  exact ⟨h.2, h.1⟩
theorem members_all {b : Book} {n : Nat} (h : n ∈ membersM (allOf b)) : n < b.spellings.length := by
  have := (membersM_mem h).1
  unfold allOf at this
  rw [Nat.testBit_two_pow_sub_one] at this
  simpa using this

theorem shl_all : ∀ n : Fin 6, wrap64 (wrap64 (2 ^ n.1) - 1) = ((2 ^ n.1 - 1 : Nat) : Int) := by decide +kernel
def oddP (M : Tally) (all odd : Nat) : Bool := sharedB M (all ^^^ (all &&& odd)) || odd == all
/-- the fewest spellings without which all others are alike -/
def oddL (b : Book) : List Nat := (fewTo (oddP (canM b (membersM (allOf b))) (allOf b)) (2 ^ b.spellings.length)).getD []
def MapV (M : Tally) (u : Value) (w : World) : Prop := ∃ B, u = .map (some B) ∧ MapIs w B M
theorem MapV.ext {M : Tally} {u : Value} {w w' : World} (hx : Ext w w') (h : MapV M u w) : MapV M u w' := by
  obtain ⟨B, e, hm⟩ := h; exact ⟨B, e, hm.kept (Below.block hx _ hm.lt)⟩
def ListV (l : List Int) (u : Value) (w : World) : Prop := IntsAt w u l

def orM : List Int → Int
  | [] => 0
  | x :: l => if x = 0 then orM l else x
end Go.Proofs.Ytoifmphpeflliaa

namespace Go.Proofs.Ytoifmphpeflliaa
open Go.RowKit
set_option linter.unusedVariables false

theorem orM_step (l : List Int) (k : Nat) (h : k < l.length) : orM (l.drop k) = if l[k] = 0 then orM (l.drop (k + 1)) else l[k] := by
  rw [List.drop_eq_getElem_cons h, orM]
theorem or_any (v : Value) (l : List Int) (w : World) (h : IntsAt w v l) :
    Calls Try.prog 164 #[v] w fun e w' => e = .returned (.int .i64 (orM l)) ∧ w = w' := by
  obtain ⟨a, cap, rfl, hlc, hcm, hc⟩ := h
  go_enter Try.func164, Try.ntmps164
  go_wp2
  go_loop [8] (fun i => ∃ k : Nat, k ≤ l.length ∧ i = .int .i64 k ∧ orM (l.drop k) = orM l) (fun i => l.length - (intOf i).toNat)
  case atStart => exact ⟨0, Nat.zero_le _, rfl, by simp⟩
  case round =>
    obtain ⟨k, hk, rfl, hw⟩ := hrel
    have Hw := Lib.hid hw; clear hw
    by_cases hlt : k < l.length
    · obtain ⟨b, off, rfl, hck, -⟩ := hc k hlt
      clear hc
      have hst := orM_step l k hlt
      generalize hx : l[k] = x at *
      have Hst := Lib.hid hst
      clear hx hst
      simp only [Nat.mul_one] at hck
      by_cases h1 : x = 0
      · subst h1
        go_wp2
        go_round
        case rel => exact ⟨k + 1, by omega, by go_num, by rw [← Hw.out, Hst.out, if_pos rfl]⟩
        case measure => simp [intOf]; omega
      · have h2 : (x != 0) = true := by simpa using h1
        have H1 := Lib.hid h1
        clear h1
        go_wp2
        go_ret
        exact ⟨ret_int (by rw [← Hw.out, Hst.out, if_neg H1.out]), rfl⟩
    · go_wp2
      go_ret
      exact ⟨ret_int (by rw [← Hw.out, List.drop_eq_nil_of_le (by omega)]; rfl), rfl⟩
theorem orM_cmp (l m : List Int) : orM [cmpM l.length m.length, cmpL l m] = cmpSS l m := by
  unfold orM orM orM cmpSS
  by_cases h : l.length = m.length
  · rw [if_pos h, h, if_pos (cmpM_self _)]
    split
    · rename_i h0; exact h0.symm
    · rfl
  · rw [if_neg h, if_neg]
    intro h0
    have := cmpM_zero.1 h0
    omega
theorem cmpM_I64 (x y : Int) : I64 (cmpM x y) := by unfold cmpM I64; split <;> (try split) <;> omega
theorem cmpL_I64 : ∀ l m : List Int, I64 (cmpL l m)
  | [], [] => by unfold cmpL I64; omega
  | [], _ :: _ => by unfold cmpL I64; omega
  | _ :: _, [] => by unfold cmpL I64; omega
  | x :: l, y :: m => by
    unfold cmpL
    split
    · exact cmpL_I64 l m
    · exact cmpM_I64 x y
set_option maxHeartbeats 1000000 in
theorem setsCompare_any (v u : Value) (l m : List Int) (w : World) (hl : IntsAt w v l) (hm : IntsAt w u m) :
    Calls Try.prog 134 #[v, u] w fun e w' => e = .returned (.int .i64 (cmpSS l m)) ∧ Ext w w' := by
  obtain ⟨a, cap, rfl, hlc, hcm⟩ := hl.shape
  obtain ⟨a', cap', rfl, hlc', hcm'⟩ := hm.shape
  have hcl := compareL_any _ _ l m w hl hm
  have hI := cmpL_I64 l m
  have hI2 := cmpM_I64 l.length m.length
  have hor := orM_cmp l m
  generalize cmpL l m = c2 at *
  generalize hc1 : cmpM l.length m.length = c1 at *
  have Hc1 := Lib.hid hc1
  have Hor := Lib.hid hor
  clear hc1 hor
  go_enter Try.func134, Try.ntmps134
  go_wp2_with fail
  refine (cmp_any _ _ _).mono ?_
  rintro e w' ⟨rfl, rfl⟩
  rw [Hc1.out]
  go_wp2_with fail
  refine hcl.mono ?_
  rintro e w' ⟨rfl, rfl⟩
  go_wp2_with fail
  refine (or_any _ [c1, c2] _ (IntsAt.two hI2 hI)).mono ?_
  rintro e w' ⟨rfl, rfl⟩
  go_wp2
  go_ret
  exact ⟨ret_int Hor.out, ext_alloc _ _⟩
end Go.Proofs.Ytoifmphpeflliaa

namespace Go.Proofs.Ytoifmphpeflliaa
open Go.RowKit
set_option linter.unusedVariables false

set_option maxHeartbeats 1000000 in
theorem fewestOdd1_any (B : Nat) (M : Tally) (K : Nat) (hM : FineT K M) (hK : (K : Int) ≤ 5) (all odd : Nat) (hall : all < 32) (hodd : odd < 32) (pw pa : Addr) (w : World) (hw : w.cell? pw = some (.map (some B))) (ha : w.cell? pa = some (.int .i64 all)) (hmap : MapIs w B M) :
    Calls Try.prog 96 #[.int .i64 odd, .pointer (some pw), .pointer (some pa)] w fun e w' => e = .returned (.bool (oddP M all odd)) ∧ Ext w w' := by
  have hand := andNot_small ⟨all, hall⟩ ⟨odd, hodd⟩
  have hxor := xor_lt ⟨all, hall⟩ ⟨odd, hodd⟩
  simp only at hand hxor
  have hfo := fun w h => firstOf_any B M K hM hK (all ^^^ (all &&& odd)) hxor w h
  have hp : ∀ f, f = sharedB M (all ^^^ (all &&& odd)) → oddP M all odd = (f || odd == all) := fun f h => by rw [h]; rfl
  generalize all ^^^ (all &&& odd) = sub at *
  have Hp := Lib.hid hp
  clear hp
  go_enter Try.func96, Try.ntmps96
  go_wp2_with fail
  refine (hfo _ hmap).mono ?_
  rintro e w4 ⟨q, f, rfl, hF, hx4⟩
  have hpf := Hp.out f hF.shared
  have ha4 := hx4.cell ha
  have za := cell_lt ha4
  have x4 := hx4.alloc (.cells #[.int .i64 q.length, .int .i64 (q.getD 0 0), .int .i64 (q.getD 1 0), .int .i64 (q.getD 2 0), .int .i64 (q.getD 3 0), .int .i64 (q.getD 4 0)] 109)
  clear hF hfo Hp
  have Hpf := Lib.hid hpf
  clear hpf
  unfold ssV ssRaw
  generalize (q.length : Int) = qn at *
  generalize q.getD 0 0 = q0 at *
  generalize q.getD 1 0 = q1 at *
  generalize q.getD 2 0 = q2 at *
  generalize q.getD 3 0 = q3 at *
  generalize q.getD 4 0 = q4 at *
  cases f
  · by_cases h : odd = all
    · have h1 : ((odd : Int) == (all : Int)) = true := by rw [beq_iff_eq]; omega
      have h2 : (odd == all) = true := by simpa using h
      have Hq : Hid (oddP M all odd = true) := Lib.hid (by rw [Hpf.out, h2]; rfl)
      clear h h2
      go_wp2
      go_ret
      exact ⟨ret_bool Hq.out.symm, x4⟩
    · have h1 : ((odd : Int) == (all : Int)) = false := by rw [beq_eq_false_iff_ne]; omega
      have h2 : (odd == all) = false := by simpa using h
      have Hq : Hid (oddP M all odd = false) := Lib.hid (by rw [Hpf.out, h2]; rfl)
      clear h h2
      go_wp2
      go_ret
      exact ⟨ret_bool Hq.out.symm, x4⟩
  · have Hq : Hid (oddP M all odd = true) := Lib.hid (by rw [Hpf.out]; rfl)
    go_wp2
    go_ret
    exact ⟨ret_bool Hq.out.symm, x4⟩

theorem shl_six : ∀ n : Fin 6, IntKind.i64.wrap (2 ^ n.1) = ((2 ^ n.1 : Nat) : Int) := by decide +kernel
set_option maxRecDepth 100000 in
set_option maxHeartbeats 2000000 in
theorem fewest_odd (B : Nat) (M : Tally) (K : Nat) (hM : FineT K M) (hK : (K : Int) ≤ 5) (all n : Nat) (hall : all < 32) (hn : n ≤ 5) (pw pa : Addr) (w : World) (hw : w.cell? pw = some (.map (some B))) (ha : w.cell? pa = some (.int .i64 all)) (hmap : MapIs w B M) :
    Calls Try.prog 95 #[.int .i64 n, .func (.func 96) #[] #[.pointer (some pw), .pointer (some pa)]] w
      fun e w' => ∃ u f, e = .returned (.tuple #[u, .bool f]) ∧ IntsAt w' u (ints ((fewTo (oddP M all) (2 ^ n)).getD [])) ∧ Ext w w' := by
  have hsh := shl_six ⟨n, by omega⟩
  simp only at hsh
  have hlim : 2 ^ n ≤ 32 := Nat.pow_le_pow_right (n := 2) (by decide) hn
  have hclo := fun odd (h : odd < 32) w hw ha hm => fewestOdd1_any B M K hM hK all odd hall h pw pa w hw ha hm
  have hstep := fewTo_succ (oddP M all)
  generalize oddP M all = P at *
  obtain ⟨lim, hL⟩ : ∃ lim, lim = 2 ^ n := ⟨_, rfl⟩
  rw [← hL] at hsh hlim ⊢
  have HL := Lib.hid hL
  have Hst := Lib.hid hstep
  clear hL hstep
  go_enter Try.func95, Try.ntmps95
  go_wp2
  go_loopw [6, 7, 12] (fun v f i wr => ∃ (k : Nat) (r : Option (List Nat)) (fb : Bool), k ≤ lim ∧ i = .int .i64 k ∧ fewTo P k = r ∧ f = .bool fb ∧ fb = r.isSome ∧ IntsAt wr v (ints (r.getD [])) ∧ Ext w wr) (fun _ _ i _ => lim - (intOf i).toNat)
  case atStart => exact ⟨0, none, false, Nat.zero_le _, rfl, rfl, rfl, rfl, SliceAt.nil, Ext.refl _⟩
  case round =>
    obtain ⟨k, r, fb, hk, rfl, hr, rfl, hfb, hv, hx⟩ := hrel
    by_cases hlt : k < lim
    · have hst := Hst.out k
      rw [hr] at hst
      have hk32 : k < 32 := by omega
      have hmk := fun w => members_any k hk32 w
      have kk : (k : Int) < (lim : Int) := by omega
      have hcl := fun w h1 h2 h3 => hclo k hk32 w h1 h2 h3
      have Hr := Lib.hid hr
      clear hr hclo
      generalize hlk : membersM k = l at *
      generalize hpk : P k = pk at *
      go_wp2_with fail
      refine (hmk _).mono ?_
      rintro e w3 ⟨u, rfl, hu, hx3⟩
      have x3 := hx.trans hx3
      replace hv := hv.ext hx3
      obtain ⟨ua, uc, rfl, -⟩ := hu.shape
      clear hx3 hmk
      cases r with
      | none =>
        have hfb' : fb = false := by simpa using hfb
        subst hfb'
        have hst1 : fewTo P (k + 1) = if pk = true then some l else none := by rw [hst]; simp only [fewStep, hpk, hlk]
        obtain ⟨va, vc, rfl, -⟩ := hv.shape
        have Hst1 := Lib.hid hst1
        clear hst hst1 hfb hpk hlk
        go_wp2_with fail
        refine (hcl _ (x3.cell hw) (x3.cell ha) (hmap.kept (Below.block x3 _ hmap.lt))).mono ?_
        rintro e w4 ⟨rfl, hx4⟩
        replace hu := hu.ext hx4
        replace hv := hv.ext hx4
        have x4 := x3.trans hx4
        clear hx4 hcl
        cases pk
        · go_wp2
          go_roundw
          case rel => exact ⟨k + 1, none, false, by omega, by go_num, Hst1.out, rfl, rfl, hv, x4⟩
          case measure => simp [intOf]; omega
        · go_wp2
          go_roundw
          case rel => exact ⟨k + 1, some l, true, by omega, by go_num, Hst1.out, rfl, rfl, hu, x4⟩
          case measure => simp [intOf]; omega
      | some best =>
        have hfb' : fb = true := by simpa using hfb
        subst hfb'
        have hst1 : fewTo P (k + 1) = if 0 < cmpFew l best then some best else if pk = true then some l else some best := by rw [hst]; simp only [fewStep, hpk, hlk]
        simp only [Option.getD_some] at hv
        obtain ⟨va, vc, rfl, -⟩ := hv.shape
        have Hst1 := Lib.hid hst1
        clear hst hst1 hfb hpk hlk
        have hcmp := setsCompare_any _ _ (ints l) (ints best) w3 hu hv
        have hcf : cmpSS (ints l) (ints best) = cmpFew l best := rfl
        rw [hcf] at hcmp
        clear hcf
        generalize cmpFew l best = cv at *
        go_wp2_with fail
        refine hcmp.mono ?_
        rintro e w4 ⟨rfl, hx4⟩
        replace hu := hu.ext hx4
        replace hv := hv.ext hx4
        have x4 := x3.trans hx4
        clear hx4 hcmp
        by_cases h0 : 0 < cv
        · have Hst2 : Hid (fewTo P (k + 1) = some best) := Lib.hid (by rw [Hst1.out, if_pos h0])
          go_wp2
          go_roundw
          case rel => exact ⟨k + 1, some best, true, by omega, by go_num, Hst2.out, rfl, rfl, hv, x4⟩
          case measure => simp [intOf]; omega
        · have Hst2 : Hid (fewTo P (k + 1) = if pk = true then some l else some best) := Lib.hid (by rw [Hst1.out, if_neg h0])
          go_wp2_with fail
          refine (hcl _ (x4.cell hw) (x4.cell ha) (hmap.kept (Below.block x4 _ hmap.lt))).mono ?_
          rintro e w5 ⟨rfl, hx5⟩
          replace hu := hu.ext hx5
          replace hv := hv.ext hx5
          have x5 := x4.trans hx5
          clear hx5 hcl
          cases pk
          · go_wp2
            go_roundw
            case rel => exact ⟨k + 1, some best, true, by omega, by go_num, Hst2.out, rfl, rfl, hv, x5⟩
            case measure => simp [intOf]; omega
          · go_wp2
            go_roundw
            case rel => exact ⟨k + 1, some l, true, by omega, by go_num, Hst2.out, rfl, rfl, hu, x5⟩
            case measure => simp [intOf]; omega
    · have hke : k = lim := by omega
      subst hke
      obtain ⟨va, vc, rfl, -⟩ := hv.shape
      have Hfin := Lib.hid hr
      clear hr hclo hfb
      go_wp2
      go_ret2
      exact ⟨_, fb, rfl, by rw [Hfin.out]; exact hv, hx⟩
end Go.Proofs.Ytoifmphpeflliaa

namespace Go.Proofs.Ytoifmphpeflliaa
open Go.RowKit
set_option linter.unusedVariables false

/-- a later world in which but the boxes of one kind of values may hold other values of that kind -/
def OnlyK (K : Value → Prop) (a b : World) : Prop :=
  a.heap.size ≤ b.heap.size ∧ (∀ (k : Nat) (o : Obj), a.heap[k]? = some o → (∀ c e f, o ≠ Obj.cells c e f) → b.heap[k]? = some o) ∧
  ∀ (p : Addr) (x : Value), a.cell? p = some x → b.frozen? p = a.frozen? p ∧ (¬ K x → b.cell? p = some x) ∧ (K x → ∃ y, K y ∧ b.cell? p = some y)
theorem OnlyK.of_ext {K : Value → Prop} {a b : World} (h : Ext a b) : OnlyK K a b :=
  ⟨h.size, fun k o ho _ => by rw [Below.block h k (Array.getElem?_eq_some_iff.1 ho).1]; exact ho, fun p x hx => ⟨h.frozen (cell_lt hx), fun _ => h.cell hx, fun hk => ⟨x, hk, h.cell hx⟩⟩⟩
theorem OnlyK.trans {K : Value → Prop} {a b c : World} (h : OnlyK K a b) (k : OnlyK K b c) : OnlyK K a c := by
  refine ⟨Nat.le_trans h.1 k.1, fun i o ho hn => k.2.1 i o (h.2.1 i o ho hn) hn, fun p x hx => ?_⟩
  obtain ⟨h1, h2, h3⟩ := h.2.2 p x hx
  by_cases hk : K x
  · obtain ⟨y, hy, hc⟩ := h3 hk
    obtain ⟨k1, -, k3⟩ := k.2.2 p y hc
    exact ⟨k1.trans h1, fun n => absurd hk n, fun _ => k3 hy⟩
  · obtain ⟨k1, k2, -⟩ := k.2.2 p x (h2 hk)
    exact ⟨k1.trans h1, fun n => k2 n, fun n => absurd n hk⟩
theorem two_only (K : Value → Prop) : Facts.Piv.Two Ext (OnlyK K) := ⟨fun _ _ h => .of_ext h, fun _ _ _ h k => h.trans k, fun _ _ _ h k => h.trans k, Ext.refl, fun a => ext_drew a⟩
theorem OnlyK.set {K : Value → Prop} {w : World} {p : Addr} {x y : Value} (hc : w.cell? p = some x) (hx : K x) (hy : K y) : OnlyK K w (w.setCell p y) := by
  refine ⟨by simp, fun k o ho hn => ?_, fun q z hq => ?_⟩
  · by_cases hk : k = p.block
    · exfalso
      subst hk
      unfold World.cell? at hc
      rw [ho] at hc
      cases o <;> simp only at hc <;> first | cases hc | exact hn _ _ _ rfl
    · simp only [World.setCell, Array.getElem?_modify]
      rw [if_neg (fun e => hk e.symm)]; exact ho
  · refine ⟨by simp, fun hz => ?_, fun hz => ?_⟩
    · refine set_other hq ?_ y
      by_cases h : p.block = q.block ∧ p.off = q.off
      · exfalso
        have e : p = q := by
          obtain ⟨b, o, s⟩ := p; obtain ⟨b', o', s'⟩ := q
          have hs := World.cell?_spot hc
          have hs' := World.cell?_spot hq
          simp only at h hs hs'
          rw [h.1, h.2, hs, hs']
        subst e
        rw [hc] at hq; cases hq; exact hz hx
      · rcases Nat.lt_or_ge 0 0 with h0 | h0
        · omega
        · by_cases h1 : p.block = q.block
          · exact .inr fun h2 => h ⟨h1, h2⟩
          · exact .inl h1
    · by_cases h : p.block = q.block ∧ p.off = q.off
      · have e : p = q := by
          obtain ⟨b, o, s⟩ := p; obtain ⟨b', o', s'⟩ := q
          have hs := World.cell?_spot hc
          have hs' := World.cell?_spot hq
          simp only at h hs hs'
          rw [h.1, h.2, hs, hs']
        subst e
        exact ⟨y, hy, set_cell hc y⟩
      · exact ⟨z, hz, set_other hq (by
          by_cases h1 : p.block = q.block
          · exact .inr fun h2 => h ⟨h1, h2⟩
          · exact .inl h1) y⟩
theorem OnlyK.ints {K : Value → Prop} (hK : ∀ n, ¬ K (.int .i64 n)) {w w' : World} {v : Value} {l : List Int} (h : OnlyK K w w') (hl : IntsAt w v l) : IntsAt w' v l := by
  obtain ⟨a, cap, h1, h2, h3, h4⟩ := hl
  exact ⟨a, cap, h1, h2, h3, fun i hi => by obtain ⟨b, off, e, r⟩ := h4 i hi; exact ⟨b, off, e, (h.2.2 _ _ r.1).2.1 (hK _), r.2⟩⟩
/-- a box of one's own, of one kind of values -/
def FreshK (K : Value → Prop) (n0 : Nat) (u : Value) (w : World) : Prop := ∃ B x, u = .pointer (some ⟨B, 0, none⟩) ∧ n0 ≤ B ∧ w.cell? ⟨B, 0, none⟩ = some x ∧ K x ∧ w.frozen? ⟨B, 0, none⟩ = false
theorem FreshK.ext {K : Value → Prop} {n0 : Nat} {u : Value} {w w' : World} (h : FreshK K n0 u w) (hx : Ext w w') : FreshK K n0 u w' := by
  obtain ⟨B, x, h1, h2, h3, h4, h5⟩ := h
  exact ⟨B, x, h1, h2, hx.cell h3, h4, by rw [hx.frozen (cell_lt h3)]; exact h5⟩
theorem FreshK.only {K : Value → Prop} {n0 : Nat} {u : Value} {w w' : World} (h : FreshK K n0 u w) (hx : OnlyK K w w') : FreshK K n0 u w' := by
  obtain ⟨B, x, h1, h2, h3, h4, h5⟩ := h
  obtain ⟨g1, -, g3⟩ := hx.2.2 _ _ h3
  obtain ⟨y, hy, hc⟩ := g3 h4
  exact ⟨B, y, h1, h2, hc, hy, by rw [g1]; exact h5⟩
/-- its parts, told without taking it apart -/
noncomputable def FreshK.B {K : Value → Prop} {n0 : Nat} {u : Value} {w : World} (h : FreshK K n0 u w) : Nat := h.choose
theorem FreshK.spec {K : Value → Prop} {n0 : Nat} {u : Value} {w : World} (h : FreshK K n0 u w) : u = .pointer (some ⟨h.B, 0, none⟩) ∧ n0 ≤ h.B ∧ (∃ x, w.cell? ⟨h.B, 0, none⟩ = some x ∧ K x) ∧ w.frozen? ⟨h.B, 0, none⟩ = false := by
  obtain ⟨x, h1, h2, h3, h4, h5⟩ := h.choose_spec
  exact ⟨h1, h2, ⟨x, h3, h4⟩, h5⟩
noncomputable def MapV.B {M : Tally} {u : Value} {w : World} (h : MapV M u w) : Nat := Exists.choose h
theorem MapV.spec {M : Tally} {u : Value} {w : World} (h : MapV M u w) : u = .map (some h.B) ∧ MapIs w h.B M := Exists.choose_spec h
def IsMap (x : Value) : Prop := ∃ o, x = .map o
theorem MapV.only {M : Tally} {u : Value} {w w' : World} (h : MapV M u w) (hx : OnlyK IsMap w w') : MapV M u w' := by
  obtain ⟨B, e, es, hb, h1⟩ := h
  exact ⟨B, e, es, hx.2.1 _ _ hb (fun _ _ _ e => by cases e), h1⟩
theorem store_map {W w1 : World} {M : Tally} {B Bm : Nat} (hx : Ext W w1) (hB : W.heap.size ≤ B) (hc : ∃ x, w1.cell? ⟨B, 0, none⟩ = some x ∧ IsMap x) (hm : MapIs w1 Bm M) :
    OnlyK IsMap w1 (w1.setCell ⟨B, 0, none⟩ (.map (some Bm))) ∧ (w1.setCell ⟨B, 0, none⟩ (.map (some Bm))).cell? ⟨B, 0, none⟩ = some (.map (some Bm)) ∧ MapIs (w1.setCell ⟨B, 0, none⟩ (.map (some Bm))) Bm M ∧ Ext W (w1.setCell ⟨B, 0, none⟩ (.map (some Bm))) := by
  obtain ⟨x, hc, hk⟩ := hc
  refine ⟨OnlyK.set hc hk ⟨_, rfl⟩, set_cell hc _, ?_, hx.setCell hB _⟩
  obtain ⟨es, hb, h1⟩ := hm
  exact ⟨es, (OnlyK.set hc hk ⟨_, rfl⟩).2.1 _ _ hb (fun _ _ _ e => by cases e), h1⟩
/-- the box's value has been stored -/
def Stored (W0 : World) (M : Tally) (l : List Value) (_ : Value) (w : World) : Prop := ∃ B Bm, l = [.pointer (some ⟨B, 0, none⟩), .map (some Bm)] ∧ W0.heap.size ≤ B ∧ w.cell? ⟨B, 0, none⟩ = some (.map (some Bm)) ∧ MapIs w Bm M ∧ Ext W0 w
theorem Stored.ext {W0 : World} {M : Tally} {l : List Value} {u : Value} {w w' : World} (h : Stored W0 M l u w) (hx : Ext w w') : Stored W0 M l u w' := by
  obtain ⟨B, Bm, h1, h2, h3, h4, h5⟩ := h
  exact ⟨B, Bm, h1, h2, hx.cell h3, h4.kept (Below.block hx _ h4.lt), h5.trans hx⟩
noncomputable def Stored.B {W0 : World} {M : Tally} {l : List Value} {u : Value} {w : World} (h : Stored W0 M l u w) : Nat := Exists.choose h
noncomputable def Stored.Bm {W0 : World} {M : Tally} {l : List Value} {u : Value} {w : World} (h : Stored W0 M l u w) : Nat := (Exists.choose_spec h).choose
theorem Stored.spec {W0 : World} {M : Tally} {a c : Value} {u : Value} {w : World} (h : Stored W0 M [a, c] u w) : a = .pointer (some ⟨h.B, 0, none⟩) ∧ c = .map (some h.Bm) ∧ W0.heap.size ≤ h.B ∧ w.cell? ⟨h.B, 0, none⟩ = some (.map (some h.Bm)) ∧ MapIs w h.Bm M ∧ Ext W0 w := by
  have hh := (Exists.choose_spec h).choose_spec
  have h1 := List.cons.inj hh.1
  exact ⟨h1.1, (List.cons.inj h1.2).1, hh.2.1, hh.2.2.1, hh.2.2.2.1, hh.2.2.2.2⟩
set_option maxRecDepth 100000 in
set_option maxHeartbeats 4000000 in
theorem fewestOdd_ok (bv : Value) (b : Book) (hv : Valid b) (w : World) (hb : BookAt w bv b) :
    Calls Try.prog 54 #[bv] w fun e w' => ∃ u, e = .returned u ∧ IntsAt w' u (ints (oddL b)) ∧ Ext w w' := by
  have hn := hv.n
  have hS := hv.s
  have hb0 := hb
  obtain ⟨ba, bc, bs, bd, rfl, -⟩ := hb.open
  have hall := allOf_lt hn
  go_enter Try.func54, Try.ntmps54
  obtain ⟨all, hA⟩ : ∃ all, all = allOf b := ⟨_, rfl⟩
  have hsh : wrap64 (wrap64 (2 ^ b.spellings.length) - 1) = ((all : Nat) : Int) := by rw [hA]; exact shl_all ⟨b.spellings.length, by omega⟩
  go_wp2_with fail
  rw [hsh]
  try rw [← hA]
  have hml : ∀ n ∈ membersM (allOf b), n < b.spellings.length := fun n h => members_all h
  have hfin : FineT (b.sounds.toNat + 1) (canM b (membersM (allOf b))) := canM_fine hv _ [] hml (FineT.nil _)
  have hmem := fun w => members_any (allOf b) hall w
  have hcan := fun v w (hb : BookAt w (.agg #[.int .i64 b.sounds, .slice ba b.alphabets.length bc, .slice bs b.spellings.length bd]) b) hl => canBe_any _ v b hv (membersM (allOf b)) hml w hb hl
  have HF : Hid (oddL b = (fewTo (oddP (canM b (membersM (allOf b))) (allOf b)) (2 ^ b.spellings.length)).getD []) := Lib.hid rfl
  obtain ⟨M, hM⟩ : ∃ M, M = canM b (membersM (allOf b)) := ⟨_, rfl⟩
  obtain ⟨lm, hlm⟩ : ∃ lm, lm = membersM (allOf b) := ⟨_, rfl⟩
  rw [← hM, ← hA] at HF
  simp only [← hM] at hfin hcan
  simp only [← hlm] at hmem hcan hml
  rw [← hA] at hmem hall
  clear hM hlm hA
  obtain ⟨W, hW⟩ : ∃ W, W = ((w.alloc (.cells #[.int .i64 b.sounds, .slice ba b.alphabets.length bc, .slice bs b.spellings.length bd] 86)).alloc (.cells #[.int .i64 all] 3)) := ⟨_, rfl⟩
  have c0 : W.cell? ⟨w.heap.size, 0, none⟩ = some (.int .i64 b.sounds) := by rw [hW]; simp [go_sem]
  have c1 : W.cell? ⟨w.heap.size, 1, none⟩ = some (.slice ba b.alphabets.length bc) := by rw [hW]; simp [go_sem]
  have c2 : W.cell? ⟨w.heap.size, 2, none⟩ = some (.slice bs b.spellings.length bd) := by rw [hW]; simp [go_sem]
  have c3 : W.cell? ⟨w.heap.size + 1, 0, none⟩ = some (.int .i64 all) := by rw [hW]; simp [go_sem]
  have xW : Ext w W := by rw [hW]; exact (ext_alloc _ _).alloc _
  rw [← hW]
  clear hW
  apply Facts.Dep.wp_region (two_only IsMap) 5 [.val _, .val _, .fact (ListV (ints lm)), .fact (MapV M), .fact (FreshK IsMap W.heap.size), .on [4, 3] (Stored W M)] (by kernel_rfl) (by kernel_rfl) (.inl (by kernel_rfl)) (by kernel_rfl) ?keep ?main
  case keep => exact ⟨fun u a c hx h => IntsAt.ext h hx, fun _ u a c hx h => hx.ints (fun n ⟨o, e⟩ => by cases e) h, fun u a c hx h => MapV.ext hx h, fun _ u a c hx h => h.only hx, fun u a c hx h => h.ext hx, fun _ u a c hx h => h.only hx, fun l u a c hx h => h.ext hx, fun h => absurd h (Bool.eq_false_iff.1 (by kernel_rfl)), trivial⟩
  case main =>
    refine ⟨fun w1 hE hC hh => ?_, ?_⟩
    · clear hh hC
      have hx := hE (by kernel_rfl)
      have e0 := hx.cell c0
      have e1 := hx.cell c1
      have e2 := hx.cell c2
      go_simp
      exact ⟨Ext.refl _, rfl⟩
    refine ⟨fun w1 hE hC hh => ?_, ?_⟩
    · clear hh hC
      have hx := hE (by kernel_rfl)
      have e0 := hx.cell c3
      go_simp
      exact ⟨Ext.refl _, rfl⟩
    refine ⟨fun w1 hE hC hh => ?_, ?_⟩
    · clear hh hE hC
      go_simp
      refine (hmem _).mono ?_
      rintro e w' ⟨v, rfl, h1, hx2⟩
      exact ⟨_, rfl, hx2, h1⟩
    intro u2
    refine ⟨fun w1 hE hC hh => ?_, ?_⟩
    · have h2 : ListV (ints lm) u2 w1 := hh 2 _ List.mem_cons_self (by kernel_rfl)
      have hx := hE (by kernel_rfl)
      clear hh hC hE
      go_simp
      refine (hcan _ _ (hb0.ext (xW.trans hx)) h2).mono ?_
      rintro e w' ⟨B, rfl, -, h1, hx2⟩
      exact ⟨_, rfl, hx2, ⟨B, rfl, h1⟩⟩
    intro u3
    refine ⟨fun w1 hE hC hh => ?_, ?_⟩
    · have hx := hE (by kernel_rfl)
      clear hh hC hE
      have hsz := hx.size
      go_simp
      exact ⟨ext_alloc _ _, ⟨w1.heap.size, .map none, rfl, hsz, by simp [go_sem], ⟨none, rfl⟩, by simp [go_sem]⟩⟩
    intro u4
    refine ⟨fun w1 hE hC hh => ?_, ?_⟩
    · have hx := hE (by kernel_rfl)
      have h4 : FreshK IsMap W.heap.size u4 w1 := hh 4 _ List.mem_cons_self (by kernel_rfl)
      have h3 : MapV M u3 w1 := hh 3 _ (List.mem_cons_of_mem _ List.mem_cons_self) (by kernel_rfl)
      clear hh hC hE
      have s4 := h4.spec
      have s3 := h3.spec
      have hst := store_map hx s4.2.1 s4.2.2.1 s3.2
      have hc1 := s4.2.2.1.choose_spec.1
      generalize s4.2.2.1.choose = xx at *
      have hlt : h4.B < w1.heap.size := cell_lt hc1
      have hf := s4.2.2.2
      generalize h4.B = B at *
      generalize h3.B = Bm at *
      have e4 := s4.1
      have e3 := s3.1
      have hB := s4.2.1
      clear s4 s3 h4 h3
      subst e4
      subst e3
      go_simp
      exact ⟨B, Bm, rfl, hB, hst.2.1, hst.2.2.1, hst.2.2.2⟩
    intro u5 w1 hC hh
    have h5 : Stored W M [u4, u3] u5 w1 := hh 5 _ List.mem_cons_self
    clear hh hC
    have s5 := h5.spec
    generalize h5.B = B at *
    generalize h5.Bm = Bm at *
    have e4 := s5.1
    have e3 := s5.2.1
    have hcB := s5.2.2.2.1
    have hm := s5.2.2.2.2.1
    have hx := s5.2.2.2.2.2
    clear s5 h5
    subst e4
    subst e3
    have x1 := xW.trans hx
    replace c0 := hx.cell c0
    replace c1 := hx.cell c1
    replace c2 := hx.cell c2
    replace c3 := hx.cell c3
    have z0 := cell_lt c3
    clear hx hcan hmem
    go_simp
    go_wp2_with fail
    refine (fewest_odd Bm M (b.sounds.toNat + 1) hfin (by omega) all b.spellings.length hall hn _ _ w1 hcB c3 hm).mono ?_
    rintro e w2 ⟨u, f, rfl, hu, hx2⟩
    rw [← HF.out] at hu
    obtain ⟨ua, uc, rfl, -⟩ := hu.shape
    go_wp2
    go_ret
    exact ⟨_, rfl, hu, x1.trans hx2⟩
end Go.Proofs.Ytoifmphpeflliaa

namespace Go.Proofs.Ytoifmphpeflliaa
open Go.RowKit
set_option linter.unusedVariables false

set_option maxRecDepth 100000 in
set_option maxHeartbeats 2000000 in
theorem odd_ok (bv : Value) (b : Book) (he : errM b = 0) (w : World) (hb : BookAt w bv b) :
    Calls Try.prog 18 #[bv] w fun e w' => ∃ u, e = .returned (.tuple #[u, .int .i64 0]) ∧ IntsAt w' u (ints (oddL b)) ∧ Ext w w' := by
  have hv := valid_of he
  obtain ⟨ba, bc, bs, bd, rfl, -⟩ := hb.open
  go_enter Try.func18, Try.ntmps18
  go_wp2_with fail
  refine (open_any _ _ b [] _ (hb.ext (by first | (with_reducible exact Ext.refl _) | (with_reducible assumption) | (show Below _ _ _; go_grown; done))) SliceAt.nil).mono ?_
  rintro e w1 ⟨u, rfl, ⟨uv, rfl, hok, -⟩, hx1⟩
  rw [openM_nil, he] at hok ⊢
  have x1 : Ext w w1 := Ext.trans (by first | (with_reducible exact Ext.refl _) | (with_reducible assumption) | (show Below _ _ _; go_grown; done)) hx1
  have hub := hok rfl
  clear hok hx1
  obtain ⟨ca, cc, cs, cd, rfl, -⟩ := hub.open
  go_wp2_with fail
  refine (fewestOdd_ok _ b hv _ (hub.ext (by first | (with_reducible exact Ext.refl _) | (with_reducible assumption) | (show Below _ _ _; go_grown; done)))).mono ?_
  rintro e w2 ⟨u, rfl, hu, hx2⟩
  obtain ⟨ua, uc, rfl, -⟩ := hu.shape
  have x2 : Ext w w2 := x1.trans (Ext.trans (by first | (with_reducible exact Ext.refl _) | (with_reducible assumption) | (show Below _ _ _; go_grown; done)) hx2)
  clear hx2
  go_wp2
  go_ret2
  exact ⟨_, rfl, hu, x2⟩
end Go.Proofs.Ytoifmphpeflliaa

namespace Go.Proofs.Ytoifmphpeflliaa
open Go.RowKit
set_option linter.unusedVariables false

theorem openM_zero {b : Book} {l : List Int} (h : openM b l = 0) : errM b = 0 ∧ ∀ x ∈ l, 0 ≤ x ∧ x < b.spellings.length := by
  unfold openM at h
  split at h
  · rename_i h1; exact absurd h h1
  · rename_i h1
    split at h
    · cases h
    · rename_i h2
      refine ⟨by simpa using h1, fun x hx => ?_⟩
      have := withinM_spec (by simpa using h2) x hx
      omega

set_option maxRecDepth 100000 in
set_option maxHeartbeats 2000000 in
theorem count_err (bv : Value) (b : Book) (n : Int) (hn : I64 n) (he : openM b [n] ≠ 0) (w : World) (hb : BookAt w bv b) :
    Calls Try.prog 19 #[bv, .int .i64 n] w fun e w' => e = .returned (.tuple #[.int .i64 0, .int .i64 (openM b [n])]) ∧ Ext w w' := by
  obtain ⟨ba, bc, bs, bd, rfl, -⟩ := hb.open
  go_enter Try.func19, Try.ntmps19
  go_wp2_with fail
  refine (open_any _ _ b [n] _ (hb.ext (by first | (with_reducible exact Ext.refl _) | (with_reducible assumption) | (show Below _ _ _; go_grown; done))) (IntsAt.oneAt (by simp) hn)).mono ?_
  rintro e w1 ⟨u, rfl, ⟨uv, rfl, -, hbad⟩, hx1⟩
  have x1 : Ext w w1 := Ext.trans (by first | (with_reducible exact Ext.refl _) | (with_reducible assumption) | (show Below _ _ _; go_grown; done)) hx1
  obtain rfl := hbad he
  clear hbad hx1
  have he' : (openM b [n] != 0) = true := by simpa using he
  generalize hq : openM b [n] = er at *
  have Hq := Lib.hid hq
  clear hq
  have He := Lib.hid he
  clear he
  unfold emptyBook
  go_wp2
  go_ret2
  exact ⟨by rw [Hq.out]; rfl, x1.alloc _⟩
set_option maxRecDepth 100000 in
set_option maxHeartbeats 2000000 in
theorem reads_err (bv hv : Value) (b : Book) (n : Int) (hn : I64 n) (heard : List Int) (he : openM b [n] ≠ 0) (w : World) (hb : BookAt w bv b) (hh : IntsAt w hv heard) :
    Calls Try.prog 15 #[bv, .int .i64 n, hv] w fun e w' => e = .returned (.tuple #[.bool false, .int .i64 (openM b [n])]) ∧ Ext w w' := by
  obtain ⟨ba, bc, bs, bd, rfl, -⟩ := hb.open
  obtain ⟨ha, hc, rfl, -⟩ := hh.shape
  go_enter Try.func15, Try.ntmps15
  go_wp2_with fail
  refine (open_any _ _ b [n] _ (hb.ext (by first | (with_reducible exact Ext.refl _) | (with_reducible assumption) | (show Below _ _ _; go_grown; done))) (IntsAt.oneAt (by simp) hn)).mono ?_
  rintro e w1 ⟨u, rfl, ⟨uv, rfl, -, hbad⟩, hx1⟩
  have x1 : Ext w w1 := Ext.trans (by first | (with_reducible exact Ext.refl _) | (with_reducible assumption) | (show Below _ _ _; go_grown; done)) hx1
  obtain rfl := hbad he
  clear hbad hx1
  have he' : (openM b [n] != 0) = true := by simpa using he
  generalize hq : openM b [n] = er at *
  have Hq := Lib.hid hq
  clear hq
  have He := Lib.hid he
  clear he
  unfold emptyBook
  go_wp2
  go_ret2
  exact ⟨by rw [Hq.out]; rfl, x1.alloc _⟩
set_option maxRecDepth 100000 in
set_option maxHeartbeats 2000000 in
theorem reads_bad (bv hv : Value) (b : Book) (he : errM b = 0) (n : Nat) (hn : n < b.spellings.length) (heard : List Int) (hh : heardErrM b.sounds heard ≠ 0) (w : World) (hb : BookAt w bv b) (hhv : IntsAt w hv heard) :
    Calls Try.prog 15 #[bv, .int .i64 n, hv] w fun e w' => e = .returned (.tuple #[.bool false, .int .i64 (heardErrM b.sounds heard)]) ∧ Ext w w' := by
  have hv := valid_of he
  have hn5 : n < 5 := by have := hv.n; omega
  have hS := hv.s
  obtain ⟨ba, bc, bs, bd, rfl, -⟩ := hb.open
  obtain ⟨ha, hc, rfl, -⟩ := hhv.shape
  have hop := openM_ok he (l := [(n : Int)]) (by simp; omega)
  go_enter Try.func15, Try.ntmps15
  go_wp2_with fail
  refine (open_any _ _ b [(n : Int)] _ (hb.ext (by first | (with_reducible exact Ext.refl _) | (with_reducible assumption) | (show Below _ _ _; go_grown; done))) (IntsAt.oneAt (by simp) (by omega))).mono ?_
  rintro e w1 ⟨u, rfl, ⟨uv, rfl, hok, -⟩, hx1⟩
  rw [hop] at hok ⊢
  have x1 : Ext w w1 := Ext.trans (by first | (with_reducible exact Ext.refl _) | (with_reducible assumption) | (show Below _ _ _; go_grown; done)) hx1
  have hub := hok rfl
  clear hok hop hx1
  obtain ⟨ca, cc, cs, cd, rfl, -⟩ := hub.open
  go_wp2_with fail
  refine (heardError_any _ _ b hS heard _ (hub.ext (by first | (with_reducible exact Ext.refl _) | (with_reducible assumption) | (show Below _ _ _; go_grown; done))) (hhv.ext (x1.alloc _))).mono ?_
  rintro e w2 ⟨rfl, hx2⟩
  have x2 : Ext w1 w2 := hx2.of_alloc
  have hh' : (heardErrM b.sounds heard != 0) = true := by simpa using hh
  generalize hq : heardErrM b.sounds heard = er at *
  have Hq := Lib.hid hq
  clear hq
  have He := Lib.hid hh
  clear hh hx2
  go_wp2
  go_ret2
  exact ⟨by rw [Hq.out]; rfl, x1.trans x2⟩
set_option maxRecDepth 100000 in
set_option maxHeartbeats 2000000 in
theorem common_err (bv v : Value) (b : Book) (l : List Int) (he : openM b l ≠ 0) (w : World) (hb : BookAt w bv b) (hl : IntsAt w v l) :
    Calls Try.prog 48 #[bv, v] w fun e w' => e = .returned (.tuple #[.slice none 0 0, .int .i64 (openM b l)]) ∧ Ext w w' := by
  obtain ⟨ba, bc, bs, bd, rfl, -⟩ := hb.open
  obtain ⟨la, lc, rfl, -⟩ := hl.shape
  go_enter Try.func48, Try.ntmps48
  go_wp2_with fail
  refine (open_any _ _ b l _ (hb.ext (by first | (with_reducible exact Ext.refl _) | (with_reducible assumption) | (show Below _ _ _; go_grown; done))) (hl.ext (by first | (with_reducible exact Ext.refl _) | (with_reducible assumption) | (show Below _ _ _; go_grown; done)))).mono ?_
  rintro e w1 ⟨u, rfl, ⟨uv, rfl, -, hbad⟩, hx1⟩
  have x1 : Ext w w1 := Ext.trans (by first | (with_reducible exact Ext.refl _) | (with_reducible assumption) | (show Below _ _ _; go_grown; done)) hx1
  obtain rfl := hbad he
  clear hbad hx1
  have he' : (openM b l != 0) = true := by simpa using he
  generalize hq : openM b l = er at *
  have Hq := Lib.hid hq
  clear hq
  have He := Lib.hid he
  clear he
  unfold emptyBook
  go_wp2
  go_ret2
  exact ⟨by rw [Hq.out]; rfl, x1.alloc _⟩
set_option maxRecDepth 100000 in
set_option maxHeartbeats 2000000 in
theorem alike_err (bv : Value) (b : Book) (i j : Int) (hi : I64 i) (hj : I64 j) (he : openM b [i, j] ≠ 0) (w : World) (hb : BookAt w bv b) :
    Calls Try.prog 20 #[bv, .int .i64 i, .int .i64 j] w fun e w' => e = .returned (.tuple #[.int .i64 0, .int .i64 (openM b [i, j])]) ∧ Ext w w' := by
  obtain ⟨ba, bc, bs, bd, rfl, -⟩ := hb.open
  go_enter Try.func20, Try.ntmps20
  go_wp2_with fail
  refine (open_any _ _ b [i, j] _ (hb.ext (by first | (with_reducible exact Ext.refl _) | (with_reducible assumption) | (show Below _ _ _; go_grown; done))) (IntsAt.twoAt (by simp) hi hj)).mono ?_
  rintro e w1 ⟨u, rfl, ⟨uv, rfl, -, hbad⟩, hx1⟩
  have x1 : Ext w w1 := Ext.trans (by first | (with_reducible exact Ext.refl _) | (with_reducible assumption) | (show Below _ _ _; go_grown; done)) hx1
  obtain rfl := hbad he
  clear hbad hx1
  have he' : (openM b [i, j] != 0) = true := by simpa using he
  generalize hq : openM b [i, j] = er at *
  have Hq := Lib.hid hq
  clear hq
  have He := Lib.hid he
  clear he
  unfold emptyBook
  go_wp2
  go_ret2
  exact ⟨by rw [Hq.out]; rfl, x1.alloc _⟩
set_option maxRecDepth 100000 in
set_option maxHeartbeats 2000000 in
theorem odd_err (bv : Value) (b : Book) (he : errM b ≠ 0) (w : World) (hb : BookAt w bv b) :
    Calls Try.prog 18 #[bv] w fun e w' => e = .returned (.tuple #[.slice none 0 0, .int .i64 (errM b)]) ∧ Ext w w' := by
  obtain ⟨ba, bc, bs, bd, rfl, -⟩ := hb.open
  go_enter Try.func18, Try.ntmps18
  go_wp2_with fail
  refine (open_any _ _ b [] _ (hb.ext (by first | (with_reducible exact Ext.refl _) | (with_reducible assumption) | (show Below _ _ _; go_grown; done))) SliceAt.nil).mono ?_
  rintro e w1 ⟨u, rfl, ⟨uv, rfl, -, hbad⟩, hx1⟩
  rw [openM_nil] at hbad ⊢
  have x1 : Ext w w1 := Ext.trans (by first | (with_reducible exact Ext.refl _) | (with_reducible assumption) | (show Below _ _ _; go_grown; done)) hx1
  obtain rfl := hbad he
  clear hbad hx1
  have he' : (errM b != 0) = true := by simpa using he
  generalize hq : errM b = er at *
  have Hq := Lib.hid hq
  clear hq
  have He := Lib.hid he
  clear he
  unfold emptyBook
  go_wp2
  go_ret2
  exact ⟨by rw [Hq.out]; rfl, x1.alloc _⟩
end Go.Proofs.Ytoifmphpeflliaa

namespace Go.Proofs.Ytoifmphpeflliaa
open Go.RowKit
set_option linter.unusedVariables false

set_option maxRecDepth 100000 in
set_option maxHeartbeats 2000000 in
theorem first_err (bv : Value) (b : Book) (n : Int) (hn : I64 n) (he : openM b [n] ≠ 0) (w : World) (hb : BookAt w bv b) :
    Calls Try.prog 21 #[bv, .int .i64 n] w fun e w' => e = .returned (.tuple #[.slice none 0 0, .int .i64 (openM b [n])]) ∧ Ext w w' := by
  have hb0 := hb
  obtain ⟨ba, bc, bs, bd, rfl, -⟩ := hb.open
  go_enter Try.func21, Try.ntmps21
  go_wp2_with fail
  refine (common_err _ _ b [n] he _ (hb0.ext (by first | (with_reducible exact Ext.refl _) | (with_reducible assumption) | (show Below _ _ _; go_grown; done))) (IntsAt.oneAt (by simp) hn)).mono ?_
  rintro e w1 ⟨rfl, hx1⟩
  have x1 : Ext w w1 := Ext.trans (by first | (with_reducible exact Ext.refl _) | (with_reducible assumption) | (show Below _ _ _; go_grown; done)) hx1
  clear hx1
  generalize hq : openM b [n] = er at *
  have Hq := Lib.hid hq
  clear hq
  go_wp2
  go_ret2
  exact ⟨by rw [Hq.out]; rfl, x1⟩
set_option maxRecDepth 100000 in
set_option maxHeartbeats 2000000 in
theorem alike_same (bv : Value) (b : Book) (he : errM b = 0) (i : Nat) (hi : i < b.spellings.length) (w : World) (hb : BookAt w bv b) :
    Calls Try.prog 20 #[bv, .int .i64 i, .int .i64 i] w fun e w' => e = .returned (.tuple #[.int .i64 0, .int .i64 2]) ∧ Ext w w' := by
  have hv := valid_of he
  have hi5 : i < 5 := by have := hv.n; omega
  obtain ⟨ba, bc, bs, bd, rfl, -⟩ := hb.open
  have hop := openM_ok he (l := [(i : Int), (i : Int)]) (by simp; omega)
  go_enter Try.func20, Try.ntmps20
  go_wp2_with fail
  refine (open_any _ _ b [(i : Int), (i : Int)] _ (hb.ext (by first | (with_reducible exact Ext.refl _) | (with_reducible assumption) | (show Below _ _ _; go_grown; done))) (IntsAt.twoAt (m := (i : Int)) (n := (i : Int)) (by simp) (by omega) (by omega))).mono ?_
  rintro e w1 ⟨u, rfl, ⟨uv, rfl, hok, -⟩, hx1⟩
  rw [hop] at hok ⊢
  have x1 : Ext w w1 := Ext.trans (by first | (with_reducible exact Ext.refl _) | (with_reducible assumption) | (show Below _ _ _; go_grown; done)) hx1
  have hub := hok rfl
  clear hok hop hx1
  obtain ⟨ca, cc, cs, cd, rfl, -⟩ := hub.open
  go_wp2
  go_ret2
  exact ⟨rfl, x1.alloc _⟩
set_option maxRecDepth 100000 in
set_option maxHeartbeats 2000000 in
theorem common_none (bv v : Value) (b : Book) (he : errM b = 0) (w : World) (hb : BookAt w bv b) (hlv : IntsAt w v []) :
    Calls Try.prog 48 #[bv, v] w fun e w' => e = .returned (.tuple #[.slice none 0 0, .int .i64 2]) ∧ Ext w w' := by
  obtain ⟨ba, bc, bs, bd, rfl, -⟩ := hb.open
  obtain ⟨la, lc, rfl, -⟩ := hlv.shape
  have hop := openM_ok he (l := []) (by simp)
  go_enter Try.func48, Try.ntmps48
  go_wp2_with fail
  refine (open_any _ _ b [] _ (hb.ext (by first | (with_reducible exact Ext.refl _) | (with_reducible assumption) | (show Below _ _ _; go_grown; done))) (hlv.ext (by first | (with_reducible exact Ext.refl _) | (with_reducible assumption) | (show Below _ _ _; go_grown; done)))).mono ?_
  rintro e w1 ⟨u, rfl, ⟨uv, rfl, hok, -⟩, hx1⟩
  rw [hop] at hok ⊢
  have x1 : Ext w w1 := Ext.trans (by first | (with_reducible exact Ext.refl _) | (with_reducible assumption) | (show Below _ _ _; go_grown; done)) hx1
  have hub := hok rfl
  clear hok hop hx1
  obtain ⟨ca, cc, cs, cd, rfl, -⟩ := hub.open
  go_wp2
  go_ret2
  exact ⟨rfl, x1.alloc _⟩
set_option maxRecDepth 100000 in
set_option maxHeartbeats 2000000 in
theorem common_arg (bv v : Value) (b : Book) (he : errM b = 0) (l : List Int) (hl : ∀ n ∈ l, 0 ≤ n ∧ n < b.spellings.length) (hne : l ≠ []) (hasc : ascM l = false) (w : World) (hb : BookAt w bv b) (hlv : IntsAt w v l) :
    Calls Try.prog 48 #[bv, v] w fun e w' => e = .returned (.tuple #[.slice none 0 0, .int .i64 2]) ∧ Ext w w' := by
  obtain ⟨ba, bc, bs, bd, rfl, -⟩ := hb.open
  obtain ⟨la, lc, rfl, -⟩ := hlv.shape
  have hpos' : ((l.length : Int) == 0) = false := by
    rw [beq_eq_false_iff_ne]
    intro h
    exact hne (List.eq_nil_of_length_eq_zero (by omega))
  have hop := openM_ok he (l := l) hl
  go_enter Try.func48, Try.ntmps48
  go_wp2_with fail
  refine (open_any _ _ b l _ (hb.ext (by first | (with_reducible exact Ext.refl _) | (with_reducible assumption) | (show Below _ _ _; go_grown; done))) (hlv.ext (by first | (with_reducible exact Ext.refl _) | (with_reducible assumption) | (show Below _ _ _; go_grown; done)))).mono ?_
  rintro e w1 ⟨u, rfl, ⟨uv, rfl, hok, -⟩, hx1⟩
  rw [hop] at hok ⊢
  have x1 : Ext w w1 := Ext.trans (by first | (with_reducible exact Ext.refl _) | (with_reducible assumption) | (show Below _ _ _; go_grown; done)) hx1
  have hub := hok rfl
  clear hok hop hx1
  obtain ⟨ca, cc, cs, cd, rfl, -⟩ := hub.open
  have Hne := Lib.hid hne
  clear hne
  go_wp2_with fail
  refine (ascending_any _ l _ (hlv.ext (x1.alloc _))).mono ?_
  rintro e w2 ⟨rfl, hx2⟩
  rw [hasc]
  have x2 : Ext w1 w2 := hx2.of_alloc
  clear hx2
  go_wp2
  go_ret2
  exact ⟨rfl, x1.trans x2⟩
end Go.Proofs.Ytoifmphpeflliaa
