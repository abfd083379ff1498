/-
  HOW MANY SOUND STRINGS TWO SPELLINGS HAVE, AND HAVE IN COMMON.
  WHAT Alike OF THE REFERENCE RETURNS.
  WHAT Alike OF THE REFERENCE RETURNS where there is no error.
  ALL ASCENDING LISTS OF SO MANY NUMBERS BELOW ANOTHER ONE, IN THEIR ORDER, AND WHICH OF THEM IS THE FEWEST WITHOUT WHICH ALL OTHERS ARE ALIKE.
  THE WALK OF EarAlikes, for whatever the two layers answer, where they answer the same.
  WHAT EarCommons RETURNS: true.
  WHAT Odd OF THE REFERENCE RETURNS, where what Choices returns is known.
-/
import Derived.Test.YtagpngddaenkkaaBunV
namespace Go.Proofs.Ytagpngddaenkkaa
open Go.RowKit
set_option linter.unusedVariables false

def keysOf (b : Book) (i : Nat) : List (List Int) := (canM b [i]).map (·.1)
theorem mem_keysOf {b : Book} {i : Nat} {t : List Int} : t ∈ keysOf b i ↔ t ∈ stringsOf b i := by
  unfold keysOf
  rw [canM_keys]
  simp
def bothOf (b : Book) (i j : Nat) : List (List Int) := (keysOf b i).filter fun t => decide (t ∈ keysOf b j)
theorem mem_bothOf {b : Book} {i j : Nat} {t : List Int} : t ∈ bothOf b i j ↔ t ∈ stringsOf b i ∧ t ∈ stringsOf b j := by
  unfold bothOf
  rw [List.mem_filter, decide_eq_true_iff, mem_keysOf, mem_keysOf]
theorem keysOf_nodup {b : Book} (hv : Valid b) {i : Nat} (hi : i < b.spellings.length) : (keysOf b i).Nodup := canM_nodup hv fun n hn => by rw [List.mem_singleton] at hn; rw [hn]; exact hi
theorem bothOf_nodup {b : Book} (hv : Valid b) {i j : Nat} (hi : i < b.spellings.length) : (bothOf b i j).Nodup := List.Pairwise.filter _ (keysOf_nodup hv hi)
theorem filter_le (f : Nat → Bool) (N : Nat) : ((List.range N).filter f).length ≤ N := by
  have := List.length_filter_le f (List.range N)
  rwa [List.length_range] at this
theorem keys_le {b : Book} (hv : Valid b) {n : Nat} (hn : n < b.spellings.length) : (keysOf b n).length ≤ 3125 := by
  have h := many_can hv hn (f := fun c => @decide (codeOf b n c) (Classical.propDecidable _)) (fun c _ => @decide_eq_true_iff _ (Classical.propDecidable _))
  rw [many_filter] at h
  have e : (keysOf b n).length = (canM b [n]).length := by unfold keysOf; rw [List.length_map]
  rw [e, ← h]
  exact filter_le _ _
theorem both_le {b : Book} (hv : Valid b) {i j : Nat} (hi : i < b.spellings.length) (hj : j < b.spellings.length) : (bothOf b i j).length ≤ (keysOf b i).length ∧ (bothOf b i j).length ≤ (keysOf b j).length := by
  refine ⟨List.length_filter_le _ _, ?_⟩
  have : (bothOf b i j).length = (bothOf b j i).length := ((List.perm_ext_iff_of_nodup (bothOf_nodup hv hi) (bothOf_nodup hv hj)).2 fun t => by rw [mem_bothOf, mem_bothOf]; exact And.comm).length_eq
  rw [this]
  exact List.length_filter_le _ _
theorem many_both {b : Book} (hv : Valid b) {i j : Nat} (hi : i < b.spellings.length) (hj : j < b.spellings.length) {f : Nat → Bool} (hf : ∀ c, c < 3125 → (f c = true ↔ ∀ n ∈ [i, j], codeOf b n c)) : manyM (marks f) = ((bothOf b i j).length : Nat) := by
  have hl : ∀ n ∈ [i, j], n < b.spellings.length := by simp [hi, hj]
  have hall : ∀ t, All b [i, j] t ↔ t ∈ bothOf b i j := fun t => by rw [mem_bothOf]; simp [All]
  refine many_keys (bothOf_nodup hv hi) (fun t ht => (all_digits hv hl (by simp) ((hall t).2 ht)).1) (fun t ht => (all_digits hv hl (by simp) ((hall t).2 ht)).2) fun c hc => ?_
  rw [hf c hc, all_codes hv hl (by simp)]
  exact ⟨fun ⟨t, ht, e⟩ => ⟨t, (hall t).1 ht, e⟩, fun ⟨t, ht, e⟩ => ⟨t, (hall t).2 ht, e⟩⟩
theorem settled_is {b : Book} (hv : Valid b) {i j : Nat} (hi : i < b.spellings.length) (hj : j < b.spellings.length) : AlikeIs b i j (settledM (bothOf b i j).length ((keysOf b i).length * (keysOf b j).length)) := by
  have h1 := both_le hv hi hj
  have hki : (keysOf b i).length = (canM b [i]).length := by unfold keysOf; rw [List.length_map]
  have hkj : (keysOf b j).length = (canM b [j]).length := by unfold keysOf; rw [List.length_map]
  have hpi : 1 ≤ (keysOf b i).length := by rw [hki]; exact canM_pos hv i hi
  have hpj : 1 ≤ (keysOf b j).length := by rw [hkj]; exact canM_pos hv j hj
  have hmul : 1 * 1 ≤ (keysOf b i).length * (keysOf b j).length := Nat.mul_le_mul hpi hpj
  have hcast : (((keysOf b i).length : Int) * ((keysOf b j).length : Int)) = (((keysOf b i).length * (keysOf b j).length : Nat) : Int) := by simp
  rw [hcast]
  have hno : (bothOf b i j).length = 0 ↔ ¬ ∃ k, k ∈ stringsOf b i ∧ k ∈ stringsOf b j := by
    constructor
    · rintro h ⟨k, hk⟩
      have := mem_bothOf.2 hk
      rw [List.eq_nil_of_length_eq_zero h] at this
      cases this
    · intro h
      rcases Nat.eq_zero_or_pos (bothOf b i j).length with h0 | h0
      · exact h0
      · exact absurd ⟨_, mem_bothOf.1 (List.getElem_mem h0)⟩ h
  have hone : (bothOf b i j).length = (keysOf b i).length * (keysOf b j).length ↔ ∃ k, (∀ x, x ∈ stringsOf b i ↔ x = k) ∧ ∀ x, x ∈ stringsOf b j ↔ x = k := by
    constructor
    · intro h
      have hb1 : (keysOf b j).length = 1 := by
        rcases Nat.lt_or_ge 1 (keysOf b j).length with h2 | h2
        · have := Nat.mul_le_mul_left (keysOf b i).length h2
          omega
        · omega
      rw [hb1, Nat.mul_one] at h
      have ha1 : (keysOf b i).length = 1 := by omega
      obtain ⟨k, hk⟩ := one_key (by rw [← hki]; exact ha1)
      obtain ⟨k', hk'⟩ := one_key (by rw [← hkj]; exact hb1)
      have h0 : 0 < (bothOf b i j).length := by omega
      have ht := mem_bothOf.1 (List.getElem_mem h0)
      have e1 := (hk _).1 (mem_keysOf.2 ht.1)
      have e2 := (hk' _).1 (mem_keysOf.2 ht.2)
      exact ⟨k, fun x => by rw [← mem_keysOf]; exact hk x, fun x => by rw [← mem_keysOf, ← e1, e2]; exact hk' x⟩
    · rintro ⟨k, h2, h3⟩
      have ha1 : (keysOf b i).length = 1 := by rw [hki]; exact len_one (keysOf_nodup hv hi) (k := k) fun x => by rw [← h2 x]; exact mem_keysOf
      have hb1 : (keysOf b j).length = 1 := by rw [hkj]; exact len_one (keysOf_nodup hv hj) (k := k) fun x => by rw [← h3 x]; exact mem_keysOf
      have hm : k ∈ bothOf b i j := mem_bothOf.2 ⟨(h2 k).2 rfl, (h3 k).2 rfl⟩
      have := List.length_pos_of_mem hm
      rw [ha1, hb1]
      omega
  unfold settledM
  by_cases he : (bothOf b i j).length = (keysOf b i).length * (keysOf b j).length
  · rw [if_pos (by rw [he])]
    refine ⟨.inr (.inl rfl), ⟨fun h => absurd h (by decide), fun h => absurd (hno.2 h) (by omega)⟩, ⟨fun _ => hone.1 he, fun _ => rfl⟩⟩
  · rw [if_neg (by omega)]
    by_cases hz : (bothOf b i j).length = 0
    · rw [if_pos (by omega)]
      exact ⟨.inr (.inr rfl), ⟨fun _ => hno.1 hz, fun _ => rfl⟩, ⟨fun h => absurd h (by decide), fun h => absurd (hone.2 h) he⟩⟩
    · rw [if_neg (by omega)]
      exact ⟨.inl rfl, ⟨fun h => absurd h (by decide), fun h => absurd (hno.2 h) hz⟩, ⟨fun h => absurd h (by decide), fun h => absurd (hone.2 h) he⟩⟩
theorem AlikeIs.uniq {b : Book} {i j : Nat} {m n : Int} (h : AlikeIs b i j m) (g : AlikeIs b i j n) : m = n := by
  have h1 := h.dom
  have g1 := g.dom
  have e2 : m = 2 ↔ n = 2 := h.never.trans g.never.symm
  have e1 : m = 1 ↔ n = 1 := h.must.trans g.must.symm
  omega
end Go.Proofs.Ytagpngddaenkkaa

namespace Go.Proofs.Ytagpngddaenkkaa
open Go.RowKit
set_option linter.unusedVariables false

set_option maxRecDepth 100000 in
set_option maxHeartbeats 2000000 in
theorem refAlike_err (bv : Value) (b : Book) (i j : Int) (hi : I64 i) (hj : I64 j) (he : openM b [i, j] ≠ 0) (w : World) (hb : BookAt w bv b) :
    Calls Try.prog 30 #[bv, .int .i64 i, .int .i64 j] w fun e w' => e = .returned (.tuple #[.int .i64 0, .int .i64 (openM b [i, j])]) ∧ Ext w w' := by
  obtain ⟨ba, bc, bs, bd, rfl, -, -, -, hsl, hsc, -⟩ := hb.open
  have hind := fun v w hb hl => indices_any (.agg #[.int .i64 b.sounds, .slice ba b.alphabets.length bc, .slice bs b.spellings.length bd]) v b [i, j] b.spellings.length w hb hl (by omega)
  rw [indices_open] at hind
  have he1 : (openM b [i, j] != 0) = true := by simpa using he
  have he2 : (openM b [i, j] == 0) = false := by simpa using he
  generalize openM b [i, j] = er at *
  clear he
  go_enter Try.func30, Try.ntmps30
  (go_wp2_with fail; have hB : Boxed ((w).alloc (.cells #[.int .i64 b.sounds, .slice ba b.alphabets.length bc, .slice bs b.spellings.length bd] 25)) w.heap.size b ba bc bs bd := ⟨by simp [go_sem], by simp [go_sem], by simp [go_sem], hb.ext (by first | (with_reducible exact Ext.refl _) | (with_reducible assumption) | (show Below _ _ _; go_grown; done))⟩; have hx : Ext w ((w).alloc (.cells #[.int .i64 b.sounds, .slice ba b.alphabets.length bc, .slice bs b.spellings.length bd] 25)) := ext_alloc _ _; have hz : ((w).alloc (.cells #[.int .i64 b.sounds, .slice ba b.alphabets.length bc, .slice bs b.spellings.length bd] 25)).heap.size = w.heap.size + 1 := (by simp); generalize ((w).alloc (.cells #[.int .i64 b.sounds, .slice ba b.alphabets.length bc, .slice bs b.spellings.length bd] 25)) = W at *; have c0 := hB.c0; have c1 := hB.c1; have c2 := hB.c2; have z1 := hB.lt)
  refine (hind _ _ (hB.at_.ext (ext_alloc _ _)) (IntsAt.twoAt (m := j) (n := i) hz hi hj)).mono ?_
  rintro e w1 ⟨rfl, h1⟩
  have x1 := hx.trans h1.of_alloc
  go_wp2
  go_ret2
  exact ⟨rfl, x1⟩
set_option maxRecDepth 100000 in
set_option maxHeartbeats 2000000 in
theorem refAlike_same (bv : Value) (b : Book) (i : Int) (hi : I64 i) (he : openM b [i, i] = 0) (w : World) (hb : BookAt w bv b) :
    Calls Try.prog 30 #[bv, .int .i64 i, .int .i64 i] w fun e w' => e = .returned (.tuple #[.int .i64 0, .int .i64 2]) ∧ Ext w w' := by
  obtain ⟨ba, bc, bs, bd, rfl, -, -, -, hsl, hsc, -⟩ := hb.open
  have hind := fun v w hb hl => indices_any (.agg #[.int .i64 b.sounds, .slice ba b.alphabets.length bc, .slice bs b.spellings.length bd]) v b [i, i] b.spellings.length w hb hl (by omega)
  rw [indices_open, he] at hind
  clear he
  go_enter Try.func30, Try.ntmps30
  (go_wp2_with fail; have hB : Boxed ((w).alloc (.cells #[.int .i64 b.sounds, .slice ba b.alphabets.length bc, .slice bs b.spellings.length bd] 25)) w.heap.size b ba bc bs bd := ⟨by simp [go_sem], by simp [go_sem], by simp [go_sem], hb.ext (by first | (with_reducible exact Ext.refl _) | (with_reducible assumption) | (show Below _ _ _; go_grown; done))⟩; have hx : Ext w ((w).alloc (.cells #[.int .i64 b.sounds, .slice ba b.alphabets.length bc, .slice bs b.spellings.length bd] 25)) := ext_alloc _ _; have hz : ((w).alloc (.cells #[.int .i64 b.sounds, .slice ba b.alphabets.length bc, .slice bs b.spellings.length bd] 25)).heap.size = w.heap.size + 1 := (by simp); generalize ((w).alloc (.cells #[.int .i64 b.sounds, .slice ba b.alphabets.length bc, .slice bs b.spellings.length bd] 25)) = W at *; have c0 := hB.c0; have c1 := hB.c1; have c2 := hB.c2; have z1 := hB.lt)
  refine (hind _ _ (hB.at_.ext (ext_alloc _ _)) (IntsAt.twoAt (m := i) (n := i) hz hi hi)).mono ?_
  rintro e w1 ⟨rfl, h1⟩
  have x1 := hx.trans h1.of_alloc
  go_wp2
  go_ret2
  exact ⟨rfl, x1⟩
end Go.Proofs.Ytagpngddaenkkaa

namespace Go.Proofs.Ytagpngddaenkkaa
open Go.RowKit
set_option linter.unusedVariables false

set_option maxRecDepth 100000 in
set_option maxHeartbeats 4000000 in
theorem refAlike_ok (bv : Value) (b : Book) (he : errM b = 0) (i j : Nat) (hi : i < b.spellings.length) (hj : j < b.spellings.length) (hij : i ≠ j) (w : World) (hb : BookAt w bv b) :
    Calls Try.prog 30 #[bv, .int .i64 i, .int .i64 j] w fun e w' => e = .returned (.tuple #[.int .i64 (settledM (bothOf b i j).length ((keysOf b i).length * (keysOf b j).length)), .int .i64 0]) ∧ Ext w w' := by
  have hv := valid_of he
  have hn5 := hv.n
  have hop := openM_ok he (l := [(i : Int), (j : Int)]) (by simp; omega)
  have hle := fun n (hn : n < b.spellings.length) => keys_le hv hn
  have hki : (keysOf b i).length = (canM b [i]).length := by unfold keysOf; rw [List.length_map]
  have hkj : (keysOf b j).length = (canM b [j]).length := by unfold keysOf; rw [List.length_map]
  have hmi : ∀ f : Nat → Bool, (∀ c, c < 3125 → (f c = true ↔ codeOf b i c)) → manyM (marks f) = (keysOf b i).length := fun f hf => by rw [hki]; exact many_can hv hi hf
  have hmj : ∀ f : Nat → Bool, (∀ c, c < 3125 → (f c = true ↔ codeOf b j c)) → manyM (marks f) = (keysOf b j).length := fun f hf => by rw [hkj]; exact many_can hv hj hf
  have hmb : ∀ f : Nat → Bool, (∀ c, c < 3125 → (f c = true ↔ ∀ n ∈ [i, j], codeOf b n c)) → manyM (marks f) = ((bothOf b i j).length : Nat) := fun f hf => many_both hv hi hj hf
  have hbi := hle i hi
  have hbj := hle j hj
  obtain ⟨ba, bc, bs, bd, rfl, -, -, -, hsl, hsc, -, -, hsps⟩ := hb.open
  have hsps0 := hsps
  obtain ⟨_, _, hea, -, -, hh⟩ := hsps
  obtain ⟨sb, so, rfl, p0, p1, -, -⟩ := hh i hi
  have hea1 := (Value.slice.inj hea).1
  subst hea1
  obtain ⟨sb2, so2, e2, q0, q1, -, -⟩ := hh j hj
  simp only [Option.some.injEq, Addr.mk.injEq, and_true] at e2
  obtain ⟨rfl, rfl⟩ := e2
  have hind := fun v w hb hl => indices_any (.agg #[.int .i64 b.sounds, .slice ba b.alphabets.length bc, .slice (some ⟨sb, so, none⟩) b.spellings.length bd]) v b [(i : Int), (j : Int)] b.spellings.length w hb hl (by omega)
  rw [indices_open, hop] at hind
  have hsi := fun w hb => strings_of he hi (.agg #[.int .i64 b.sounds, .slice ba b.alphabets.length bc, .slice (some ⟨sb, so, none⟩) b.spellings.length bd]) w hb
  have hsj := fun w hb => strings_of he hj (.agg #[.int .i64 b.sounds, .slice ba b.alphabets.length bc, .slice (some ⟨sb, so, none⟩) b.spellings.length bd]) w hb
  have hsh := fun v w hb hl => shared_any (.agg #[.int .i64 b.sounds, .slice ba b.alphabets.length bc, .slice (some ⟨sb, so, none⟩) b.spellings.length bd]) v b he [i, j] (by simp [hi, hj]) (by simp) w hb hl
  generalize (keysOf b i).length = ci at *
  generalize (keysOf b j).length = cj at *
  generalize (bothOf b i j).length = cb at *
  generalize b.spellings[i] = s1 at *
  generalize b.spellings[j] = s2 at *
  have Hmi := Lib.hid hmi
  have Hmj := Lib.hid hmj
  have Hmb := Lib.hid hmb
  have hij' : ((i : Int) == (j : Int)) = false := by rw [beq_eq_false_iff_ne]; omega
  have k1 : (i : Int) < (b.spellings.length : Int) := by omega
  have k2 : (j : Int) < (b.spellings.length : Int) := by omega
  have hmul : ci * cj ≤ 3125 * 3125 := Nat.mul_le_mul hbi hbj
  have wm : IntKind.i64.wrap ((ci : Int) * (cj : Int)) = (ci : Int) * (cj : Int) := by
    have : ((ci : Int) * (cj : Int)) = ((ci * cj : Nat) : Int) := by simp
    rw [this]
    exact IntWalk.i64_in _ (by omega)
  have hIi : I64 (i : Int) := by unfold I64; omega
  have hIj : I64 (j : Int) := by unfold I64; omega
  clear hmi hmj hmb hea hh hop hki hkj hle hij hmul hsps0
  go_enter Try.func30, Try.ntmps30
  go_wp2_with fail
  have hB : Boxed ((w).alloc (.cells #[.int .i64 b.sounds, .slice ba b.alphabets.length bc, .slice (some ⟨sb, so, none⟩) b.spellings.length bd] 25)) w.heap.size b ba bc (some ⟨sb, so, none⟩) bd := ⟨by simp [go_sem], by simp [go_sem], by simp [go_sem], hb.ext (by first | (with_reducible exact Ext.refl _) | (with_reducible assumption) | (show Below _ _ _; go_grown; done))⟩
  have hx : Ext w ((w).alloc (.cells #[.int .i64 b.sounds, .slice ba b.alphabets.length bc, .slice (some ⟨sb, so, none⟩) b.spellings.length bd] 25)) := ext_alloc _ _
  have hz : ((w).alloc (.cells #[.int .i64 b.sounds, .slice ba b.alphabets.length bc, .slice (some ⟨sb, so, none⟩) b.spellings.length bd] 25)).heap.size = w.heap.size + 1 := by simp
  replace p0 := hx.cell p0
  replace p1 := hx.cell p1
  replace q0 := hx.cell q0
  replace q1 := hx.cell q1
  generalize ((w).alloc (.cells #[.int .i64 b.sounds, .slice ba b.alphabets.length bc, .slice (some ⟨sb, so, none⟩) b.spellings.length bd] 25)) = W at *
  have c0 := hB.c0
  have c1 := hB.c1
  have c2 := hB.c2
  have z1 := hB.lt
  refine (hind _ _ (hB.at_.ext (ext_alloc _ _)) (IntsAt.twoAt (m := j) (n := i) hz hIi hIj)).mono ?_
  rintro e w1 ⟨rfl, h1⟩
  replace h1 := h1.of_alloc
  (replace hB := hB.ext h1; replace c0 := hB.c0; replace c1 := hB.c1; replace c2 := hB.c2; replace z1 := hB.lt; have x1 := Ext.trans (by assumption) h1)
  replace p0 := h1.cell p0
  replace p1 := h1.cell p1
  replace q0 := h1.cell q0
  replace q1 := h1.cell q1
  clear h1 hind hx
  go_wp2_with fail
  apply Facts.wp_region [.val _, .val _, .val _, .val _, .val _, .val _, .fact (MarkV (codeOf b i)), .val (.int .i64 (ci : Nat)), .val _, .val _, .val _, .val _, .val _, .val _, .fact (MarkV (codeOf b j)), .val (.int .i64 (cj : Nat)), .val (.int .i64 ((ci : Int) * (cj : Int))), .val _] (by kernel_rfl) (by kernel_rfl) ?keep ?main
  case keep => exact ⟨fun u a c hx h => h.ext hx, fun u a c hx h => h.ext hx, trivial⟩
  case main =>
    iterate 6 (refine ⟨fun w1 hx hh => ?_, ?_⟩; focus (clear hh; have e0 := hx.cell c0; have e1 := hx.cell c1; have e2 := hx.cell c2; have e3 := hx.cell p0; have e4 := hx.cell p1; go_simp; first | exact ⟨Ext.refl _, rfl⟩ | exact Ext.refl _))
    refine ⟨fun w2 hx hh => ?_, ?_⟩
    · clear hh
      go_simp
      exact hsi w2 (hB.at_.ext hx)
    intro u6
    refine ⟨fun w2 hx hh => ?_, ?_⟩
    · have h6 : MarkV (codeOf b i) u6 w2 := hh 6 _ List.mem_cons_self (by kernel_rfl)
      clear hh
      go_simp
      refine (many_mark h6 Hmi.out).mono ?_
      rintro e w' ⟨rfl, rfl⟩
      exact ⟨_, rfl, Ext.refl _, rfl⟩
    iterate 6 (refine ⟨fun w1 hx hh => ?_, ?_⟩; focus (clear hh; have e0 := hx.cell c0; have e1 := hx.cell c1; have e2 := hx.cell c2; have e3 := hx.cell q0; have e4 := hx.cell q1; go_simp; first | exact ⟨Ext.refl _, rfl⟩ | exact Ext.refl _))
    refine ⟨fun w2 hx hh => ?_, ?_⟩
    · clear hh
      go_simp
      exact hsj w2 (hB.at_.ext hx)
    intro u14
    refine ⟨fun w2 hx hh => ?_, ?_⟩
    · have h14 : MarkV (codeOf b j) u14 w2 := hh 14 _ List.mem_cons_self (by kernel_rfl)
      clear hh
      go_simp
      refine (many_mark h14 Hmj.out).mono ?_
      rintro e w' ⟨rfl, rfl⟩
      exact ⟨_, rfl, Ext.refl _, rfl⟩
    iterate 2 (refine ⟨fun w1 hx hh => ?_, ?_⟩; focus (clear hh; skip; go_simp; first | exact ⟨Ext.refl _, rfl⟩ | exact Ext.refl _))
    intro w3 h3 hh
    (replace hB := hB.ext h3; replace c0 := hB.c0; replace c1 := hB.c1; replace c2 := hB.c2; replace z1 := hB.lt; have x3 := Ext.trans (by assumption) h3)
    clear hh h3 hsi hsj x1 p0 p1 q0 q1
    go_simp
    go_wp2_with fail
    refine (hsh _ _ (hB.at_.ext (ext_alloc _ _)) (IntsAt.twoAt (m := j) (n := i) rfl hIi hIj)).mono ?_
    rintro e w4 ⟨u, rfl, h4, hmk⟩
    have x4 := x3.trans h4.of_alloc
    clear h4 hsh hB c0 c1 c2 z1 x3
    go_wp2_with fail
    refine (many_mark hmk Hmb.out).mono ?_
    rintro e w5 ⟨rfl, rfl⟩
    go_wp2_with fail
    refine (settled_any _ _ _).mono ?_
    rintro e w6 ⟨rfl, rfl⟩
    go_wp2
    go_ret2
    exact ⟨rfl, x4⟩
end Go.Proofs.Ytagpngddaenkkaa

namespace Go.Proofs.Ytagpngddaenkkaa
open Go.RowKit
set_option linter.unusedVariables false

def leastOf (l : List Nat) : Nat := match l.getLast? with | none => 0 | some z => z + 1
def chStep (n : Nat) (l : List Nat) : List (List Nat) := (List.range' (leastOf l) (n - leastOf l)).map fun m => l ++ [m]
def chTo (n : Nat) : Nat → List (List Nat)
  | 0 => [[]]
  | k + 1 => (chTo n k).flatMap (chStep n)
theorem ch_fine : ∀ n many : Fin 6, ∀ L ∈ chTo n.1 many.1, L.length = many.1 ∧ L.Pairwise (· < ·) ∧ ∀ x ∈ L, x < n.1 := by decide +kernel
theorem ch_all : ∀ n : Fin 6, ∀ s : Fin 32, s.1 < 2 ^ n.1 → membersM s.1 ∈ chTo n.1 (membersM s.1).length := by decide +kernel
theorem ch_order : ∀ n many : Fin 6, (chTo n.1 many.1).Pairwise fun a b => fewerM (ints a) (ints b) = true := by decide +kernel
theorem ch_few : ∀ n many : Fin 6, (chTo n.1 many.1).length ≤ 10 := by decide +kernel

theorem odd_in {b : Book} (hv : Valid b) (h0 : 0 < b.spellings.length) : oddL b ∈ chTo b.spellings.length (oddL b).length := by
  have hn := hv.n
  obtain ⟨⟨s, hs, -, e⟩, -⟩ := oddL_spec b
  have h5 : 2 ^ b.spellings.length ≤ 2 ^ 5 := Nat.pow_le_pow_right (by decide) hn
  have := ch_all ⟨b.spellings.length, by omega⟩ ⟨s, by omega⟩ hs
  simp only [e] at this
  exact this
theorem fewer_len {a c : List Nat} (h : a.length < c.length) : fewerM (ints a) (ints c) = true := by
  have h1 : (ints a).length = a.length := by simp [ints]
  have h2 : (ints c).length = c.length := by simp [ints]
  unfold fewerM
  rw [h1, h2, if_neg (by omega)]
  exact decide_eq_true h
theorem odd_empty {b : Book} (h : b.spellings.length = 0) : oddL b = [] := by
  obtain ⟨⟨s, hs, -, e⟩, -⟩ := oddL_spec b
  rw [h] at hs
  obtain rfl : s = 0 := by omega
  rw [← e]
  decide
theorem odd_hit {b : Book} (hv : Valid b) {many i : Nat} (hm : many < b.spellings.length) (hi : i < (chTo b.spellings.length many).length)
    (h1 : ∀ m, m < many → ∀ L ∈ chTo b.spellings.length m, ¬ ∃ k, All b (othersN L b.spellings.length) k) (h2 : ∀ i' (h : i' < i), ¬ ∃ k, All b (othersN ((chTo b.spellings.length many)[i']'(by omega)) b.spellings.length) k)
    (hP : ∃ k, All b (othersN (chTo b.spellings.length many)[i] b.spellings.length) k) : oddL b = (chTo b.spellings.length many)[i] := by
  have hn := hv.n
  have h0 : 0 < b.spellings.length := by omega
  have hin := odd_in hv h0
  obtain ⟨-, hk⟩ := odd_common hv h0
  have hL := ch_fine ⟨b.spellings.length, by omega⟩ ⟨many, by omega⟩ _ (List.getElem_mem hi)
  have hlo := odd_least hv (l := (chTo b.spellings.length many)[i]) hL.2.2 hL.2.1 hP
  have hord := ch_order ⟨b.spellings.length, by omega⟩ ⟨many, by omega⟩
  simp only at hL hord
  have hlen := hL.1
  rcases Nat.lt_trichotomy (oddL b).length many with h | h | h
  · exact absurd hk (h1 _ h _ hin)
  · rw [h] at hin
    obtain ⟨j, hj, e⟩ := List.getElem_of_mem hin
    rcases Nat.lt_trichotomy j i with h3 | h3 | h3
    · exact absurd (by rw [e]; exact hk) (h2 j h3)
    · subst h3; exact e.symm
    · have := List.pairwise_iff_getElem.1 hord i j hi hj h3
      rw [e] at this
      rw [this] at hlo
      cases hlo
  · have := fewer_len (a := (chTo b.spellings.length many)[i]) (c := oddL b) (by omega)
    rw [this] at hlo
    cases hlo
theorem odd_miss {b : Book} (hv : Valid b) (h0 : 0 < b.spellings.length) (h : ∀ m, m < b.spellings.length → ∀ L ∈ chTo b.spellings.length m, ¬ ∃ k, All b (othersN L b.spellings.length) k) : False := by
  have hlen := oddL_len hv h0
  exact h _ hlen _ (odd_in hv h0) (odd_common hv h0).2
end Go.Proofs.Ytagpngddaenkkaa

namespace Go.Proofs.Ytagpngddaenkkaa
open Go.RowKit
set_option linter.unusedVariables false

set_option maxRecDepth 100000 in
set_option maxHeartbeats 2000000 in
theorem alikes_walk (ba bs : Option Addr) (bc bd : Nat) (b : Book) (i j : Int) (m er er2 : Int) (k : List Int)
    (h1 : ∀ w, BookAt w (.agg #[.int .i64 b.sounds, .slice ba b.alphabets.length bc, .slice bs b.spellings.length bd]) b → Calls Try.prog 29 #[(.agg #[.int .i64 b.sounds, .slice ba b.alphabets.length bc, .slice bs b.spellings.length bd]), .int .i64 i, .int .i64 j] w fun e w' => e = .returned (.tuple #[.int .i64 m, .int .i64 er]) ∧ Ext w w')
    (h2 : ∀ w, BookAt w (.agg #[.int .i64 b.sounds, .slice ba b.alphabets.length bc, .slice bs b.spellings.length bd]) b → Calls Try.prog 30 #[(.agg #[.int .i64 b.sounds, .slice ba b.alphabets.length bc, .slice bs b.spellings.length bd]), .int .i64 i, .int .i64 j] w fun e w' => e = .returned (.tuple #[.int .i64 m, .int .i64 er]) ∧ Ext w w')
    (g1 : ∀ w, BookAt w (.agg #[.int .i64 b.sounds, .slice ba b.alphabets.length bc, .slice bs b.spellings.length bd]) b → Calls Try.prog 31 #[(.agg #[.int .i64 b.sounds, .slice ba b.alphabets.length bc, .slice bs b.spellings.length bd])] w fun e w' => ∃ u, e = .returned (.tuple #[u, .int .i64 er2]) ∧ IntsAt w' u k ∧ Ext w w')
    (g2 : ∀ w, BookAt w (.agg #[.int .i64 b.sounds, .slice ba b.alphabets.length bc, .slice bs b.spellings.length bd]) b → Calls Try.prog 32 #[(.agg #[.int .i64 b.sounds, .slice ba b.alphabets.length bc, .slice bs b.spellings.length bd])] w fun e w' => ∃ u, e = .returned (.tuple #[u, .int .i64 er2]) ∧ IntsAt w' u k ∧ Ext w w')
    (w : World) (hb : BookAt w (.agg #[.int .i64 b.sounds, .slice ba b.alphabets.length bc, .slice bs b.spellings.length bd]) b) :
    Calls Try.prog 5 #[(.agg #[.int .i64 b.sounds, .slice ba b.alphabets.length bc, .slice bs b.spellings.length bd]), .agg #[.int .i64 i, .int .i64 j]] w fun e w' => e = .returned (.bool true) ∧ Ext w w' := by
  have aw := fun w => awake_any w
  go_enter Try.func5, Try.ntmps5
  go_wp2_with fail
  have hB : Boxed ((((w).alloc (.cells #[.int .i64 b.sounds, .slice ba b.alphabets.length bc, .slice bs b.spellings.length bd] 25))).alloc (.cells #[.int .i64 i, .int .i64 j] 41)) w.heap.size b ba bc bs bd := ⟨by simp [go_sem], by simp [go_sem], by simp [go_sem], hb.ext (by first | (with_reducible exact Ext.refl _) | (with_reducible assumption) | (show Below _ _ _; go_grown; done))⟩
  obtain ⟨X0, X1⟩ : ((((w).alloc (.cells #[.int .i64 b.sounds, .slice ba b.alphabets.length bc, .slice bs b.spellings.length bd] 25))).alloc (.cells #[.int .i64 i, .int .i64 j] 41)).cell? ⟨w.heap.size + 1, 0, none⟩ = some (.int .i64 i) ∧ ((((w).alloc (.cells #[.int .i64 b.sounds, .slice ba b.alphabets.length bc, .slice bs b.spellings.length bd] 25))).alloc (.cells #[.int .i64 i, .int .i64 j] 41)).cell? ⟨w.heap.size + 1, 1, none⟩ = some (.int .i64 j) := ⟨by simp [go_sem], by simp [go_sem]⟩
  have hx : Ext w ((((w).alloc (.cells #[.int .i64 b.sounds, .slice ba b.alphabets.length bc, .slice bs b.spellings.length bd] 25))).alloc (.cells #[.int .i64 i, .int .i64 j] 41)) := (by first | (with_reducible exact Ext.refl _) | (with_reducible assumption) | (show Below _ _ _; go_grown; done))
  generalize ((((w).alloc (.cells #[.int .i64 b.sounds, .slice ba b.alphabets.length bc, .slice bs b.spellings.length bd] 25))).alloc (.cells #[.int .i64 i, .int .i64 j] 41)) = W at *
  have c0 := hB.c0
  have c1 := hB.c1
  have c2 := hB.c2
  have z1 := hB.lt
  refine (h1 _ hB.at_).mono ?_
  rintro e w1 ⟨rfl, h3⟩
  (replace hB := hB.ext h3; replace X0 := Ext.cell h3 X0; replace X1 := Ext.cell h3 X1; replace c0 := hB.c0; replace c1 := hB.c1; replace c2 := hB.c2; replace z1 := hB.lt; have zx := cell_lt X0; have x1 := Ext.trans (by assumption) h3)
  clear h3 h1 hx
  go_wp2_with fail
  refine (h2 _ hB.at_).mono ?_
  rintro e w2 ⟨rfl, h3⟩
  clear zx
  (replace hB := hB.ext h3; replace X0 := Ext.cell h3 X0; replace X1 := Ext.cell h3 X1; replace c0 := hB.c0; replace c1 := hB.c1; replace c2 := hB.c2; replace z1 := hB.lt; have zx := cell_lt X0; have x2 := Ext.trans (by assumption) h3)
  clear h3 h2 x1
  go_wp2_with fail
  refine (g1 _ hB.at_).mono ?_
  rintro e w3 ⟨u, rfl, hu, h3⟩
  obtain ⟨ua, uc, rfl, -⟩ := hu.shape
  clear zx
  (replace hB := hB.ext h3; replace X0 := Ext.cell h3 X0; replace X1 := Ext.cell h3 X1; replace c0 := hB.c0; replace c1 := hB.c1; replace c2 := hB.c2; replace z1 := hB.lt; have zx := cell_lt X0; have x3 := Ext.trans (by assumption) h3)
  clear h3 g1 x2
  go_wp2_with fail
  refine (g2 _ hB.at_).mono ?_
  rintro e w4 ⟨u2, rfl, hu2, h4⟩
  obtain ⟨va, vc, rfl, -⟩ := hu2.shape
  replace hu := hu.ext h4
  have x4 := x3.trans h4
  clear h4 g2 x3 hB c0 c1 c2 z1 zx X0 X1
  go_wp2_with fail
  refine (ints_any _ _ k k _ hu hu2).mono ?_
  rintro e w5 ⟨rfl, h5⟩
  rw [decide_eq_true (rfl : k = k)]
  have x5 := x4.trans h5
  clear h5 hu hu2 x4
  go_wp2_with fail
  refine (aw _).mono ?_
  rintro e w8 ⟨rfl, h8⟩
  have x8 := x5.trans h8
  clear h8 x5
  go_wp2
  go_ret
  exact ⟨rfl, x8⟩
end Go.Proofs.Ytagpngddaenkkaa

namespace Go.Proofs.Ytagpngddaenkkaa
open Go.RowKit
set_option linter.unusedVariables false

/-- the walk, for whatever the two layers answer, where they answer the same -/
theorem commons_walk (ba bs : Option Addr) (bc bd : Nat) (b : Book) (la : Option Addr) (lc : Nat) (l : List Int) (er : Int) (k : List Int)
    (h1 : ∀ w, BookAt w (.agg #[.int .i64 b.sounds, .slice ba b.alphabets.length bc, .slice bs b.spellings.length bd]) b → IntsAt w (.slice la l.length lc) l → Calls Try.prog 33 #[(.agg #[.int .i64 b.sounds, .slice ba b.alphabets.length bc, .slice bs b.spellings.length bd]), .slice la l.length lc] w fun e w' => ∃ u, e = .returned (.tuple #[u, .int .i64 er]) ∧ IntsAt w' u k ∧ Ext w w')
    (h2 : ∀ w, BookAt w (.agg #[.int .i64 b.sounds, .slice ba b.alphabets.length bc, .slice bs b.spellings.length bd]) b → IntsAt w (.slice la l.length lc) l → Calls Try.prog 34 #[(.agg #[.int .i64 b.sounds, .slice ba b.alphabets.length bc, .slice bs b.spellings.length bd]), .slice la l.length lc] w fun e w' => ∃ u, e = .returned (.tuple #[u, .int .i64 er]) ∧ IntsAt w' u k ∧ Ext w w')
    (w : World) (hb : BookAt w (.agg #[.int .i64 b.sounds, .slice ba b.alphabets.length bc, .slice bs b.spellings.length bd]) b) (hl : IntsAt w (.slice la l.length lc) l) :
    Calls Try.prog 6 #[(.agg #[.int .i64 b.sounds, .slice ba b.alphabets.length bc, .slice bs b.spellings.length bd]), .slice la l.length lc] w fun e w' => e = .returned (.bool true) ∧ Ext w w' := by
  have aw := fun w => awake_any w
  go_enter Try.func6, Try.ntmps6
  go_wp2_with fail
  have hB : Boxed ((w).alloc (.cells #[.int .i64 b.sounds, .slice ba b.alphabets.length bc, .slice bs b.spellings.length bd] 25)) w.heap.size b ba bc bs bd := ⟨by simp [go_sem], by simp [go_sem], by simp [go_sem], hb.ext (by first | (with_reducible exact Ext.refl _) | (with_reducible assumption) | (show Below _ _ _; go_grown; done))⟩
  have hx : Ext w ((w).alloc (.cells #[.int .i64 b.sounds, .slice ba b.alphabets.length bc, .slice bs b.spellings.length bd] 25)) := ext_alloc _ _
  replace hl := hl.ext hx
  generalize ((w).alloc (.cells #[.int .i64 b.sounds, .slice ba b.alphabets.length bc, .slice bs b.spellings.length bd] 25)) = W at *
  have c0 := hB.c0
  have c1 := hB.c1
  have c2 := hB.c2
  have z1 := hB.lt
  refine (h1 _ hB.at_ hl).mono ?_
  rintro e w3 ⟨u, rfl, hu, h3⟩
  obtain ⟨ua, uc, rfl, -⟩ := hu.shape
  (replace hB := hB.ext h3; replace hl := hl.ext h3; replace c0 := hB.c0; replace c1 := hB.c1; replace c2 := hB.c2; replace z1 := hB.lt; have x3 := Ext.trans (by assumption) h3)
  clear h3 h1 hx
  go_wp2_with fail
  refine (h2 _ hB.at_ hl).mono ?_
  rintro e w4 ⟨u2, rfl, hu2, h4⟩
  obtain ⟨va, vc, rfl, -⟩ := hu2.shape
  replace hu := hu.ext h4
  (replace hB := hB.ext h4; replace hl := hl.ext h4; replace c0 := hB.c0; replace c1 := hB.c1; replace c2 := hB.c2; replace z1 := hB.lt; have x4 := Ext.trans (by assumption) h4)
  clear h4 h2 x3 hB hl c0 c1 c2 z1
  go_wp2_with fail
  refine (ints_any _ _ k k _ hu hu2).mono ?_
  rintro e w5 ⟨rfl, h5⟩
  rw [decide_eq_true (rfl : k = k)]
  have x5 := x4.trans h5
  clear h5 hu hu2 x4
  go_wp2_with fail
  refine (aw _).mono ?_
  rintro e w8 ⟨rfl, h8⟩
  have x8 := x5.trans h8
  clear h8 x5
  go_wp2
  go_ret
  exact ⟨rfl, x8⟩

theorem ints_back : ∀ (l : List Int), (∀ x ∈ l, 0 ≤ x) → l = ints (l.map Int.toNat)
  | [], _ => rfl
  | x :: l, h => by
    have h1 := ints_back l fun y hy => h y (by simp [hy])
    have h2 := h x (by simp)
    show x :: l = ((x.toNat : Nat) : Int) :: ints (l.map Int.toNat)
    rw [← h1]
    congr 1
    omega
/-- the first of the strings that all of some spellings can be -/
theorem all_first {b : Book} (hv : Valid b) {L : List Nat} (hL : ∀ n ∈ L, n < b.spellings.length) (hne : L ≠ []) (h : ∃ t, All b L t) : ∃ k, All b L k ∧ (∀ t, All b L t → ¬ cmpSS t k < 0) ∧ ∀ k', All b L k' → (∀ t, All b L t → ¬ cmpSS t k' < 0) → k' = k := by
  obtain ⟨m, hm⟩ := List.exists_mem_of_ne_nil L hne
  have hmem : ∀ t, t ∈ (stringsOf b m).filter (fun t => decide (∀ n ∈ L, t ∈ stringsOf b n)) ↔ All b L t := fun t => by
    rw [List.mem_filter, decide_eq_true_iff]
    exact ⟨fun h => h.2, fun h => ⟨h m hm, h⟩⟩
  obtain ⟨t0, ht0⟩ := h
  obtain ⟨k, hk, hmin⟩ := least_of codeN _ ⟨t0, (hmem t0).2 ht0⟩
  have hk' := (hmem k).1 hk
  have hd := fun t ht => (all_digits hv hL hne (t := t) ht).1
  have hmin' : ∀ t, All b L t → ¬ cmpSS t k < 0 := fun t ht h => by
    have := (codeN_cmp (hd t ht) (hd k hk')).1 h
    have := hmin t ((hmem t).2 ht)
    omega
  refine ⟨k, hk', hmin', fun k2 h2 h3 => codeN_inj (hd k2 h2) (hd k hk') ?_⟩
  have h4 : ¬ codeN k < codeN k2 := fun h => h3 k hk' ((codeN_cmp (hd k hk') (hd k2 h2)).2 h)
  have h5 := hmin k2 ((hmem k2).2 h2)
  omega

theorem commons_law (bv v : Value) (b : Book) (l : List Int) (w : World) (hb : BookAt w bv b) (hl : IntsAt w v l) :
    Calls Try.prog 6 #[bv, v] w fun e w' => e = .returned (.bool true) ∧ Ext w w' := by
  obtain ⟨ba, bc, bs, bd, rfl, -⟩ := hb.open
  obtain ⟨la, lc, rfl, -⟩ := hl.shape
  by_cases ho : openM b l = 0
  · obtain ⟨he, hin⟩ := openM_zero ho
    have hv := valid_of he
    by_cases h0 : l = []
    · subst h0
      exact commons_walk ba bs bc bd b la lc [] 2 [] (fun w hb hl => (common_none _ _ b he w hb hl).mono fun e w' h => ⟨_, h.1, IntsAt.nothing _, h.2⟩)
        (fun w hb hl => (refCommon_arg _ _ b [] ho (.inl rfl) w hb hl).mono fun e w' h => ⟨_, h.1, IntsAt.nothing _, h.2⟩) w hb hl
    · cases ha : ascM l
      · exact commons_walk ba bs bc bd b la lc l 2 [] (fun w hb hl => (common_arg _ _ b he l hin h0 ha w hb hl).mono fun e w' h => ⟨_, h.1, IntsAt.nothing _, h.2⟩)
          (fun w hb hl => (refCommon_arg _ _ b l ho (.inr ha) w hb hl).mono fun e w' h => ⟨_, h.1, IntsAt.nothing _, h.2⟩) w hb hl
      · obtain ⟨L, rfl⟩ : ∃ L : List Nat, l = ints L := ⟨l.map Int.toNat, ints_back l fun x hx => (hin x hx).1⟩
        have hL : ∀ n ∈ L, n < b.spellings.length := fun n hn => by
          have := hin n (List.mem_map.2 ⟨n, hn, rfl⟩)
          omega
        have hne : L ≠ [] := fun e => h0 (by rw [e]; rfl)
        have hnd := canM_nodup hv hL
        by_cases hex : ∃ t, All b L t
        · obtain ⟨k, hk, hmin, huni⟩ := all_first hv hL hne hex
          refine commons_walk ba bs bc bd b la lc (ints L) 0 k (fun w hb hl => (common_ok _ _ b he L hL hne ha w hb hl).mono ?_)
            (fun w hb hl => refCommon_ok _ _ b he L hL hne ha w hb hl 0 k (.inr ⟨rfl, hk, hmin⟩)) w hb hl
          rintro e w' ⟨k', f, u, hF, rfl, hu, hx⟩
          cases f
          · exact absurd hex (first_none hnd hne hF).2
          · obtain ⟨h1, h2⟩ := first_all hnd hne hF
            obtain rfl := huni k' h1 h2
            exact ⟨u, rfl, hu, hx⟩
        · refine commons_walk ba bs bc bd b la lc (ints L) 9 [] (fun w hb hl => (common_ok _ _ b he L hL hne ha w hb hl).mono ?_)
            (fun w hb hl => refCommon_ok _ _ b he L hL hne ha w hb hl 9 [] (.inl ⟨rfl, rfl, hex⟩)) w hb hl
          rintro e w' ⟨k', f, u, hF, rfl, hu, hx⟩
          cases f
          · obtain ⟨rfl, -⟩ := first_none hnd hne hF
            exact ⟨u, rfl, hu, hx⟩
          · exact absurd ⟨k', (first_all hnd hne hF).1⟩ hex
  · exact commons_walk ba bs bc bd b la lc l (openM b l) [] (fun w hb hl => (common_err _ _ b l ho w hb hl).mono fun e w' h => ⟨_, h.1, IntsAt.nothing _, h.2⟩)
      (fun w hb hl => (refCommon_err _ _ b l ho w hb hl).mono fun e w' h => ⟨_, h.1, IntsAt.nothing _, h.2⟩) w hb hl
end Go.Proofs.Ytagpngddaenkkaa

namespace Go.Proofs.Ytagpngddaenkkaa
open Go.RowKit
set_option linter.unusedVariables false

/-- a list of lists -/
def listR (w : World) (b o : Nat) (l : List Nat) : Prop := ∃ s, w.cell? ⟨b, o, none⟩ = some s ∧ IntsAt w s (ints l)
theorem listR.keeps : Keeps listR := fun _ _ _ _ _ hx ⟨s, h1, h2⟩ => ⟨s, hx.cell h1, h2.ext hx⟩
abbrev ListsAt : World → Value → List (List Nat) → Prop := SliceAt 1 listR
theorem ListsAt.ext {w w' : World} {v : Value} {l : List (List Nat)} (h : ListsAt w v l) (hx : Ext w w') : ListsAt w' v l := SliceAt.ext listR.keeps h hx
def ChoicesGive : Prop := ∀ n many : Nat, n ≤ 5 → many ≤ 5 → ∀ w : World, Calls Try.prog 73 #[.int .i64 n, .int .i64 many] w fun e w' => ∃ u, e = .returned u ∧ ListsAt w' u (chTo n many) ∧ Ext w w'
theorem ch_others : ∀ n many : Fin 6, many.1 < n.1 → ∀ L ∈ chTo n.1 many.1, othersN L n.1 ≠ [] := by decide +kernel
theorem indices_none (b : Book) : indicesM b [] 0 = errM b := by
  unfold indicesM
  split
  · rfl
  · rename_i h
    have : errM b = 0 := Classical.byContradiction h
    rw [this]; rfl
theorem odd_mark {b : Book} (hv : Valid b) {O : List Nat} (hO : ∀ n ∈ O, n < b.spellings.length) (hne : O ≠ []) : ∃ m : Int, (∀ f : Nat → Bool, (∀ c, c < 3125 → (f c = true ↔ ∀ n ∈ O, codeOf b n c)) → idxM id (marks f) = m) ∧ ((m = -1 ∧ ¬ ∃ k, All b O k) ∨ (0 ≤ m ∧ ∃ k, All b O k)) := by
  have hcodes := all_codes hv hO hne
  have hdig := fun t ht => all_digits hv hO hne (t := t) ht
  by_cases hex : ∃ t, All b O t
  · obtain ⟨k, hk, hmin, -⟩ := all_first hv hO hne hex
    exact ⟨(codeN k : Nat), fun f hf => least_code (fun t => All b O t) hdig (fun c hc => by rw [hf c hc, hcodes c]) hk hmin, .inr ⟨by omega, hex⟩⟩
  · refine ⟨-1, fun f hf => least_none fun c hc => ?_, .inl ⟨rfl, hex⟩⟩
    cases h : f c
    · rfl
    · obtain ⟨t, ht, -⟩ := (hcodes c).1 ((hf c hc).1 h)
      exact absurd ⟨t, ht⟩ hex

set_option maxRecDepth 100000 in
set_option maxHeartbeats 2000000 in
theorem refOdd_err (bv : Value) (b : Book) (he : errM b ≠ 0) (w : World) (hb : BookAt w bv b) :
    Calls Try.prog 32 #[bv] w fun e w' => e = .returned (.tuple #[.slice none 0 0, .int .i64 (errM b)]) ∧ Ext w w' := by
  obtain ⟨ba, bc, bs, bd, rfl, -, -, -, hsl, hsc, -⟩ := hb.open
  have hind := fun w hb => indices_any (.agg #[.int .i64 b.sounds, .slice ba b.alphabets.length bc, .slice bs b.spellings.length bd]) (.slice none 0 0) b [] 0 w hb SliceAt.nil (by omega)
  rw [indices_none] at hind
  have he1 : (errM b != 0) = true := by simpa using he
  generalize errM b = er at *
  clear he
  go_enter Try.func32, Try.ntmps32
  (go_wp2_with fail; have hB : Boxed ((w).alloc (.cells #[.int .i64 b.sounds, .slice ba b.alphabets.length bc, .slice bs b.spellings.length bd] 25)) w.heap.size b ba bc bs bd := ⟨by simp [go_sem], by simp [go_sem], by simp [go_sem], hb.ext (by first | (with_reducible exact Ext.refl _) | (with_reducible assumption) | (show Below _ _ _; go_grown; done))⟩; have hx : Ext w ((w).alloc (.cells #[.int .i64 b.sounds, .slice ba b.alphabets.length bc, .slice bs b.spellings.length bd] 25)) := ext_alloc _ _; generalize ((w).alloc (.cells #[.int .i64 b.sounds, .slice ba b.alphabets.length bc, .slice bs b.spellings.length bd] 25)) = W at *; have c0 := hB.c0; have c1 := hB.c1; have c2 := hB.c2; have z1 := hB.lt)
  refine (hind _ hB.at_).mono ?_
  rintro e w1 ⟨rfl, h1⟩
  have x1 := hx.trans h1
  go_wp2
  go_ret2
  exact ⟨rfl, x1⟩
set_option maxRecDepth 100000 in
set_option maxHeartbeats 4000000 in
theorem refOdd_ok (hch : ChoicesGive) (bv : Value) (b : Book) (he : errM b = 0) (w : World) (hb : BookAt w bv b) :
    Calls Try.prog 32 #[bv] w fun e w' => ∃ u, e = .returned (.tuple #[u, .int .i64 0]) ∧ IntsAt w' u (ints (oddL b)) ∧ Ext w w' := by
  have hv := valid_of he
  have hn5 := hv.n
  have hodd0 : b.spellings.length = 0 → oddL b = [] := odd_empty
  have hmiss := fun h => odd_miss hv h
  have hhit := fun m i => odd_hit hv (many := m) (i := i)
  obtain ⟨ba, bc, bs, bd, rfl, -, -, -, hsl, hsc, -⟩ := hb.open
  have hind := fun w hb => indices_any (.agg #[.int .i64 b.sounds, .slice ba b.alphabets.length bc, .slice bs b.spellings.length bd]) (.slice none 0 0) b [] 0 w hb SliceAt.nil (by omega)
  rw [indices_none, he] at hind
  have Hodd0 := Lib.hid hodd0
  have Hmiss := Lib.hid hmiss
  have Hhit := Lib.hid hhit
  have He := Lib.hid he
  clear hodd0 hmiss hhit he
  go_enter Try.func32, Try.ntmps32
  (go_wp2_with fail; have hB : Boxed ((w).alloc (.cells #[.int .i64 b.sounds, .slice ba b.alphabets.length bc, .slice bs b.spellings.length bd] 25)) w.heap.size b ba bc bs bd := ⟨by simp [go_sem], by simp [go_sem], by simp [go_sem], hb.ext (by first | (with_reducible exact Ext.refl _) | (with_reducible assumption) | (show Below _ _ _; go_grown; done))⟩; have hx : Ext w ((w).alloc (.cells #[.int .i64 b.sounds, .slice ba b.alphabets.length bc, .slice bs b.spellings.length bd] 25)) := ext_alloc _ _; generalize ((w).alloc (.cells #[.int .i64 b.sounds, .slice ba b.alphabets.length bc, .slice bs b.spellings.length bd] 25)) = W at *; have c0 := hB.c0; have c1 := hB.c1; have c2 := hB.c2; have z1 := hB.lt)
  refine (hind _ hB.at_).mono ?_
  rintro e w1 ⟨rfl, h1⟩
  (replace hB := hB.ext h1; replace c0 := hB.c0; replace c1 := hB.c1; replace c2 := hB.c2; replace z1 := hB.lt; have x1 := Ext.trans (by assumption) h1)
  clear h1 hind hx
  go_wp2
  clear c0 c1 c2 z1
  go_loopw [5] (fun i wr => ∃ m : Nat, m ≤ b.spellings.length ∧ i = .int .i64 m ∧ Ext w wr ∧ Boxed wr w.heap.size b ba bc bs bd ∧ ∀ m', m' < m → ∀ L ∈ chTo b.spellings.length m', ¬ ∃ k, All b (othersN L b.spellings.length) k) (fun i _ => b.spellings.length - (intOf i).toNat)
  case atStart => exact ⟨0, Nat.zero_le _, rfl, x1, hB, fun _ h => absurd h (Nat.not_lt_zero _)⟩
  case round =>
    obtain ⟨m, hm, rfl, hx, hB, hno⟩ := hrel
    have c0 := hB.c0
    have c1 := hB.c1
    have c2 := hB.c2
    have z1 := hB.lt
    by_cases hlt : m < b.spellings.length
    · have k1 : (m : Int) < (b.spellings.length : Int) := by omega
      have hcm := fun w => hch b.spellings.length m hn5 (by omega) w
      have Hno := Lib.hid hno
      have Hch := Lib.hid hch
      clear hno hch
      go_wp2_with fail
      refine (hcm _).mono ?_
      rintro e w2 ⟨u, rfl, hu, h2⟩
      have hoth : ∀ L ∈ chTo b.spellings.length m, othersN L b.spellings.length ≠ [] := ch_others ⟨b.spellings.length, by omega⟩ ⟨m, by omega⟩ hlt
      have hfew : (chTo b.spellings.length m).length ≤ 10 := ch_few ⟨b.spellings.length, by omega⟩ ⟨m, by omega⟩
      obtain ⟨LL, hLL⟩ : ∃ LL, LL = chTo b.spellings.length m := ⟨_, rfl⟩
      rw [← hLL] at hu hoth hfew
      obtain ⟨ua, uc, rfl, -⟩ := hu.shape
      have x2 := hx.trans h2
      have hB2 := hB.ext h2
      have HLL := Lib.hid hLL
      have Hoth := Lib.hid hoth
      clear hLL hoth hcm hB h2 c0 c1 c2 z1 hx
      go_wp2
      go_loopw [7] (fun i wr => ∃ j : Nat, j ≤ LL.length ∧ i = .int .i64 j ∧ Ext w wr ∧ Boxed wr w.heap.size b ba bc bs bd ∧ ListsAt wr (.slice ua LL.length uc) LL ∧ ∀ j', j' < j → ∀ L, LL[j']? = some L → ¬ ∃ k, All b (othersN L b.spellings.length) k) (fun i _ => LL.length - (intOf i).toNat)
      case atStart => exact ⟨0, Nat.zero_le _, rfl, x2, hB2, hu, fun _ h => absurd h (Nat.not_lt_zero _)⟩
      case round =>
        obtain ⟨j, hj, rfl, hx, hB, hu, hnj⟩ := hrel
        obtain ⟨R, hR⟩ : ∃ R : World, R = wr := ⟨_, rfl⟩
        subst hR
        have c0 := hB.c0
        have c1 := hB.c1
        have c2 := hB.c2
        have z1 := hB.lt
        by_cases hjl : j < LL.length
        · have k2 : (j : Int) < (LL.length : Int) := by omega
          have hu0 := hu
          obtain ⟨_, _, hea, -, -, hh⟩ := hu0
          obtain ⟨lb, lo, rfl, s, cs, hs⟩ := hh j hjl
          have hea1 := (Value.slice.inj hea).1
          subst hea1
          simp only [Nat.mul_one] at cs
          have hLm : LL[j] ∈ LL := List.getElem_mem hjl
          have hLe : LL[j]? = some LL[j] := List.getElem?_eq_getElem hjl
          clear hea hh
          generalize LL[j] = L at *
          have hOl : ∀ n ∈ othersN L b.spellings.length, n < b.spellings.length := fun n h => (mem_others.1 h).1
          obtain ⟨q, hq, hcase⟩ := odd_mark (valid_of He.out) hOl (Hoth.out L hLm)
          have hot := fun w hb hl => others_any (.agg #[.int .i64 b.sounds, .slice ba b.alphabets.length bc, .slice bs b.spellings.length bd]) s b (ints L) w hb hl hn5
          rw [othersTo_ints] at hot
          have hshr := fun v w hb hl => shared_any (.agg #[.int .i64 b.sounds, .slice ba b.alphabets.length bc, .slice bs b.spellings.length bd]) v b He.out (othersN L b.spellings.length) hOl (Hoth.out L hLm) w hb hl
          have Hq := Lib.hid hq
          have Hnj := Lib.hid hnj
          have HLm := Lib.hid hLm
          have HLe := Lib.hid hLe
          clear hOl hq hnj hLm hLe
          obtain ⟨sa, sc, rfl, -⟩ := hs.shape
          rcases hcase with ⟨rfl, hPno⟩ | ⟨hq0, hP⟩
          · have Hno2 := Lib.hid hPno
            clear hPno
            go_wp2_with fail
            apply Facts.wp_region [.val _, .val _, .val _, .val _, .val _, .val _, .fact (ListV (ints (othersN L b.spellings.length))), .fact (MarkV (fun c => ∀ n ∈ othersN L b.spellings.length, codeOf b n c)), .val (.int .i64 (-1)), .val (.bool false)] (by kernel_rfl) (by kernel_rfl) ?keep ?main
            case keep => exact ⟨fun u a c hx h => IntsAt.ext h hx, fun u a c hx h => h.ext hx, trivial⟩
            case main =>
              iterate 6 (refine ⟨fun w1 hx hh => ?_, ?_⟩; focus (clear hh; have e0 := hx.cell c0; have e1 := hx.cell c1; have e2 := hx.cell c2; have e3 := hx.cell cs; go_simp; first | exact ⟨Ext.refl _, rfl⟩ | exact Ext.refl _))
              refine ⟨fun w2 hx hh => ?_, ?_⟩
              · clear hh
                go_simp
                refine (hot w2 (hB.at_.ext hx) (hs.ext hx)).mono ?_
                rintro e w' ⟨v, rfl, h1, h2⟩
                exact ⟨_, rfl, h2, h1⟩
              intro u6
              refine ⟨fun w2 hx hh => ?_, ?_⟩
              · have h6 : ListV (ints (othersN L b.spellings.length)) u6 w2 := hh 6 _ List.mem_cons_self (by kernel_rfl)
                clear hh
                go_simp
                exact hshr u6 w2 (hB.at_.ext hx) h6
              intro u7
              refine ⟨fun w2 hx hh => ?_, ?_⟩
              · have h7 : MarkV (fun c => ∀ n ∈ othersN L b.spellings.length, codeOf b n c) u7 w2 := hh 7 _ List.mem_cons_self (by kernel_rfl)
                clear hh
                go_simp
                refine (least_mark h7 Hq.out).mono ?_
                rintro e w' ⟨rfl, rfl⟩
                exact ⟨_, rfl, Ext.refl _, rfl⟩
              iterate 1 (refine ⟨fun w1 hx hh => ?_, ?_⟩; focus (clear hh; skip; go_simp; first | exact ⟨Ext.refl _, rfl⟩ | exact Ext.refl _))
              intro w3 h3 hh
              clear hh hot hshr
              have x3 := hx.trans h3
              have hB3 := hB.ext h3
              have hu3 := hu.ext h3
              have cs3 := h3.cell cs
              have hs3 := hs.ext h3
              clear h3 hx hB hu cs hs c0 c1 c2 z1
              go_simp
              go_wp2
              go_roundw
              case rel => exact ⟨j + 1, by omega, by go_num, x3, hB3, hu3, fun j' hj' L' hL' => by
                rcases Nat.lt_or_ge j' j with h | h
                · exact Hnj.out j' h L' hL'
                · obtain rfl : j' = j := by omega
                  rw [HLe.out] at hL'
                  obtain rfl := Option.some.inj hL'
                  exact Hno2.out⟩
              case measure => simp [intOf]; omega
          · have HP := Lib.hid hP
            clear hP
            go_wp2_with fail
            apply Facts.wp_region [.val _, .val _, .val _, .val _, .val _, .val _, .fact (ListV (ints (othersN L b.spellings.length))), .fact (MarkV (fun c => ∀ n ∈ othersN L b.spellings.length, codeOf b n c)), .val (.int .i64 (q)), .val (.bool true)] (by kernel_rfl) (by kernel_rfl) ?keep ?main
            case keep => exact ⟨fun u a c hx h => IntsAt.ext h hx, fun u a c hx h => h.ext hx, trivial⟩
            case main =>
              iterate 6 (refine ⟨fun w1 hx hh => ?_, ?_⟩; focus (clear hh; have e0 := hx.cell c0; have e1 := hx.cell c1; have e2 := hx.cell c2; have e3 := hx.cell cs; go_simp; first | exact ⟨Ext.refl _, rfl⟩ | exact Ext.refl _))
              refine ⟨fun w2 hx hh => ?_, ?_⟩
              · clear hh
                go_simp
                refine (hot w2 (hB.at_.ext hx) (hs.ext hx)).mono ?_
                rintro e w' ⟨v, rfl, h1, h2⟩
                exact ⟨_, rfl, h2, h1⟩
              intro u6
              refine ⟨fun w2 hx hh => ?_, ?_⟩
              · have h6 : ListV (ints (othersN L b.spellings.length)) u6 w2 := hh 6 _ List.mem_cons_self (by kernel_rfl)
                clear hh
                go_simp
                exact hshr u6 w2 (hB.at_.ext hx) h6
              intro u7
              refine ⟨fun w2 hx hh => ?_, ?_⟩
              · have h7 : MarkV (fun c => ∀ n ∈ othersN L b.spellings.length, codeOf b n c) u7 w2 := hh 7 _ List.mem_cons_self (by kernel_rfl)
                clear hh
                go_simp
                refine (least_mark h7 Hq.out).mono ?_
                rintro e w' ⟨rfl, rfl⟩
                exact ⟨_, rfl, Ext.refl _, rfl⟩
              iterate 1 (refine ⟨fun w1 hx hh => ?_, ?_⟩; focus (clear hh; skip; go_simp; first | exact ⟨Ext.refl _, rfl⟩ | exact Ext.refl _))
              intro w3 h3 hh
              clear hh hot hshr
              have x3 := hx.trans h3
              have hB3 := hB.ext h3
              have hu3 := hu.ext h3
              have cs3 := h3.cell cs
              have hs3 := hs.ext h3
              clear h3 hx hB hu cs hs c0 c1 c2 z1
              go_simp
              go_wp2
              go_ret2
              have hmm : m < b.spellings.length := hlt
              have hLL := HLL.out
              subst hLL
              have hjl' : j < (chTo b.spellings.length m).length := hjl
              have hLj : (chTo b.spellings.length m)[j] = L := by
                have := HLe.out
                rw [List.getElem?_eq_getElem hjl'] at this
                exact Option.some.inj this
              have := Hhit.out m j hmm hjl' Hno.out (fun i' h => Hnj.out i' h _ (List.getElem?_eq_getElem (by omega))) (by rw [hLj]; exact HP.out)
              rw [this, hLj]
              exact ⟨_, rfl, hs3, x3⟩
        · obtain rfl : j = LL.length := by omega
          have Hnew : Hid (∀ m', m' < m + 1 → ∀ L ∈ chTo b.spellings.length m', ¬ ∃ k, All b (othersN L b.spellings.length) k) := Lib.hid fun m' hm' L hL => by
            rcases Nat.lt_or_ge m' m with h | h
            · exact Hno.out m' h L hL
            · obtain rfl : m' = m := by omega
              rw [← HLL.out] at hL
              obtain ⟨i', hi', e⟩ := List.getElem_of_mem hL
              exact hnj i' hi' L (by rw [List.getElem?_eq_getElem hi', e])
          clear hnj hjl
          go_wp2
          go_roundw
          case rel => exact ⟨m + 1, by omega, by go_num, hx, hB, Hnew.out⟩
          case measure => simp [intOf]; omega
    · obtain rfl : m = b.spellings.length := by omega
      have h0 : b.spellings.length = 0 := by
        rcases Nat.eq_zero_or_pos b.spellings.length with h | h
        · exact h
        · exact (Hmiss.out h hno).elim
      have hfin := Hodd0.out h0
      have Hfin := Lib.hid hfin
      clear hfin h0 hno hlt
      go_wp2
      go_ret2
      exact ⟨_, rfl, by rw [Hfin.out]; exact IntsAt.nothing _, hx⟩
end Go.Proofs.Ytagpngddaenkkaa
