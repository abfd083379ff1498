/-
  EarCounted returns true for any book and any byte, and lets both be as they were. No condition.
-/
import Derived.Test.YtagpngddaenkkaaBunL
import Derived.Test.YtagpngddaenkkaaBunQ
import Derived.Test.YtagpngddaenkkaaBunO
namespace Go.Proofs.Ytagpngddaenkkaa
set_option linter.unusedVariables false

/-- the byte at a place, as a text -/
def oneText (s : ByteArray) (k : Nat) : ByteArray := ⟨#[s.data.toList.getD k 0]⟩
def oneBook (b : Book) (a : Int) (t : ByteArray) : Book := ⟨b.sounds, b.alphabets, [⟨a, t⟩]⟩
theorem errM_parts {b : Book} (h : errM b = 0) : inM b.sounds 1 4 = true ∧ inM b.alphabets.length 1 3 = true ∧ (alphErr b).2 = 0 := by
  unfold errM checkM at h
  split at h
  · cases h
  rename_i h1
  split at h
  · cases h
  rename_i h2
  split at h
  · rename_i h3; exact absurd h h3
  rename_i h3
  exact ⟨by simpa using h1, by simpa using h2, by simpa using h3⟩
theorem errM_make {b : Book} {al : List Alphabet} {sp : List Spelling} (h1 : inM b.sounds 1 4 = true) (h2 : inM b.alphabets.length 1 3 = true) (h3 : (alphErr b).2 = 0) (h4 : b.spellings.length ≤ 5) (h5 : (spelErr b).2 = 0) : errM b = 0 := by
  unfold errM checkM
  rw [if_neg (by rw [h1]; decide), if_neg (by rw [h2]; decide), if_neg (by rw [h3]; decide), if_neg (by omega), if_neg (by rw [h5]; decide)]
theorem byteAt_one (s : ByteArray) (k : Nat) : byteAt (oneText s k) 0 = byteAt s k := rfl
theorem one_err {b : Book} (h : errM b = 0) {n : Nat} (hn : n < b.spellings.length) {k : Nat} (hk : k < (b.spellings[n]).text.size) : errM (oneBook b (b.spellings[n]).alphabet (oneText (b.spellings[n]).text k)) = 0 := by
  obtain ⟨h1, h2, h3⟩ := errM_parts h
  have hv := valid_of h
  have hs := hv.sp n hn
  refine errM_make (al := []) (sp := []) h1 h2 h3 (by show 1 ≤ 5; omega) ?_
  have e : spellingErrM b.alphabets ⟨(b.spellings[n]).alphabet, oneText (b.spellings[n]).text k⟩ = 0 := by
    unfold spellingErrM
    rw [if_neg, if_neg, if_neg]
    · rw [Bool.not_eq_false]
      show textOk (lettersOf b.alphabets (b.spellings[n]).alphabet) (oneText (b.spellings[n]).text k) = true
      unfold textOk
      rw [List.all_eq_true]
      intro j hj
      have hj0 : j = 0 := by have := List.mem_range.1 hj; have e1 : (oneText (b.spellings[n]).text k).size = 1 := rfl; omega
      subst hj0
      have := hs.k k hk
      unfold knownB at this ⊢
      rw [byteAt_one]; exact this
    · rw [Bool.not_eq_false]; rfl
    · rw [Bool.not_eq_false]
      have := hs.a
      simp [inM]; omega
  show (firstErr _ [_]).2 = 0
  unfold firstErr firstErrFrom
  rw [if_pos (by exact e)]; rfl
theorem one_letters {b : Book} {a : Int} {s : ByteArray} {k : Nat} : lettersAt (oneBook b a (oneText s k)) 0 = [letterOf (lettersOf b.alphabets a) s k] := rfl
theorem one_count {b : Book} {a : Int} {s : ByteArray} {k : Nat} : (canM (oneBook b a (oneText s k)) [0]).length = waysM (b.sounds.toNat + 1) (letterOf (lettersOf b.alphabets a) s k) := by
  rw [canM_one]
  have e : stringsOf (oneBook b a (oneText s k)) 0 = yields (b.sounds.toNat + 1) [letterOf (lettersOf b.alphabets a) s k] [] := rfl
  rw [e, foldl_mark_new _ _ _ (yields_one_nodup _ _) (by simp), yields_one_len]
  simp
/-- in how many ways the first letters can give things -/
def prodTo (K : Nat) (ls : List Letter) (k : Nat) : Nat := ((ls.take k).map (waysM K)).foldr (· * ·) 1
theorem foldr_mul_snoc (l : List Nat) (x : Nat) : (l ++ [x]).foldr (· * ·) 1 = l.foldr (· * ·) 1 * x := by
  induction l with
  | nil => simp
  | cons y l ih => rw [List.cons_append, List.foldr_cons, List.foldr_cons, ih, Nat.mul_assoc]
theorem prodTo_succ (K : Nat) (ls : List Letter) (k : Nat) (hk : k < ls.length) : prodTo K ls (k + 1) = prodTo K ls k * waysM K ls[k] := by
  unfold prodTo
  rw [List.take_succ_eq_append_getElem hk, List.map_append, List.map_cons, List.map_nil, foldr_mul_snoc]
theorem prodTo_le (K : Nat) (ls : List Letter) : ∀ k, prodTo K ls k ≤ K ^ k ∨ ls.length < k
  | 0 => .inl (by simp [prodTo])
  | k + 1 => by
    by_cases hk : k < ls.length
    · left
      rw [prodTo_succ K ls k hk, Nat.pow_succ]
      rcases prodTo_le K ls k with h | h
      · exact Nat.mul_le_mul h (waysM_le K _)
      · omega
    · right; omega
theorem canM_prod (b : Book) (n : Nat) : (canM b [n]).length ≤ prodTo (b.sounds.toNat + 1) (lettersAt b n) (lettersAt b n).length := by
  have h := canM_le b n
  unfold stringsOf at h
  rw [yields_len] at h
  unfold prodTo
  rw [List.take_length]; exact h
end Go.Proofs.Ytagpngddaenkkaa

namespace Go.Proofs.Ytagpngddaenkkaa
open Go.RowKit
set_option linter.unusedVariables false

theorem extract_one (s : ByteArray) (k : Nat) (h : k < s.size) : s.extract k (k + 1) = oneText s k := by
  apply ByteArray.ext
  rw [ByteArray.data_extract]
  have hk : k < s.data.size := h
  apply Array.ext
  · simp [oneText]; omega
  · intro i h1 h2
    have hi : i = 0 := by simp [oneText] at h2; omega
    subst hi
    have e0 : (oneText s k).data[0] = s.data.toList.getD k 0 := rfl
    have e1 : s.data.toList[k]? = some s.data[k] := by simp
    rw [e0, List.getD_eq_getElem?_getD, e1]
    simp
def IsSlice (x : Value) : Prop := ∃ a n c, x = .slice a n c
theorem spellingR.only {w w' : World} {b o : Nat} {x : Spelling} (hx : OnlyK IsSlice w w') (h : spellingR w b o x) : spellingR w' b o x :=
  ⟨(hx.2.2 _ _ h.1).2.1 (fun ⟨_, _, _, e⟩ => by cases e), (hx.2.2 _ _ h.2.1).2.1 (fun ⟨_, _, _, e⟩ => by cases e), h.2.2⟩
/-- a list of one spelling -/
def SpV (x : Spelling) (u : Value) (w : World) : Prop := ∃ B, u = .slice (some ⟨B, 0, none⟩) 1 1 ∧ spellingR w B 0 x
noncomputable def SpV.B {x : Spelling} {u : Value} {w : World} (h : SpV x u w) : Nat := Exists.choose h
theorem SpV.spec {x : Spelling} {u : Value} {w : World} (h : SpV x u w) : u = .slice (some ⟨h.B, 0, none⟩) 1 1 ∧ spellingR w h.B 0 x := Exists.choose_spec h
theorem SpV.ext {x : Spelling} {u : Value} {w w' : World} (h : SpV x u w) (hx : Ext w w') : SpV x u w' := by
  obtain ⟨B, e, hr⟩ := h; exact ⟨B, e, spellingR.keeps _ _ _ _ _ hx hr⟩
theorem SpV.only {x : Spelling} {u : Value} {w w' : World} (h : SpV x u w) (hx : OnlyK IsSlice w w') : SpV x u w' := by
  obtain ⟨B, e, hr⟩ := h; exact ⟨B, e, hr.only hx⟩
/-- a book of its own box, with this list of one spelling -/
def OneAt (w0 : World) (O : Nat) (S av : Value) (x : Spelling) (l : List Value) (_ : Value) (w : World) : Prop :=
  ∃ B, l = [.slice (some ⟨B, 0, none⟩) 1 1] ∧ spellingR w B 0 x ∧ Ext w0 w ∧ w.cell? ⟨O, 0, none⟩ = some S ∧ w.cell? ⟨O, 1, none⟩ = some av ∧ w.cell? ⟨O, 2, none⟩ = some (.slice (some ⟨B, 0, none⟩) 1 1)
noncomputable def OneAt.B {w0 : World} {O : Nat} {S av : Value} {x : Spelling} {l : List Value} {u : Value} {w : World} (h : OneAt w0 O S av x l u w) : Nat := Exists.choose h
theorem OneAt.spec {w0 : World} {O : Nat} {S av : Value} {x : Spelling} {a : Value} {u : Value} {w : World} (h : OneAt w0 O S av x [a] u w) : a = .slice (some ⟨h.B, 0, none⟩) 1 1 ∧ spellingR w h.B 0 x ∧ Ext w0 w ∧ w.cell? ⟨O, 0, none⟩ = some S ∧ w.cell? ⟨O, 1, none⟩ = some av ∧ w.cell? ⟨O, 2, none⟩ = some (.slice (some ⟨h.B, 0, none⟩) 1 1) := by
  have hh := Exists.choose_spec h
  exact ⟨(List.cons.inj hh.1).1, hh.2⟩
theorem OneAt.ext {w0 : World} {O : Nat} {S av : Value} {x : Spelling} {l : List Value} {u : Value} {w w' : World} (h : OneAt w0 O S av x l u w) (hx : Ext w w') : OneAt w0 O S av x l u w' := by
  obtain ⟨B, h1, h2, h3, h4, h5, h6⟩ := h
  exact ⟨B, h1, spellingR.keeps _ _ _ _ _ hx h2, h3.trans hx, hx.cell h4, hx.cell h5, hx.cell h6⟩
theorem store_one {w0 w1 : World} {O B : Nat} {S av u : Value} {x : Spelling} (hx : Ext w0 w1) (hO : w0.heap.size ≤ O) (h0 : w1.cell? ⟨O, 0, none⟩ = some S) (h1 : w1.cell? ⟨O, 1, none⟩ = some av) (h2 : w1.cell? ⟨O, 2, none⟩ = some u) (hu : IsSlice u) (hr : spellingR w1 B 0 x) :
    OnlyK IsSlice w1 (w1.setCell ⟨O, 2, none⟩ (.slice (some ⟨B, 0, none⟩) 1 1)) ∧ ∀ v, OneAt w0 O S av x [.slice (some ⟨B, 0, none⟩) 1 1] v (w1.setCell ⟨O, 2, none⟩ (.slice (some ⟨B, 0, none⟩) 1 1)) := by
  have hk : OnlyK IsSlice w1 (w1.setCell ⟨O, 2, none⟩ (.slice (some ⟨B, 0, none⟩) 1 1)) := OnlyK.set h2 hu ⟨_, _, _, rfl⟩
  exact ⟨hk, fun v => ⟨B, rfl, hr.only hk, hx.setCell hO _, set_other h0 (.inr (by simp)) _, set_other h1 (.inr (by simp)) _, set_cell h2 _⟩⟩

set_option maxRecDepth 100000 in
set_option maxHeartbeats 2000000 in
theorem counted_law (bv : Value) (b : Book) (which : Nat) (hwhich : which ≤ 255) (w : World) (hb : BookAt w bv b) :
    Calls Try.prog 14 #[bv, .int .u8 which] w fun e w' => e = .returned (.bool true) ∧ Ext w w' := by
  have hb0 := hb
  obtain ⟨ba, bc, bs, bd, rfl, -, -, -, hsl, hsc, -, -, hsps⟩ := hb.open
  have wwh : IntKind.i64.wrap (which : Int) = which := IntWalk.i64_in _ (by omega)
  have aw := fun w => awake_any w
  go_enter Try.func14, Try.ntmps14
  go_wp2_with fail
  have hB : Boxed ((w).alloc (.cells #[.int .i64 b.sounds, .slice ba b.alphabets.length bc, .slice bs b.spellings.length bd] 25)) w.heap.size b ba bc bs bd := ⟨by simp [go_sem], by simp [go_sem], by simp [go_sem], hb0.ext (by first | (with_reducible exact Ext.refl _) | (with_reducible assumption) | (show Below _ _ _; go_grown; done))⟩
  have hx : Ext w ((w).alloc (.cells #[.int .i64 b.sounds, .slice ba b.alphabets.length bc, .slice bs b.spellings.length bd] 25)) := ext_alloc _ _
  generalize ((w).alloc (.cells #[.int .i64 b.sounds, .slice ba b.alphabets.length bc, .slice bs b.spellings.length bd] 25)) = W at *
  have c0 := hB.c0
  have c1 := hB.c1
  have c2 := hB.c2
  have z1 := hB.lt
  refine (valid_any _ b _ hB.at_).mono ?_
  rintro e w1 ⟨rfl, hx1⟩
  replace hB := hB.ext hx1
  replace c0 := hB.c0
  replace c1 := hB.c1
  replace c2 := hB.c2
  replace z1 := hB.lt
  replace hx := hx.trans hx1
  clear hx1
  by_cases hbad : errM b ≠ 0 ∨ b.spellings.length = 0
  · have ho : openM b [0] ≠ 0 := by
      intro h
      obtain ⟨h1, h2⟩ := openM_zero h
      rcases hbad with h | h
      · exact h h1
      · have := h2 0 (by simp); omega
    have hal := fun w => first_err (.agg #[.int .i64 b.sounds, .slice ba b.alphabets.length bc, .slice bs b.spellings.length bd]) b 0 (by unfold I64; omega) ho w
    have ho' : (openM b [0] != 0) = true := by simpa using ho
    have hcase : (errM b == 0) = false ∨ ((errM b == 0) = true ∧ ((b.spellings.length : Int) == 0) = true) := by
      cases h : errM b == 0
      · exact .inl rfl
      · refine .inr ⟨rfl, ?_⟩
        rcases hbad with h' | h'
        · simp at h; exact absurd h h'
        · rw [beq_iff_eq]; omega
    generalize openM b [0] = er at *
    have Ho := Lib.hid ho
    clear ho hbad
    rcases hcase with h | ⟨h, hl⟩
    all_goals
      rw [h]
      have H := Lib.hid h
      clear h
      go_wp2_with fail
      refine (hal _ hB.at_).mono ?_
      rintro e w2 ⟨rfl, hx2⟩
      have x2 := hx.trans hx2
      clear hx2 hal
      go_wp2_with fail
      refine (aw _).mono ?_
      rintro e w3 ⟨rfl, hx3⟩
      have x3 := x2.trans hx3
      clear hx3
      go_wp2
      go_ret
      exact ⟨rfl, x3⟩
  have he : errM b = 0 := Classical.byContradiction fun h => hbad (.inl h)
  have hn0 : 0 < b.spellings.length := Nat.pos_of_ne_zero fun h => hbad (.inr h)
  clear hbad
  have hv := valid_of he
  have hn5 := hv.n
  have hS := hv.s
  have hev : (errM b == 0) = true := by simpa using he
  rw [hev]
  have t0 := mod_small which b.spellings.length
  have hi : which % b.spellings.length < b.spellings.length := Nat.mod_lt _ (by omega)
  generalize which % b.spellings.length = i at *
  have wi : IntKind.i64.wrap (i : Int) = i := IntWalk.i64_in _ (by omega)
  have nz : ((b.spellings.length : Int) == 0) = false := by rw [beq_eq_false_iff_ne]; omega
  have nz' : ¬ b.spellings = [] := fun e => by rw [e] at hn0; simp at hn0
  obtain ⟨_, _, hea, -, -, hh⟩ := hsps.ext hx
  obtain ⟨sb, so, rfl, sc0, sc1, sI, sz⟩ := hh i hi
  have hea1 := (Value.slice.inj hea).1
  subst hea1
  clear hea hh
  have k1 : (i : Int) < (b.spellings.length : Int) := by omega
  have hsp := hv.sp i hi
  have hone := fun k (hk : k < (b.spellings[i]).text.size) => one_err he hi hk
  have hlet := lettersAt_eq b i hi
  have hpr := canM_prod b i
  have hpos := canM_pos hv i hi
  generalize hsx : b.spellings[i] = sp at *
  have hlen : (lettersAt b i).length = sp.text.size := by rw [hlet, lettersM, lettersTo_len]
  have hway : ∀ k (hk : k < (lettersAt b i).length), (canM (oneBook b sp.alphabet (oneText sp.text k)) [0]).length = waysM (b.sounds.toNat + 1) (lettersAt b i)[k] := fun k hk => by
    rw [one_count]
    congr 1
    have : ∀ l, l = lettersM (lettersOf b.alphabets sp.alphabet) sp.text → ∀ (h : k < l.length), letterOf (lettersOf b.alphabets sp.alphabet) sp.text k = l[k] := by
      rintro l rfl h
      simp [lettersM, lettersTo]
    exact this _ hlet hk
  have hw1 : ∀ k (hk : k < (lettersAt b i).length), 1 ≤ waysM (b.sounds.toNat + 1) (lettersAt b i)[k] := fun k hk => by
    rw [← hway k hk]
    exact canM_pos (valid_of (hone k (by omega))) 0 (by show 0 < 1; omega)
  have hps := fun k hk => prodTo_succ (b.sounds.toNat + 1) (lettersAt b i) k hk
  have hple := prodTo_le (b.sounds.toNat + 1) (lettersAt b i)
  generalize hls : lettersAt b i = ls at *
  clear hlet hls
  have hsz := hsp.t
  have Hsp := Lib.hid hsp
  have He := Lib.hid he
  have Hv := Lib.hid hv
  have Hlen := Lib.hid hlen
  clear hsp he hv hlen hsx
  go_wp2
  have hxs : Ext w (w1.alloc (.cells #[.int .i64 sp.alphabet, .string sp.text] 55)) := hx.alloc _
  have s0 : (w1.alloc (.cells #[.int .i64 sp.alphabet, .string sp.text] 55)).cell? ⟨w1.heap.size, 0, none⟩ = some (.int .i64 sp.alphabet) := by simp [go_sem]
  have s1 : (w1.alloc (.cells #[.int .i64 sp.alphabet, .string sp.text] 55)).cell? ⟨w1.heap.size, 1, none⟩ = some (.string sp.text) := by simp [go_sem]
  replace hB := hB.ext (ext_alloc w1 (.cells #[.int .i64 sp.alphabet, .string sp.text] 55))
  generalize w1.alloc (.cells #[.int .i64 sp.alphabet, .string sp.text] 55) = W1 at *
  clear c0 c1 c2 z1 sc0 sc1 hx t0 nz nz'
  go_loopw [9, 10] (fun v i wr => ∃ k : Nat, k ≤ sp.text.size ∧ i = .int .i64 k ∧ v = .int .i64 (prodTo (b.sounds.toNat + 1) ls k : Nat) ∧ Ext W1 wr) (fun _ i _ => sp.text.size - (intOf i).toNat)
  case atStart => exact ⟨0, Nat.zero_le _, rfl, by simp [prodTo], Ext.refl _⟩
  case round =>
    obtain ⟨k, hk, rfl, rfl, hxr⟩ := hrel
    replace hB := hB.ext hxr
    have c0 := hB.c0
    have c1 := hB.c1
    have c2 := hB.c2
    have z1 := hB.lt
    replace s0 := hxr.cell s0
    replace s1 := hxr.cell s1
    have z2 := cell_lt s0
    by_cases hlt : k < sp.text.size
    · have k1 : (k : Int) < (sp.text.size : Int) := by omega
      have hk5 : (k : Int) + 1 ≤ (sp.text.size : Int) := by omega
      have kb1 : (0 : Int) ≤ (k : Int) + 1 := by omega
      have kb2 : (k : Int) ≤ (k : Int) + 1 := by omega
      have hexk := extract_one sp.text k hlt
      have Hexk := Lib.hid hexk
      clear hexk
      have wk1 : IntKind.i64.wrap ((k : Int) + 1) = (k : Int) + 1 := IntWalk.i64_in _ (by omega)
      have hcnt := fun bv w hb => count_ok bv (oneBook b sp.alphabet (oneText sp.text k)) (hone k hlt) 0 (by show 0 < 1; omega) w hb
      have hwy := hway k (by rw [Hlen.out]; exact hlt)
      have hw1y := hw1 k (by rw [Hlen.out]; exact hlt)
      have hpsy := hps k (by rw [Hlen.out]; exact hlt)
      have hwle := waysM_le (b.sounds.toNat + 1) (ls[k]'(by rw [Hlen.out]; exact hlt))
      rw [hwy] at hcnt
      generalize waysM (b.sounds.toNat + 1) (ls[k]'(by rw [Hlen.out]; exact hlt)) = wy at *
      have hpk : prodTo (b.sounds.toNat + 1) ls k ≤ 3125 := by
        have h1 := hple k
        have h2 : (b.sounds.toNat + 1) ^ k ≤ 5 ^ k := Nat.pow_le_pow_left (by omega) k
        have h3 : 5 ^ k ≤ 5 ^ 5 := Nat.pow_le_pow_right (by decide) (by omega)
        rcases h1 with h1 | h1
        · omega
        · rw [Hlen.out] at h1; omega
      have hpk1 : prodTo (b.sounds.toNat + 1) ls k * wy ≤ 3125 * 5 := Nat.mul_le_mul hpk (by omega)
      have Hpsy := Lib.hid hpsy
      clear hway hw1 hps hple hwy hpsy
      generalize hP : prodTo (b.sounds.toNat + 1) ls k = P at *
      clear hP
      go_wp2_with fail
      obtain ⟨O, hO⟩ : ∃ O, O = wr.heap.size := ⟨_, rfl⟩
      obtain ⟨W2, hW2⟩ : ∃ W2, W2 = ((wr).alloc (.cells #[.int .i64 b.sounds, .slice ba b.alphabets.length bc, .slice (some ⟨sb, so, none⟩) b.spellings.length bd] 25)) := ⟨_, rfl⟩
      have o0 : W2.cell? ⟨O, 0, none⟩ = some (.int .i64 b.sounds) := by rw [hW2, hO]; simp [go_sem]
      have o1 : W2.cell? ⟨O, 1, none⟩ = some (.slice ba b.alphabets.length bc) := by rw [hW2, hO]; simp [go_sem]
      have o2 : W2.cell? ⟨O, 2, none⟩ = some (.slice (some ⟨sb, so, none⟩) b.spellings.length bd) := by rw [hW2, hO]; simp [go_sem]
      have of : W2.frozen? ⟨O, 2, none⟩ = false := by rw [hW2, hO]; simp [go_sem]
      have xr2 : Ext wr W2 := by rw [hW2]; exact ext_alloc _ _
      rw [← hW2, ← hO]
      have hO2 : wr.heap.size ≤ O := by omega
      replace s0 := xr2.cell s0
      replace s1 := xr2.cell s1
      clear hW2 hO
      apply Facts.Dep.wp_region (two_only IsSlice) 11 [.val _, .val _, .val _, .val _, .val _, .val _, .val (.int .i64 ((k : Int) + 1)), .val _, .val _, .fact (SpV ⟨sp.alphabet, sp.text.extract k (k + 1)⟩), .val _, .on [9] (OneAt wr O (.int .i64 b.sounds) (.slice ba b.alphabets.length bc) ⟨sp.alphabet, sp.text.extract k (k + 1)⟩)] (by kernel_rfl) (by kernel_rfl) (.inl (by kernel_rfl)) (by kernel_rfl) ?keep ?main
      case keep => exact ⟨fun u a c hx h => h.ext hx, fun _ u a c hx h => h.only hx, fun l u a c hx h => h.ext hx, fun h => absurd h (Bool.eq_false_iff.1 (by kernel_rfl)), trivial⟩
      case main =>
        iterate 7 (refine ⟨fun w1 hE hC hh => ?_, ?_⟩; focus (have hx := hE (by kernel_rfl); clear hh hE hC; have e0 := hx.cell s0; have e1 := hx.cell s1; go_simp; first | exact ⟨Ext.refl _, rfl⟩ | exact Ext.refl _))
        iterate 2 (refine ⟨fun w1 hE hC hh => ?_, ?_⟩; focus (have hx := hE (by kernel_rfl); clear hh hE hC; have e0 := hx.cell s0; have e1 := hx.cell s1; go_simp; first | exact ⟨Ext.refl _, rfl⟩ | exact Ext.refl _))
        refine ⟨fun w1 hE hC hh => ?_, ?_⟩
        · have hx := hE (by kernel_rfl)
          clear hh hC hE
          go_simp
          exact ⟨ext_alloc _ _, w1.heap.size, rfl, by simp [go_sem], by simp [go_sem], sI, by rw [Hexk.out]; show (1 : Nat) ≤ 9223372036854775807; omega⟩
        intro u9
        iterate 1 (refine ⟨fun w1 hE hC hh => ?_, ?_⟩; focus (have hx := hE (by kernel_rfl); clear hh hE hC; skip; go_simp; first | exact ⟨Ext.refl _, rfl⟩ | exact Ext.refl _))
        refine ⟨fun w1 hE hC hh => ?_, ?_⟩
        · have hx := hE (by kernel_rfl)
          have h9 : SpV ⟨sp.alphabet, sp.text.extract k (k + 1)⟩ u9 w1 := hh 9 _ List.mem_cons_self (by kernel_rfl)
          clear hh hC hE
          have s9 := h9.spec
          generalize h9.B = B at *
          have e9 := s9.1
          have r9 := s9.2
          clear s9 h9
          have p2 := hx.cell o2
          have hst := store_one (xr2.trans hx) hO2 (hx.cell o0) (hx.cell o1) p2 ⟨_, _, _, rfl⟩ r9
          have hf : w1.frozen? ⟨O, 2, none⟩ = false := by rw [hx.frozen (cell_lt o2)]; exact of
          have hlt2 := cell_lt p2
          subst e9
          go_simp
          first | exact ⟨hst.1, hst.2 _⟩ | exact hst.2 _
        intro u11 w5 hC hh
        have h11 : OneAt wr O (.int .i64 b.sounds) (.slice ba b.alphabets.length bc) ⟨sp.alphabet, sp.text.extract k (k + 1)⟩ [u9] u11 w5 := hh 11 _ List.mem_cons_self
        clear hh hC
        have s11 := h11.spec
        generalize h11.B = B at *
        have e9 := s11.1
        have r9 := s11.2.1
        have x5 := s11.2.2.1
        have q0 := s11.2.2.2.1
        have q1 := s11.2.2.2.2.1
        have q2 := s11.2.2.2.2.2
        clear s11 h11
        subst e9
        rw [Hexk.out] at r9
        have hB5 := hB.ext x5
        have t0 := hB5.c0
        have t1 := hB5.c1
        have t2 := hB5.c2
        have z5 := hB5.lt
        have zO := cell_lt q0
        have hbo : BookAt w5 (.agg #[.int .i64 b.sounds, .slice ba b.alphabets.length bc, .slice (some ⟨B, 0, none⟩) 1 1]) (oneBook b sp.alphabet (oneText sp.text k)) := by
          obtain ⟨av, sv, e1, g2, g3, g4⟩ := hB5.at_
          simp only [Value.agg.injEq, Array.mk.injEq, List.cons.injEq, and_true, true_and] at e1
          obtain ⟨rfl, rfl⟩ := e1
          exact ⟨_, _, rfl, g2, g3, ⟨_, _, rfl, Nat.le_refl _, by omega, fun j hj => by
            have hj0 : j = 0 := by have : j < 1 := hj; omega
            subst hj0
            exact ⟨B, 0, rfl, r9⟩⟩⟩
        clear o0 o1 o2 of xr2 s0 s1 c0 c1 c2 z1 z2 r9
        go_simp
        go_wp2_with fail
        refine (hcnt _ _ hbo).mono ?_
        rintro e w6 ⟨rfl, hx6⟩
        have x6 := x5.trans hx6
        have hB6 := hB5.ext hx6
        have r0 := hB6.c0
        have r1 := hB6.c1
        have r2 := hB6.c2
        have z6 := hB6.lt
        have zb := cell_lt (hx6.cell q0)
        have wm : IntKind.i64.wrap ((P : Int) * (wy : Int)) = ((P * wy : Nat) : Int) := by
          rw [show ((P : Int) * (wy : Int)) = ((P * wy : Nat) : Int) from by simp]
          exact IntWalk.i64_in _ (by omega)
        have ws : IntKind.i64.wrap (b.sounds + 1) = b.sounds + 1 := IntWalk.i64_in _ (by omega)
        have g1 : ¬ (wy : Int) < 1 := by omega
        have g2 : ¬ b.sounds + 1 < (wy : Int) := by omega
        have hxw := hxr.trans x6
        clear hcnt hx6 q0 q1 q2 hbo t0 t1 t2 z5 hB5 x5
        go_wp2
        go_roundw
        case rel => exact ⟨k + 1, by omega, by go_num, by rw [Hpsy.out]; first | rfl | simp, hxw⟩
        case measure => simp [intOf]; omega
    · obtain rfl : k = sp.text.size := by omega
      have hct := fun w hb => count_ok (.agg #[.int .i64 b.sounds, .slice ba b.alphabets.length bc, .slice (some ⟨sb, so, none⟩) b.spellings.length bd]) b He.out i hi w hb
      have hpb : prodTo (b.sounds.toNat + 1) ls ls.length ≤ 3125 := by
        have h1 := hple ls.length
        have h2 : (b.sounds.toNat + 1) ^ ls.length ≤ 5 ^ ls.length := Nat.pow_le_pow_left (by omega) _
        have h3 : 5 ^ ls.length ≤ 5 ^ 5 := Nat.pow_le_pow_right (by decide) (by rw [Hlen.out]; omega)
        omega
      rw [Hlen.out] at hpr hpb
      generalize (canM b [i]).length = n at *
      generalize prodTo (b.sounds.toNat + 1) ls sp.text.size = P at *
      have g1 : (1 : Int) ≤ (n : Int) := by omega
      have g2 : (n : Int) ≤ (P : Int) := by omega
      have hxw := hxs.trans hxr
      clear hway hw1 hps hple hone hpr hpb hpos hlt
      go_wp2_with fail
      refine (hct _ hB.at_).mono ?_
      rintro e w6 ⟨rfl, hx6⟩
      have x6 := hxw.trans hx6
      clear hx6 hct hB c0 c1 c2 z1
      go_wp2_with fail
      refine (aw _).mono ?_
      rintro e w7 ⟨rfl, hx7⟩
      have x7 := x6.trans hx7
      clear hx7
      go_wp2
      go_ret
      exact ⟨rfl, x7⟩
end Go.Proofs.Ytagpngddaenkkaa

namespace Go.Proofs.Ytagpngddaenkkaa.earCounted
open Go.ChangeShapes Go.WideShapes Go.ChangeAt Go.RowKit
set_option linter.unusedVariables false

theorem own : ownKnob Try.prog.godebug = none := by kernel_rfl
theorem laid : laidOutB Try.prog = true := by kernel_rfl
theorem read0 : Try.prog.readableRec 25 = true := by kernel_rfl
theorem row0 : 25 < Try.prog.types.size := of_decide_eq_true (by kernel_rfl)
theorem read1 : Try.prog.readableRec 5 = true := by kernel_rfl
theorem row1 : 5 < Try.prog.types.size := of_decide_eq_true (by kernel_rfl)

set_option maxRecDepth 100000 in
theorem lifted (os : Os) (started : os.Started) (H : Type) (enc : TypeId × Value → H) :
    ReturnsInHanded {} Try.checked os 14 .any (Rows.earCountedSpec.pre6 enc Try.prog Try.f14 Rows.earCountedRow.domain false) (Rows.earCountedSpec.post enc Try.prog Try.f14 false true false false) := by
  refine returnsInHanded_of_change (C := Try.checked) own started (by kernel_rfl) Try.func14
    (ChangeSpec.witness6 (enc := enc) (C := Try.checked) false ⟨#[], #[.agg #[.int .i64 0, .slice none 0 0, .slice none 0 0], .int .u8 0], []⟩ 8 (by kernel_rfl) (by kernel_rfl) (by kernel_rfl) (by kernel_rfl)) ?_
  intro W base args ds gs before hval0 hW hcnd _
  have hval : ∀ (j : Nat) t v, Try.f14.params[j]? = some t → args[j]? = some v → Value.okWide Try.prog W .any base t v := hval0
  have hW' := hW
  obtain ⟨p, q, hA0, hV, rfl, hfz, hnd⟩ := hW
  have hA : DataW.TrodAll enc Try.prog W 0 (fun _ => true) true Try.f14.params.toList args.toList ds p := hA0
  rw [Try.params14] at hA hval
  obtain ⟨v0, vs0, d0, ds0, p0, q0, hargs0, rfl, rfl, h0, r0⟩ := trodAll_cons hA
  obtain ⟨v1, vs1, d1, ds1, p1, q1, hargs1, rfl, rfl, h1, r1⟩ := trodAll_cons r0
  obtain ⟨rfl, rfl, rfl⟩ := trodAll_nil r1
  subst hargs1
  obtain rfl : args = #[v0, v1] := by cases args; simp_all
  obtain ⟨rfl, rfl⟩ := trodVars_none hV
  obtain ⟨b, hb⟩ := book_of (hval 0 25 v0 rfl rfl) h0
  obtain ⟨x, rfl, hx⟩ := byte_of (hval 1 5 v1 rfl rfl) h1
  clear hA0 hval0
  simp only [List.append_nil] at hW'
  refine (counted_law v0 b x hx W hb).mono fun e W' ⟨he, hg⟩ => ?_
  subst he
  have hlt := hW'.lt
  exact ⟨_, rfl, post_ext (pa := p0 ++ p1) (pv := []) hW' (fun _ _ _ => (trodAll_cons_mk (shut_bool Try.underlying4 _) trodAll_mk0))
    (fun sp hsp => by
      have g0 := Go.WideElems.Trod_stays (sp' := sp) laid read0 row0 h0 (W' := W') (fun p hp => same_of_ext hg (hlt p (List.mem_append_left _ hp))) (fun p hp => hsp p (List.mem_append_left _ hp))
      have g1 := Go.WideElems.Trod_stays (sp' := sp) laid read1 row1 h1 (W' := W') (fun p hp => same_of_ext hg (hlt p (List.mem_append_right _ hp))) (fun p hp => hsp p (List.mem_append_right _ hp))
      have := trodAll_cons_mk g0 (trodAll_cons_mk g1 (trodAll_mk0 (enc := enc) (P := Try.prog) (w := W') (base := 0) (spare := sp) (held := true)))
      rw [List.append_nil] at this
      exact this) (fun _ _ => rfl) (by simp)
    hg (ok_one (by kernel_rfl) rfl (okWide_bool_mk Try.underlying4 _))⟩

theorem over : Rows.earCountedRow.holds Try.pinned (OpenSpec.ofChange Rows.earCountedSpec) :=
  OpenClaim.holds_of_wide 14 Try.f14 rfl rfl rfl rfl rfl rfl rfl ⟨rfl, rfl, rfl, rfl, rfl⟩ rfl rfl rfl rfl rfl (by kernel_rfl) Try.func14 (by kernel_rfl)
    (of_decide_eq_true (by kernel_rfl)) (by unfold Func.isWrapper; first | (rw [if_pos (by decide +kernel)]; kernel_rfl) | (rw [if_neg (by decide +kernel)]; exact ⟨rfl, rfl⟩))
    (fun os started H enc _ => lifted os started H enc)

/-- ████ THE STATEMENT ████ -/
theorem earCounted_said : Rows.EarCountedSaid :=
  over
end Go.Proofs.Ytagpngddaenkkaa.earCounted
