/-
  LISTS OF LISTS THAT A CALL MAKES ITSELF: a row of slices, each with numbers of its own.
  WHAT Choices OF THE REFERENCE RETURNS.
-/
import Derived.Test.YtagpngddaenkkaaBunW
import Derived.Maps.AppendAt
import Derived.Laws.AppendOwnNone
namespace Go.Proofs.Ytagpngddaenkkaa
open Go.RowKit
set_option linter.unusedVariables false

theorem IntsAt.grownBy {w w' : World} {row : Option Nat} {sa : Option Addr} {n sc : Nat} {l : List Int} (h : IntsAt w (.slice sa n sc) l) (hg : w.grownBy w' row) (hne : ∀ ad, sa = some ad → some ad.block ≠ row) : IntsAt w' (.slice sa n sc) l := by
  obtain ⟨a, cap, e, h2, h3, h4⟩ := h
  obtain ⟨rfl, rfl, rfl⟩ := Value.slice.inj e
  refine ⟨_, _, rfl, h2, h3, fun i hi => ?_⟩
  obtain ⟨b, o, rfl, r⟩ := h4 i hi
  exact ⟨b, o, rfl, hg.cell r.1 (show some b ≠ row from hne ⟨b, o, none⟩ rfl), r.2⟩
/-- one element: a slice with these numbers, not in the row's own block -/
def ElemAt (w : World) (own : Option Nat) (x : Value) (L : List Nat) : Prop := ∃ sa sc, x = .slice sa L.length sc ∧ IntsAt w (.slice sa L.length sc) (ints L) ∧ ∀ ad, sa = some ad → ad.block < w.heap.size ∧ some ad.block ≠ own
/-- a row of lists of one's own -/
def ListsOwn (w : World) (base : Nat) (v : Value) (LL : List (List Nat)) : Prop :=
  ∃ vs : List Value, w.ownsRow base 32 1 v LL.length vs ∧ ∀ (i : Nat) (x : Value) (L : List Nat), vs[i]? = some x → LL[i]? = some L → ElemAt w v.ownBlock x L
theorem ListsOwn.nil (w : World) (base : Nat) : ListsOwn w base (.slice none 0 0) [] := ⟨[], World.ownsRow_nil _ _ _ _, fun i x L h => by simp at h⟩
theorem ListsOwn.ext {w w' : World} {base : Nat} {v : Value} {LL : List (List Nat)} (h : ListsOwn w base v LL) (hx : Ext w w') : ListsOwn w' base v LL := by
  obtain ⟨vs, h1, h2⟩ := h
  refine ⟨vs, Ext.owns h1 hx, fun i x L hi hL => ?_⟩
  obtain ⟨sa, sc, rfl, h3, h4⟩ := h2 i x L hi hL
  exact ⟨sa, sc, rfl, h3.ext hx, fun ad e => ⟨Nat.lt_of_lt_of_le (h4 ad e).1 hx.size, (h4 ad e).2⟩⟩
theorem ListsOwn.at_ {w : World} {base : Nat} {v : Value} {LL : List (List Nat)} (h : ListsOwn w base v LL) : ListsAt w v LL := by
  obtain ⟨vs, h1, h2⟩ := h
  have hlen : vs.length = LL.length := by have := h1.1; omega
  have hcells := fun g hg => h1.cells (g := g) hg
  rcases h1.2 with ⟨rfl, hn⟩ | ⟨g, cap, cur, rfl, hb, hg, hnc, hcm, hcs, htake⟩
  · have : LL = [] := List.eq_nil_of_length_eq_zero hn
    subst this; exact SliceAt.nil
  · refine ⟨_, _, rfl, hnc, by simpa [maxLen] using hcm, fun i hi => ⟨g, 0, rfl, ?_⟩⟩
    have hv : vs[i]? = some vs[i] := List.getElem?_eq_getElem (by omega)
    obtain ⟨sa, sc, e, h3, -⟩ := h2 i vs[i] LL[i] hv (List.getElem?_eq_getElem hi)
    have := hcells g rfl i vs[i] hv
    have ea : (⟨g, 0, none⟩ : Addr).add i = ⟨g, 0 + i * 1, none⟩ := by unfold Addr.add; split <;> simp_all
    rw [ea, e] at this
    exact ⟨_, this, h3⟩
/-- one more list at the end -/
theorem ListsOwn.push {w wA w' : World} {base : Nat} {v v' x : Value} {LL : List (List Nat)} {L : List Nat} {vs : List Value} (h1 : w.ownsRow base 32 1 v LL.length vs) (h2 : ∀ (i : Nat) (x : Value) (L : List Nat), vs[i]? = some x → LL[i]? = some L → ElemAt w v.ownBlock x L) (hx : Ext w wA) {t : TypeId}
    (hv : ∃ sa sc, x = .slice sa L.length sc ∧ IntsAt wA x (ints L) ∧ ∀ ad, sa = some ad → w.heap.size ≤ ad.block ∧ ad.block < wA.heap.size)
    (hown : w'.ownsRow base 32 1 v' (LL.length + 1) (vs ++ [x])) (hg : (wA.alloc (.cells #[x] t)).grownBy w' v.ownBlock) (hb : v'.ownBlock = v.ownBlock ∨ v'.ownBlock = some (wA.heap.size + 1)) :
    ListsOwn w' base v' (LL ++ [L]) := by
  have hlt := fun k hk => h1.lt k hk
  have h2A : ∀ (i : Nat) (x : Value) (L : List Nat), vs[i]? = some x → LL[i]? = some L → ElemAt wA v.ownBlock x L := fun i x L hi hL => by
    obtain ⟨sa, sc, rfl, h3, h4⟩ := h2 i x L hi hL
    exact ⟨sa, sc, rfl, h3.ext hx, fun ad e => ⟨Nat.lt_of_lt_of_le (h4 ad e).1 hx.size, (h4 ad e).2⟩⟩
  have hlen : vs.length = LL.length := by have := h1.1; omega
  have hg0 : wA.grownBy (wA.alloc (.cells #[x] t)) v.ownBlock := World.grownBy_alloc _ _ _
  have hsz : (wA.alloc (.cells #[x] t)).heap.size = wA.heap.size + 1 := by simp
  have hsz2 := hg.size
  have keep : ∀ (sa : Option Addr) (n sc : Nat) (l : List Int), IntsAt wA (.slice sa n sc) l → (∀ ad, sa = some ad → ad.block < wA.heap.size ∧ some ad.block ≠ v.ownBlock) → IntsAt w' (.slice sa n sc) l ∧ ∀ ad, sa = some ad → ad.block < w'.heap.size ∧ some ad.block ≠ v'.ownBlock := fun sa n sc l hi hne => by
    refine ⟨(hi.grownBy hg0 fun ad e => (hne ad e).2).grownBy hg fun ad e => (hne ad e).2, fun ad e => ⟨by have := (hne ad e).1; omega, ?_⟩⟩
    rcases hb with hb | hb
    · rw [hb]; exact (hne ad e).2
    · rw [hb]; intro e2; have := (hne ad e).1; have := Option.some.inj e2; omega
  refine ⟨vs ++ [x], by rw [List.length_append]; exact hown, fun i y M hi hM => ?_⟩
  rcases Nat.lt_or_ge i vs.length with h3 | h3
  · rw [List.getElem?_append_left h3] at hi
    rw [List.getElem?_append_left (by omega)] at hM
    obtain ⟨sa, sc, rfl, h4, h5⟩ := h2A i y M hi hM
    obtain ⟨k1, k2⟩ := keep sa _ sc _ h4 h5
    exact ⟨sa, sc, rfl, k1, k2⟩
  · rw [List.getElem?_append_right h3] at hi
    rw [List.getElem?_append_right (by omega)] at hM
    have hi0 : i - vs.length = 0 := by
      rcases Nat.eq_zero_or_pos (i - vs.length) with h6 | h6
      · exact h6
      · rw [List.getElem?_eq_none (by simp; omega)] at hi; cases hi
    rw [hi0] at hi
    rw [show i - LL.length = 0 from by omega] at hM
    obtain rfl : x = y := by simpa using hi
    obtain rfl : L = M := by simpa using hM
    obtain ⟨sa, sc, rfl, h4, h5⟩ := hv
    obtain ⟨k1, k2⟩ := keep sa _ sc _ h4 fun ad e => ⟨(h5 ad e).2, fun e2 => by have := (hlt ad.block e2.symm).2; have := (h5 ad e).1; omega⟩
    exact ⟨sa, sc, rfl, k1, k2⟩
theorem ints_news {w : World} {ad : Addr} {n c : Nat} {l : List Int} (h : IntsAt w (.slice (some ad) n c) l) : ∀ j u, (l.map (Value.int .i64))[j]? = some u → w.cell? (ad.add j) = some u := by
  intro j u hu
  have hj : j < l.length := by
    rcases Nat.lt_or_ge j l.length with h1 | h1
    · exact h1
    · rw [List.getElem?_eq_none (by simpa using h1)] at hu; cases hu
  obtain ⟨a, cap, e, -, -, h4⟩ := h
  obtain ⟨b, o, e2, r⟩ := h4 j hj
  have e3 := (Value.slice.inj e).1
  rw [e2] at e3
  obtain rfl := Option.some.inj e3
  rw [List.getElem?_eq_getElem (by simpa using hj)] at hu
  obtain rfl := Option.some.inj hu
  have ea : (⟨b, o, none⟩ : Addr).add j = ⟨b, o + j * 1, none⟩ := by unfold Addr.add; split <;> simp_all
  rw [ea, List.getElem_map]
  exact r.1
theorem ints_cells (l : List Int) : ∀ u ∈ l.map (Value.int .i64), u.oneCell' = true := fun u hu => by
  obtain ⟨x, -, rfl⟩ := List.mem_map.1 hu
  simp [Value.oneCell']
theorem infoInts : (Try.prog.info? 32).map (fun i => (i.zero, i.size, i.bytes)) = some (some (.slice none 0 0), 1, 24) := by kernel_rfl
/-- a list of lists where a list of nothing is nil -/
def listR0 (w : World) (b o : Nat) (l : List Nat) : Prop := ∃ s, w.cell? ⟨b, o, none⟩ = some s ∧ IntsAt w s (ints l) ∧ (l = [] → s = .slice none 0 0)
theorem listR0.keeps : Keeps listR0 := fun _ _ _ _ _ hx ⟨s, h1, h2, h3⟩ => ⟨s, hx.cell h1, h2.ext hx, h3⟩
abbrev Lists0 : World → Value → List (List Nat) → Prop := SliceAt 1 listR0
theorem Lists0.ext {w w' : World} {v : Value} {l : List (List Nat)} (h : Lists0 w v l) (hx : Ext w w') : Lists0 w' v l := SliceAt.ext listR0.keeps h hx
theorem Lists0.of {w : World} {v : Value} {l : List (List Nat)} (h : ListsAt w v l) (hne : ∀ L ∈ l, L ≠ []) : Lists0 w v l := by
  obtain ⟨a, cap, e, h2, h3, h4⟩ := h
  refine ⟨a, cap, e, h2, h3, fun i hi => ?_⟩
  obtain ⟨b, o, e2, s, h5, h6⟩ := h4 i hi
  exact ⟨b, o, e2, s, h5, h6, fun e3 => absurd e3 (hne _ (List.getElem_mem hi))⟩
theorem Lists0.at_ {w : World} {v : Value} {l : List (List Nat)} (h : Lists0 w v l) : ListsAt w v l := by
  obtain ⟨a, cap, e, h2, h3, h4⟩ := h
  refine ⟨a, cap, e, h2, h3, fun i hi => ?_⟩
  obtain ⟨b, o, e2, s, h5, h6, -⟩ := h4 i hi
  exact ⟨b, o, e2, s, h5, h6⟩
end Go.Proofs.Ytagpngddaenkkaa

namespace Go.Proofs.Ytagpngddaenkkaa
open Go.RowKit
set_option linter.unusedVariables false

theorem ch_next (n : Nat) (LL : List (List Nat)) (q : Nat) (h : q < LL.length) : (LL.take (q + 1)).flatMap (chStep n) = (LL.take q).flatMap (chStep n) ++ chStep n LL[q] := by
  rw [List.take_succ_eq_append_getElem h, List.flatMap_append]
  simp
theorem ch_len (n : Nat) : ∀ LL : List (List Nat), n ≤ 5 → (LL.flatMap (chStep n)).length ≤ 5 * LL.length
  | [], _ => by simp
  | L :: LL, h => by
    have := ch_len n LL h
    rw [List.flatMap_cons, List.length_append, List.length_cons]
    have : (chStep n L).length ≤ 5 := by unfold chStep; rw [List.length_map, List.length_range']; omega
    omega
theorem ch_snoc (n : Nat) (L : List Nat) (m : Nat) (h : leastOf L ≤ m) : (List.range' (leastOf L) (m + 1 - leastOf L)).map (fun x => L ++ [x]) = (List.range' (leastOf L) (m - leastOf L)).map (fun x => L ++ [x]) ++ [L ++ [m]] := by
  rw [show m + 1 - leastOf L = (m - leastOf L) + 1 from by omega, List.range'_1_concat, List.map_append]
  rw [show leastOf L + (m - leastOf L) = m from by omega]
  rfl
theorem least_last (L : List Nat) (k : Nat) (h : L.length = k + 1) : leastOf L = L[k] + 1 := by
  have e : L.getLast? = some L[k] := by
    rw [List.getLast?_eq_getElem?, show L.length - 1 = k from by omega, List.getElem?_eq_getElem (by omega)]
  unfold leastOf
  rw [e]

set_option maxRecDepth 100000 in
set_option maxHeartbeats 8000000 in
theorem choices_any : ChoicesGive := by
  intro n many hn hm w
  have hfine : ∀ k, k ≤ 5 → ∀ L ∈ chTo n k, L.length = k ∧ ∀ x ∈ L, x < n := fun k hk L hL => by
    have h := ch_fine ⟨n, by omega⟩ ⟨k, by omega⟩ L hL
    exact ⟨h.1, h.2.2⟩
  have hfew : ∀ k, k ≤ 5 → (chTo n k).length ≤ 10 := fun k hk => ch_few ⟨n, by omega⟩ ⟨k, by omega⟩
  have Hfine := Lib.hid hfine
  have Hfew := Lib.hid hfew
  clear hfine hfew
  obtain ⟨i0, hi, hz0, hz1, hz2⟩ := info_parts infoInt
  obtain ⟨j0, hj, hy0, hy1, hy2⟩ := info_parts infoInts
  go_enter Try.func73, Try.ntmps73
  go_wp2
  go_loopw [5, 6] (fun v i wr => ∃ k : Nat, k ≤ many ∧ i = .int .i64 k ∧ Ext w wr ∧ Lists0 wr v (chTo n k)) (fun _ i _ => many - (intOf i).toNat)
  case atStart =>
    refine ⟨0, Nat.zero_le _, rfl, ext_alloc _ _, some ⟨w.heap.size, 0, none⟩, 1, rfl, Nat.le_refl _, by omega, fun i hi => ?_⟩
    have hi' : i < 1 := hi
    obtain rfl : i = 0 := by omega
    exact ⟨_, _, rfl, .slice none 0 0, by simp [go_sem], IntsAt.nothing _, fun _ => rfl⟩
  case round =>
    obtain ⟨k, hk, rfl, hx, hLL⟩ := hrel
    obtain ⟨R, hR⟩ : ∃ R : World, R = wr := ⟨_, rfl⟩
    subst hR
    by_cases hlt : k < many
    · have k1 : (k : Int) < (many : Int) := by omega
      have hf := Hfine.out k (by omega)
      have hl10 := Hfew.out k (by omega)
      have hch : chTo n (k + 1) = (chTo n k).flatMap (chStep n) := rfl
      have hf2 := Hfine.out (k + 1) (by omega)
      rw [hch] at hf2
      obtain ⟨LL, hLLe⟩ : ∃ LL, LL = chTo n k := ⟨_, rfl⟩
      rw [← hLLe] at hLL hf hl10 hch hf2
      have Hch := Lib.hid hch
      have Hf2 := Lib.hid hf2
      clear hch hLLe hf2
      obtain ⟨oa, oc, rfl, -⟩ := hLL.shape
      have Hf := Lib.hid hf
      clear hf
      go_wp2
      go_loopw [7, 8] (fun v i wr => ∃ q : Nat, q ≤ LL.length ∧ i = .int .i64 q ∧ Ext R wr ∧ ListsOwn wr R.heap.size v ((LL.take q).flatMap (chStep n))) (fun _ i _ => LL.length - (intOf i).toNat)
      case atStart => exact ⟨0, Nat.zero_le _, rfl, Ext.refl _, ListsOwn.nil _ _⟩
      case round =>
        obtain ⟨q, hq, rfl, hxr, hown⟩ := hrel
        obtain ⟨R1, hR1⟩ : ∃ R1 : World, R1 = wr := ⟨_, rfl⟩
        subst hR1
        by_cases hql : q < LL.length
        · have k2 : (q : Int) < (LL.length : Int) := by omega
          have hnx := ch_next n LL q hql
          have hplen := ch_len n (LL.take q) hn
          have hplen2 : (LL.take q).length ≤ 10 := by rw [List.length_take]; omega
          have hLf := Hf.out LL[q] (List.getElem_mem hql)
          have hLL0 := hLL
          obtain ⟨_, _, hea, -, -, hh⟩ := hLL0
          obtain ⟨ob, oo, rfl, s, cs, hs, hs0⟩ := hh q hql
          have hea1 := (Value.slice.inj hea).1
          subst hea1
          simp only [Nat.mul_one] at cs
          clear hea hh
          generalize LL[q] = L at *
          generalize (LL.take q).flatMap (chStep n) = pre at *
          have hpre : pre.length ≤ 50 := by omega
          have Hnx := Lib.hid hnx
          clear hnx hplen hplen2
          have hll : leastOf L ≤ n := by
            rcases Nat.eq_zero_or_pos L.length with h0 | h0
            · rw [List.eq_nil_of_length_eq_zero h0]; exact Nat.zero_le _
            · rw [least_last L (L.length - 1) (by omega)]
              have := hLf.2 _ (List.getElem_mem (show L.length - 1 < L.length by omega))
              omega
          by_cases hk0 : k = 0
          · have hL0 : L = [] := List.eq_nil_of_length_eq_zero (by rw [hLf.1, hk0])
            obtain rfl := hs0 hL0
            have hl0 : leastOf L = 0 := by rw [hL0]; rfl
            have HL0 := Lib.hid hL0
            have Hl0 := Lib.hid hl0
            have hkz : ¬ (0 : Int) < (k : Int) := by omega
            have hkz2 : k = 0 := hk0
            clear hs0 hL0 hl0 hk0
            have c0 := hxr.cell cs
            have z1 := cell_lt c0
            go_wp2
            clear c0 z1
            go_loopw [7, 10] (fun v i wr => ∃ m : Nat, leastOf L ≤ m ∧ m ≤ n ∧ i = .int .i64 m ∧ Ext R wr ∧ ListsOwn wr R.heap.size v (pre ++ (List.range' (leastOf L) (m - leastOf L)).map (fun x => L ++ [x]))) (fun _ i _ => n - (intOf i).toNat)
            case atStart => exact ⟨leastOf L, Nat.le_refl _, hll, by (rw [Hl0.out]; rfl), hxr, by rw [Nat.sub_self]; simpa using hown⟩
            case round =>
              obtain ⟨m, hm1, hm2, rfl, hxr, hown⟩ := hrel
              have c0 := hxr.cell cs
              have hsr := hs.ext hxr
              have z1 := cell_lt c0
              by_cases hmn : m < n
              · have k3 : (m : Int) < (n : Int) := by omega
                have hsn := ch_snoc n L m hm1
                have hcl : (pre ++ (List.range' (leastOf L) (m - leastOf L)).map (fun x => L ++ [x])).length ≤ 60 := by
                  rw [List.length_append, List.length_map, List.length_range']; omega
                have hsn2 : pre ++ (List.range' (leastOf L) (m + 1 - leastOf L)).map (fun x => L ++ [x]) = (pre ++ (List.range' (leastOf L) (m - leastOf L)).map (fun x => L ++ [x])) ++ [L ++ [m]] := by rw [hsn, List.append_assoc]
                have Hsn := Lib.hid hsn2
                generalize pre ++ (List.range' (leastOf L) (m - leastOf L)).map (fun x => L ++ [x]) = cur at *
                clear hsn hsn2
                obtain ⟨vs, hrow, helem⟩ := hown
                have hszr := hxr.size
                have hvl := hrow.1
                have Hvl := Lib.hid hvl
                have Helem := Lib.hid helem
                clear hvl helem
                have hIL : ∀ x ∈ ints (L ++ [m]), I64 x := fun x hx => by
                  simp only [ints, List.mem_map] at hx
                  obtain ⟨y, hy, rfl⟩ := hx
                  rcases List.mem_append.1 hy with h | h
                  · have := hLf.2 y h
                    unfold I64; omega
                  · rw [List.mem_singleton] at h; subst h; unfold I64; omega
                have HIL := Lib.hid hIL
                have hil : (ints (L ++ [m])).length = (L ++ [m]).length := by simp [ints]
                have Hil := Lib.hid hil
                have hL5 : L.length ≤ 5 := by have := hLf.1; omega
                clear hIL hil
                go_wp2_with (at_builtin; first | (refine wpList_append_own_none rfl _ _ 32 rfl (wr.heap.size) 3 i0 1 Try.underlying32 hi _ _ _ rfl (World.ownsRow_made wr #[] 0 (Nat.le_refl _) (by unfold maxLen; omega) rfl) rfl ?_; have hown1 := World.ownsRow_made (base := wr.heap.size) (e := 3) (size := 1) wr #[] 0 (Nat.le_refl _) (by unfold maxLen; omega) rfl; have x1 : Ext wr (wr.alloc (.cells #[] 3)) := ext_alloc _ _; have x1s := x1.size; generalize wr.alloc (.cells #[] 3) = w1 at *) | (refine wpList_append_own _ rfl _ _ 32 rfl (wr.heap.size) 3 i0 (.int .i64 0) 1 8 Try.underlying32 hi hz0 hz1 hz2 rfl (by decide) _ _ _ rfl (hown1.alloc _) ⟨w1.heap.size, 0, none⟩ 1 1 [.int .i64 m] rfl rfl (cell_one_new _ _ _) (by simp [Value.oneCell']) (by unfold maxLen; omega) (by omega) (by simp; omega) ?_; intro v2 w2 hown2 hgrow2 _; have hl2 : IntsAt w2 v2 (ints (L ++ [m])) := IntsAt.of_own (by simpa [ints, HL0.out] using hown2) HIL.out; have x2 : Ext wr w2 := Ext.grown (x1.alloc _) hgrow2 (fun k hk => (hown1.lt k hk).1); have hx2s := x2.size; have hlt2 := hown2.lt; obtain ⟨sa2, sc2, rfl, -⟩ := hl2.shape; rw [Hil.out] at hl2 hlt2 ⊢; obtain ⟨nl, hnl⟩ : ∃ nl, nl = (L ++ [m]).length := ⟨_, rfl⟩; rw [← hnl] at hl2 hlt2 ⊢; have Hnl := Lib.hid hnl; clear hown2 hgrow2 hnl) | (refine wpList_append_own_at _ rfl _ _ 111 rfl R.heap.size 32 j0 (.slice none 0 0) 1 24 Try.underlying111 hj hy0 hy1 hy2 rfl (by decide) _ _ _ rfl ((Ext.owns hrow x2).alloc _) ⟨w2.heap.size, 0, none⟩ 1 1 [.slice sa2 nl sc2] rfl rfl (cell_one_new _ _ _) (by simp [Value.oneCell']) (by unfold maxLen; omega) (by omega) (by simp; omega) ?_; intro v3 w3 hown3 hgrow3 _ hblk))
                have x3 : Ext R w3 := Ext.grown ((hxr.trans x2).alloc _) hgrow3 fun k hk => (hrow.lt k hk).1
                have hnew := ListsOwn.push hrow Helem.out x2 ⟨sa2, sc2, (by rw [Hnl.out]), hl2, fun ad e => hlt2 ad.block (by rw [e]; rfl)⟩ hown3 hgrow3 (hblk.elim .inl (fun e => .inr (e.trans (by simp))))
                go_roundw
                case rel => exact ⟨m + 1, by omega, by omega, by go_num, x3, by rw [Hsn.out]; exact hnew⟩
                case measure => simp [intOf]; omega
              · obtain rfl : m = n := by omega
                have Hfin : Hid ((LL.take (q + 1)).flatMap (chStep m) = pre ++ (List.range' (leastOf L) (m - leastOf L)).map (fun x => L ++ [x])) := Lib.hid (by rw [Hnx.out]; rfl)
                clear hmn
                go_wp2
                go_roundw
                case rel => first | exact ⟨q + 1, by omega, by go_num, hxr, by rw [Hfin.out]; exact hown⟩ | exact ⟨q + 1, by omega, by go_num, by rw [Hfin.out]; exact hown⟩ | exact ⟨q + 1, by omega, hxr, by rw [Hfin.out]; exact hown⟩
                case measure => simp [intOf]; omega
          · obtain ⟨k', hk'⟩ : ∃ k', k = k' + 1 := ⟨k - 1, by omega⟩
            have hlast := least_last L k' (by rw [hLf.1, hk'])
            have hs1 := hs.ext hxr
            obtain ⟨sa0, sc, rfl, hsc1, hsc2⟩ := hs.shape
            obtain ⟨_, _, hea, -, -, hh⟩ := hs1
            have hil0 : (ints L).length = L.length := by simp [ints]
            obtain ⟨sb, so, rfl, sv, -⟩ := hh k' (by rw [hil0, hLf.1]; omega)
            have hea1 := (Value.slice.inj hea).1
            subst hea1
            have ce : (ints L)[k']'(by rw [hil0, hLf.1]; omega) = ((L[k']'(by rw [hLf.1]; omega) : Nat) : Int) := by simp [ints]
            rw [ce] at sv
            simp only [Nat.mul_one] at sv
            have hyn := hLf.2 (L[k']'(by rw [hLf.1]; omega)) (List.getElem_mem _)
            generalize L[k']'(by rw [hLf.1]; omega) = y at *
            rw [hil0] at hs cs hsc1
            obtain ⟨n0, hn0⟩ : ∃ n0, n0 = L.length := ⟨_, rfl⟩
            rw [← hn0] at hs cs hsc1
            have hn05 : n0 ≤ 5 := by rw [hn0, hLf.1]; omega
            have Hn0 := Lib.hid hn0
            have kc : (k : Int) = (k' : Int) + 1 := by omega
            have hgt : (0 : Int) < (k : Int) := by omega
            have wk : IntKind.i64.wrap ((k : Int) - 1) = (k' : Int) := by rw [kc, show (k' : Int) + 1 - 1 = (k' : Int) from by omega]; exact IntWalk.i64_in _ (by omega)
            have wy : IntKind.i64.wrap ((y : Int) + 1) = (y : Int) + 1 := IntWalk.i64_in _ (by omega)
            have hkL : (k' : Int) < (n0 : Int) := by rw [hn0, hLf.1]; omega
            have Hlast := Lib.hid hlast
            have Kc := Lib.hid kc
            have Hk' := Lib.hid hk'
            have c0 := hxr.cell cs
            have z1 := cell_lt c0
            have z2 := cell_lt sv
            clear hs0 hlast kc hk' hea hh ce hil0 hn0
            go_wp2
            clear c0 z1 sv z2
            go_loopw [7, 10] (fun v i wr => ∃ m : Nat, leastOf L ≤ m ∧ m ≤ n ∧ i = .int .i64 m ∧ Ext R wr ∧ ListsOwn wr R.heap.size v (pre ++ (List.range' (leastOf L) (m - leastOf L)).map (fun x => L ++ [x]))) (fun _ i _ => n - (intOf i).toNat)
            case atStart => exact ⟨leastOf L, Nat.le_refl _, hll, by (rw [Hlast.out]; go_num), hxr, by rw [Nat.sub_self]; simpa using hown⟩
            case round =>
              obtain ⟨m, hm1, hm2, rfl, hxr, hown⟩ := hrel
              have c0 := hxr.cell cs
              have hsr := hs.ext hxr
              have z1 := cell_lt c0
              by_cases hmn : m < n
              · have k3 : (m : Int) < (n : Int) := by omega
                have hsn := ch_snoc n L m hm1
                have hcl : (pre ++ (List.range' (leastOf L) (m - leastOf L)).map (fun x => L ++ [x])).length ≤ 60 := by
                  rw [List.length_append, List.length_map, List.length_range']; omega
                have hsn2 : pre ++ (List.range' (leastOf L) (m + 1 - leastOf L)).map (fun x => L ++ [x]) = (pre ++ (List.range' (leastOf L) (m - leastOf L)).map (fun x => L ++ [x])) ++ [L ++ [m]] := by rw [hsn, List.append_assoc]
                have Hsn := Lib.hid hsn2
                generalize pre ++ (List.range' (leastOf L) (m - leastOf L)).map (fun x => L ++ [x]) = cur at *
                clear hsn hsn2
                obtain ⟨vs, hrow, helem⟩ := hown
                have hszr := hxr.size
                have hvl := hrow.1
                have Hvl := Lib.hid hvl
                have Helem := Lib.hid helem
                clear hvl helem
                have hIL : ∀ x ∈ ints (L ++ [m]), I64 x := fun x hx => by
                  simp only [ints, List.mem_map] at hx
                  obtain ⟨y, hy, rfl⟩ := hx
                  rcases List.mem_append.1 hy with h | h
                  · have := hLf.2 y h
                    unfold I64; omega
                  · rw [List.mem_singleton] at h; subst h; unfold I64; omega
                have HIL := Lib.hid hIL
                have hil : (ints (L ++ [m])).length = (L ++ [m]).length := by simp [ints]
                have Hil := Lib.hid hil
                have hL5 : L.length ≤ 5 := by have := hLf.1; omega
                clear hIL hil
                go_wp2_with (at_builtin; first | (refine wpList_append_own _ rfl _ _ 32 rfl (wr.heap.size) 3 i0 (.int .i64 0) 1 8 Try.underlying32 hi hz0 hz1 hz2 rfl (by decide) _ _ _ rfl (World.ownsRow_made wr #[] 0 (Nat.le_refl _) (by unfold maxLen; omega) rfl) ⟨sb, so, none⟩ n0 sc ((ints L).map (Value.int .i64)) rfl (by have := Hn0.out; simp [ints]; omega) (ints_news (hsr.ext (ext_alloc _ _))) (ints_cells _) (by unfold maxLen; omega) (by omega) (by simp) ?_; intro v1 w1 hown1 hgrow1 _; have x1 : Ext wr w1 := Ext.grown (ext_alloc _ _) hgrow1 (fun k hk => Nat.le_of_eq (Option.some.inj (show some wr.heap.size = some k from hk))); have x1s := x1.size) | (refine wpList_append_own _ rfl _ _ 32 rfl (wr.heap.size) 3 i0 (.int .i64 0) 1 8 Try.underlying32 hi hz0 hz1 hz2 rfl (by decide) _ _ _ rfl (hown1.alloc _) ⟨w1.heap.size, 0, none⟩ 1 1 [.int .i64 m] rfl rfl (cell_one_new _ _ _) (by simp [Value.oneCell']) (by unfold maxLen; omega) (by omega) (by simp; omega) ?_; intro v2 w2 hown2 hgrow2 _; have hl2 : IntsAt w2 v2 (ints (L ++ [m])) := IntsAt.of_own (by have h0 := Hn0.out; subst h0; simpa [ints] using hown2) HIL.out; have x2 : Ext wr w2 := Ext.grown (x1.alloc _) hgrow2 (fun k hk => (hown1.lt k hk).1); have hx2s := x2.size; have hlt2 := hown2.lt; obtain ⟨sa2, sc2, rfl, -⟩ := hl2.shape; rw [Hil.out] at hl2 hlt2 ⊢; obtain ⟨nl, hnl⟩ : ∃ nl, nl = (L ++ [m]).length := ⟨_, rfl⟩; rw [← hnl] at hl2 hlt2 ⊢; have Hnl := Lib.hid hnl; clear hown2 hgrow2 hnl) | (refine wpList_append_own_at _ rfl _ _ 111 rfl R.heap.size 32 j0 (.slice none 0 0) 1 24 Try.underlying111 hj hy0 hy1 hy2 rfl (by decide) _ _ _ rfl ((Ext.owns hrow x2).alloc _) ⟨w2.heap.size, 0, none⟩ 1 1 [.slice sa2 nl sc2] rfl rfl (cell_one_new _ _ _) (by simp [Value.oneCell']) (by unfold maxLen; omega) (by omega) (by simp; omega) ?_; intro v3 w3 hown3 hgrow3 _ hblk))
                have x3 : Ext R w3 := Ext.grown ((hxr.trans x2).alloc _) hgrow3 fun k hk => (hrow.lt k hk).1
                have hnew := ListsOwn.push hrow Helem.out x2 ⟨sa2, sc2, (by rw [Hnl.out]), hl2, fun ad e => hlt2 ad.block (by rw [e]; rfl)⟩ hown3 hgrow3 (hblk.elim .inl (fun e => .inr (e.trans (by simp))))
                go_roundw
                case rel => exact ⟨m + 1, by omega, by omega, by go_num, x3, by rw [Hsn.out]; exact hnew⟩
                case measure => simp [intOf]; omega
              · obtain rfl : m = n := by omega
                have Hfin : Hid ((LL.take (q + 1)).flatMap (chStep m) = pre ++ (List.range' (leastOf L) (m - leastOf L)).map (fun x => L ++ [x])) := Lib.hid (by rw [Hnx.out]; rfl)
                clear hmn
                go_wp2
                go_roundw
                case rel => first | exact ⟨q + 1, by omega, by go_num, hxr, by rw [Hfin.out]; exact hown⟩ | exact ⟨q + 1, by omega, by go_num, by rw [Hfin.out]; exact hown⟩ | exact ⟨q + 1, by omega, hxr, by rw [Hfin.out]; exact hown⟩
                case measure => simp [intOf]; omega
        · obtain rfl : q = LL.length := by omega
          rw [List.take_length] at hown
          have hlists := Lists0.of hown.at_ fun L hL e => by
            have := (Hf2.out L hL).1
            rw [e] at this; simp at this
          rw [← Hch.out] at hlists
          have x3 := hx.trans hxr
          clear hql
          go_wp2
          go_roundw
          case rel => exact ⟨k + 1, by omega, by go_num, x3, hlists⟩
          case measure => simp [intOf]; omega
    · obtain rfl : k = many := by omega
      have hres := hLL.at_
      obtain ⟨oa, oc, rfl, -⟩ := hLL.shape
      clear hlt
      go_wp2
      go_ret
      exact ⟨_, rfl, hres, hx⟩
end Go.Proofs.Ytagpngddaenkkaa
