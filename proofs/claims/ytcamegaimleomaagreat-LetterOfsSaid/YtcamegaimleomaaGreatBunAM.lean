/-
  ANY FILLS OF A FORM, by turns: Any of the statements: they are right for its rooms.
  THE RULE FOR A REGION THAT DRAWS ITS ORDER, in which several operations may write: of each is told how it may turn the memory, and what is said of the others is kept by those that they need not wait for. Over any program.
  A LETTER WITHOUT ONE WORD, OR WITH ANOTHER ONE IN ITS PLACE, as the statements make it.
  WHETHER LETTERS, LISTS OF LETTERS AND MARKS ARE THE SAME, and how many of some marks are corrections: Same, Sames, Equal and Corrections of the reference.
  WHETHER TWO LISTS OF MARKS ARE THE SAME: Equal of the reference.
-/
import Derived.Test.YtcamegaimleomaaGreatBunAL
import Derived.Test.YtcamegaimleomaaGreatBunAG
import Derived.Laws.AppendOwnNone
import Derived.Test.YtcamegaimleomaaGreatBunAJ
import Derived.Test.YtcamegaimleomaaGreatBunAK
import Derived.Test.YtcamegaimleomaaGreatBunAA
namespace Go.Proofs.YtcamegaimleomaaGreat
set_option linter.unusedSimpArgs false
set_option linter.unusedVariables false
open Go.RowKit
set_option linter.unusedVariables false

/-- a slice of these values -/
def ValsAt (w : World) (u : Value) (vs : List Value) : Prop := ∃ a c, u = .slice a vs.length c ∧ vs.length ≤ c ∧ c ≤ 9223372036854775807 ∧ ∀ i (h : i < vs.length), ∃ b o, a = some ⟨b, o, none⟩ ∧ w.cell? ⟨b, o + i, none⟩ = some vs[i]
theorem ValsAt.ext {w w' : World} {u : Value} {vs : List Value} (h : ValsAt w u vs) (hx : Ext w w') : ValsAt w' u vs := by
  obtain ⟨a, c, e, h1, h2, h3⟩ := h
  exact ⟨a, c, e, h1, h2, fun i hi => by obtain ⟨b, o, e2, r⟩ := h3 i hi; exact ⟨b, o, e2, hx.cell r⟩⟩
theorem ValsAt.cells' {w w' : World} {pb po n c : Nat} {vs : List Value} (h : ValsAt w (.slice (some ⟨pb, po, none⟩) n c) vs) (hx : Ext w w') : ∀ j u, vs[j]? = some u → w'.cell? ((⟨pb, po, none⟩ : Addr).add j) = some u := by
  intro j u hj
  obtain ⟨a, c', e, h1, h2, h3⟩ := h
  have hjl : j < vs.length := by
    rcases Nat.lt_or_ge j vs.length with h | h
    · exact h
    · rw [List.getElem?_eq_none h] at hj; cases hj
  obtain ⟨b, o, e2, r⟩ := h3 j hjl
  rw [List.getElem?_eq_getElem hjl] at hj
  obtain rfl := Option.some.inj hj
  obtain ⟨rfl, -, -⟩ := Value.slice.inj e
  obtain ⟨rfl, rfl, -⟩ := Addr.mk.inj (Option.some.inj e2)
  rw [show (⟨pb, po, none⟩ : Addr).add j = ⟨pb, po + j, none⟩ by unfold Addr.add; split <;> simp_all]
  exact hx.cell r
theorem OwnR.vals {base : Nat} {vs : List Value} {u : Value} {w : World} (h : OwnR base 25 1 vs.length vs u w) : ValsAt w u vs := by
  have hcells := fun g hg => World.ownsRow.cells (g := g) h hg
  rcases h.2 with ⟨rfl, hn⟩ | ⟨g, cap, cur, rfl, hb, hg, hnc, hcm, hcs, htake⟩
  · exact ⟨none, 0, by rw [hn], by omega, by decide, fun i hi => by omega⟩
  · refine ⟨_, _, rfl, hnc, by simpa [maxLen] using hcm, fun i hi => ⟨g, 0, rfl, ?_⟩⟩
    have := hcells g rfl i vs[i] (List.getElem?_eq_getElem hi)
    rw [show (⟨g, 0, none⟩ : Addr).add i = ⟨g, 0 + i, none⟩ by unfold Addr.add; split <;> simp_all] at this
    exact this
theorem fills_vals {w : World} {u : Value} {fl : List (List ByteArray)} (h : FillsAt w u fl) : ∃ vs : List Value, ValsAt w u vs ∧ vs.length = fl.length ∧ (∀ v ∈ vs, v.oneCell' = true) ∧ ∀ i (h1 : i < vs.length) (h2 : i < fl.length), StrsAt w vs[i] fl[i] := by
  obtain ⟨a, c, rfl, h1, h2⟩ := h.shape
  have hex : ∀ i : Fin fl.length, ∃ v, (∃ b o, a = some ⟨b, o, none⟩ ∧ w.cell? ⟨b, o + i.1, none⟩ = some v) ∧ StrsAt w v fl[i.1] := fun i => by
    obtain ⟨b, o, e, v, r1, r2⟩ := SliceAt.get h i.2
    exact ⟨v, ⟨b, o, e, by simpa using r1⟩, r2⟩
  obtain ⟨f, hf⟩ := Classical.axiomOfChoice hex
  refine ⟨List.ofFn f, ⟨a, c, by rw [List.length_ofFn], by rw [List.length_ofFn]; exact h1, h2, fun i hi => ?_⟩, List.length_ofFn, fun v hv => ?_, fun i h1 h2 => ?_⟩
  · rw [List.length_ofFn] at hi
    obtain ⟨b, o, e, r⟩ := (hf ⟨i, hi⟩).1
    exact ⟨b, o, e, by rw [List.getElem_ofFn]; exact r⟩
  · obtain ⟨i, rfl⟩ := List.mem_ofFn.1 hv
    obtain ⟨a, c, e, -⟩ := (hf i).2.shape
    rw [e]; rfl
  · rw [List.getElem_ofFn]
    exact (hf ⟨i, h2⟩).2
theorem vals_fills {w : World} {u : Value} {vs : List Value} {fl : List (List ByteArray)} (h : ValsAt w u vs) (hn : vs.length = fl.length) (hs : ∀ i (h1 : i < vs.length) (h2 : i < fl.length), StrsAt w vs[i] fl[i]) : FillsAt w u fl := by
  obtain ⟨a, c, rfl, h1, h2, h3⟩ := h
  refine ⟨a, c, by rw [hn], by omega, h2, fun i hi => ?_⟩
  obtain ⟨b, o, e, r⟩ := h3 i (by omega)
  exact ⟨b, o, e, vs[i]'(by omega), by simpa using r, hs i (by omega) hi⟩
/-- fills that are right for these rooms -/
structure PutOk (rooms : List Part) (fs : List (List ByteArray)) : Prop where
  le : fs.length ≤ rooms.length
  at_ : ∀ i (h : i < fs.length) (h2 : i < rooms.length), rooms[i].lo ≤ fs[i].length ∧ (fs[i].length : Int) ≤ rooms[i].hi
  w : ∀ l ∈ fs, ∀ s ∈ l, wordM s = true
theorem PutOk.snoc {rooms : List Part} {fs : List (List ByteArray)} {l : List ByteArray} (h : PutOk rooms fs) (hl : fs.length < rooms.length) (h1 : rooms[fs.length].lo ≤ l.length ∧ (l.length : Int) ≤ rooms[fs.length].hi) (hw : ∀ s ∈ l, wordM s = true) : PutOk rooms (fs ++ [l]) := by
  refine ⟨by simp; omega, fun i hi h2 => ?_, fun x hx => ?_⟩
  · by_cases he : i < fs.length
    · rw [List.getElem_append_left he]
      exact h.at_ i he h2
    · have : i = fs.length := by simp at hi; omega
      subst this
      simpa using h1
  · rcases List.mem_append.1 hx with hx | hx
    · exact h.w x hx
    · rw [List.mem_singleton] at hx; subst hx; exact hw
set_option maxRecDepth 100000 in
set_option maxHeartbeats 8000000 in
theorem any_any (fv xv : Value) (f : Form) (x : List Int) (w : World) (hv : ValidForm f) (hf : FormV w fv f) (hx : BytesAt w xv x) :
    Calls Tryz.prog 35 #[fv, xv] w fun e w' => ∃ u fs, e = .returned u ∧ FillsAt w' u fs ∧ PutOk (roomsM f.parts) fs ∧ fs.length = (roomsM f.parts).length ∧ Ext w w' := by
  obtain ⟨pv, rfl, hns, hp⟩ := hf
  obtain ⟨pa, pc, rfl, -⟩ := hp.shape
  obtain ⟨xa, xc, rfl, hxc, hxm⟩ := hx.shape
  obtain ⟨i0, hi, hz0, hz1, hz2⟩ := info_parts infoString
  obtain ⟨j0, hj, hy0, hy1, hy2⟩ := info_parts infoStrs
  have h5 := hv.n
  have hrs : (roomsM f.parts).length ≤ 5 := Nat.le_trans (List.length_filter_le _ _) h5
  have hrv : ∀ p ∈ roomsM f.parts, 0 ≤ p.lo ∧ p.lo ≤ p.hi ∧ 1 ≤ p.hi ∧ p.hi ≤ 3 := fun p hp => by
    have hm := List.mem_filter.1 hp
    exact (hv.parts p hm.1).room hm.2
  have Hrv := Lib.hid hrv
  clear hrv hv
  go_enter Tryz.func35, Tryz.ntmps35
  go_wp2_with fail
  refine (refRooms_any _ f h5 _ ⟨_, rfl, hns, hp.ext (by first | (with_reducible exact Ext.refl _) | (with_reducible assumption) | (show Below _ _ _; go_grown; done))⟩).mono ?_
  rintro e w1 ⟨ru, rfl, hru, hx1⟩
  have x1 : Ext w w1 := Ext.trans (by first | (with_reducible exact Ext.refl _) | (with_reducible assumption) | (show Below _ _ _; go_grown; done)) hx1
  obtain ⟨ra, rc, rfl, hrc, hrm⟩ := hru.shape
  replace hx := hx.ext x1
  obtain ⟨rooms, hrooms⟩ : ∃ rooms, rooms = roomsM f.parts := ⟨_, rfl⟩
  rw [← hrooms] at hru hrc hrs Hrv ⊢
  have Hrooms := Lib.hid hrooms
  clear hrooms
  clear hx1 hp
  go_wp2_with fail
  go_loopw [6, 7, 8] (fun ov av iv wr => ∃ (at_ : Nat) (fl : List (List ByteArray)), fl.length ≤ rooms.length ∧ at_ ≤ 4 * fl.length ∧ iv = .int .i64 fl.length ∧ av = .int .i64 at_ ∧ Ext w1 wr ∧ FillsAt wr ov fl ∧ (fl.length = 0 → ov = .slice none 0 0) ∧ PutOk rooms fl) (fun _ _ i _ => rooms.length - (intOf i).toNat)
  case atStart => exact ⟨0, [], by simp, by simp, rfl, rfl, Ext.refl _, SliceAt.nil, fun _ => rfl, ⟨by simp, by simp, by simp⟩⟩
  case round =>
    obtain ⟨at_, fl, hk, hat, rfl, rfl, hxr, hfl, hf0, hok⟩ := hrel
    obtain ⟨k, hkl⟩ : ∃ k, k = fl.length := ⟨_, rfl⟩
    rw [← hkl] at hk hat ⊢
    have Hkl := Lib.hid hkl
    have Hok := Lib.hid hok
    have Hf0 := Lib.hid hf0
    have Hfl := Lib.hid hfl
    clear hkl hok hf0 hfl
    by_cases hlt : k < rooms.length
    · have k1 : (k : Int) < (rooms.length : Int) := by omega
      obtain ⟨rb, ro, rfl, c0, c1, -⟩ := (hru.ext hxr).get hlt
      obtain ⟨g1, g2, g3, g4⟩ := Hrv.out _ (List.getElem_mem hlt)
      obtain ⟨a, ha⟩ : ∃ a : Nat, rooms[k].lo = a := ⟨rooms[k].lo.toNat, by omega⟩
      obtain ⟨b, hb⟩ : ∃ b : Nat, rooms[k].hi = b := ⟨rooms[k].hi.toNat, by omega⟩
      have Ha := Lib.hid ha
      have Hb := Lib.hid hb
      rw [ha] at c0 g1 g2
      rw [hb] at c1 g2 g3 g4
      have hx2 := hx.ext hxr
      have t1 := turnM_in hx2 at_
      have ht1 := fun w (h : Ext wr w) => lawTurn_any _ x at_ w (by omega) (hx2.ext h)
      obtain ⟨n, hn⟩ : ∃ n : Nat, turnM x at_ = n := ⟨(turnM x at_).toNat, by omega⟩
      rw [hn] at ht1
      have hab : a ≤ b := by omega
      have hb3 : b ≤ 3 := by omega
      have mq := mod_nat n (b - a + 1)
      have q1 : n % (b - a + 1) < b - a + 1 := Nat.mod_lt _ (by omega)
      generalize n % (b - a + 1) = q at *
      have ed : ((b - a + 1 : Nat) : Int) = (b : Int) - a + 1 := by omega
      rw [ed] at mq
      have w1' : IntKind.i64.wrap ((b : Int) - a) = (b : Int) - a := IntWalk.i64_in _ (by omega)
      have w2' : IntKind.i64.wrap ((b : Int) - a + 1) = (b : Int) - a + 1 := IntWalk.i64_in _ (by omega)
      have w3' : (((b : Int) - a + 1) == 0) = false := by simp; omega
      have w3'' : ¬ ((b : Int) - a + 1 = 0) := by omega
      have wq : IntKind.i64.wrap (q : Int) = q := IntWalk.i64_in _ (by omega)
      have wm : IntKind.i64.wrap ((a : Int) + q) = (a : Int) + q := IntWalk.i64_in _ (by omega)
      have wa : IntKind.i64.wrap ((at_ : Int) + 1) = (at_ : Int) + 1 := IntWalk.i64_in _ (by omega)
      clear t1 hn ha hb ed g1 g2 g3 g4
      go_wp2_with fail
      apply Facts.wp_region [.val _, .val _, .val _, .val _, .val _, .val _, .val _, .val (.int .i64 n), .val _, .val _, .val _, .val _, .val _, .val _, .val _, .val _, .val _, .val _, .val _, .val _, .val _, .val _, .val _] (by kernel_rfl) (by kernel_rfl) trivial ?main
      case main =>
        iterate 7 (refine ⟨fun w1 hx hh => ?_, ?_⟩; focus (clear hh; have e0 := hx.cell c0; have e1 := hx.cell c1; go_simp; first | exact ⟨Ext.refl _, rfl⟩ | exact Ext.refl _))
        refine ⟨fun w1 hx hh => ?_, ?_⟩
        · clear hh
          go_simp
          refine (ht1 _ hx).mono ?_
          rintro e w' ⟨rfl, rfl⟩
          exact ⟨_, rfl, Ext.refl _, rfl⟩
        iterate 15 (refine ⟨fun w1 hx hh => ?_, ?_⟩; focus (clear hh; have e0 := hx.cell c0; have e1 := hx.cell c1; go_simp; first | exact ⟨Ext.refl _, rfl⟩ | exact Ext.refl _))
        intro w2 hx hh
        clear hh
        go_simp
        have Hx := Lib.hid hx
        have hxR : Ext w1 w2 := hxr.trans hx
        have hx3 := hx2.ext hx
        clear hx ht1 c0 c1 hx2 mq w1' w2' w3' w3'' wq
        obtain ⟨mn, hmn⟩ : ∃ mn, mn = a + q := ⟨_, rfl⟩
        have hm1 : (a : Int) + q = (mn : Int) := by omega
        rw [hm1]
        have hmb : mn ≤ b := by omega
        have hma : a ≤ mn := by omega
        clear hm1 hmn wm q1
        go_wp2_with fail
        go_loopw [7, 10, 11] (fun av lv jv wi => ∃ (j : Nat) (ws : List ByteArray), j ≤ mn ∧ ws.length = j ∧ av = .int .i64 ((at_ + 1 + j : Nat) : Int) ∧ jv = .int .i64 j ∧ Ext w2 wi ∧ RowW w2.heap.size ws lv wi ∧ ∀ s ∈ ws, wordM s = true) (fun _ _ j _ => mn - (intOf j).toNat)
        case atStart => exact ⟨0, [], Nat.zero_le _, rfl, by go_num, rfl, Ext.refl _, RowW.nil, by simp⟩
        case round =>
          obtain ⟨j, ws, hj1, hj2, rfl, rfl, hxi, hown, hws⟩ := hrel
          by_cases hjl : j < mn
          · have l1 : (j : Int) < (mn : Int) := by omega
            obtain ⟨la', lc', rfl⟩ := hown.shape
            rw [hj2]
            have hx4 := hx3.ext hxi
            obtain ⟨A, hA⟩ : ∃ A, A = at_ + 1 + j := ⟨_, rfl⟩
            rw [← hA]
            have t1 := turnM_in hx4 A
            have ht2 := fun w (h : Ext wr w) => lawTurn_any _ x A w (by omega) (hx4.ext h)
            obtain ⟨m, hm⟩ : ∃ n : Nat, turnM x A = n := ⟨(turnM x A).toNat, by omega⟩
            rw [hm] at ht2
            have m8 := mod_nat m 8
            have n8 : m % 8 < 8 := Nat.mod_lt _ (by omega)
            generalize m % 8 = sd at *
            have ws' : IntKind.i64.wrap (sd : Int) = sd := IntWalk.i64_in _ (by omega)
            have s8 : (sd : Int) < 8 := by omega
            simp only [Int.cast_ofNat_Int] at m8
            have wA : IntKind.i64.wrap ((A : Int) + 1) = (A : Int) + 1 := IntWalk.i64_in _ (by omega)
            have HA := Lib.hid hA
            clear t1 hm hA
            go_wp2_with fail
            refine (said_any _).mono ?_
            rintro e w4 ⟨⟨B, rfl, hS1⟩, x4⟩
            go_wp2_with fail
            refine (ht2 _ x4).mono ?_
            rintro e w' ⟨rfl, rfl⟩
            go_wp2_with fail
            refine (said_any _).mono ?_
            rintro e w5 ⟨⟨B2, rfl, -⟩, x5⟩
            obtain ⟨b', o', e', s0, -⟩ := (hS1.ext x5).get (said_at sd n8)
            obtain ⟨rfl, rfl⟩ : B = b' ∧ 0 = o' := by simpa using e'
            have hwd := said_words saidL[sd] (List.getElem_mem (said_at sd n8))
            generalize saidL[sd] = wd at *
            have x5' : Ext wr w5 := x4.trans x5
            have hown5 := RowW.ext hown x5'
            have xw5 := hxi.trans x5'
            simp only [Nat.mul_one, Nat.zero_add] at s0
            have zB := cell_lt s0
            have hs5 := xw5.size
            have hownlt := fun k hk => World.ownsRow.lt hown5 k hk
            have wd8 := word_size hwd
            have hone : StrsAt (w5.alloc (.cells #[.string wd] 9)) (.slice (some ⟨w5.heap.size, 0, none⟩) 1 1) [wd] := StrsAt.oneAt (s := wd) (t := 9) rfl (by omega)
            have own1 := RowW.ext hown5 (ext_alloc w5 (.cells #[.string wd] 9))
            clear ht2 hown hS1 x4 x5 e' hown5 hx4
            go_wp2_with (at_builtin; go_loud (refine wpList_append_strs rfl _ _ 25 rfl w2.heap.size i0 Tryz.underlying25 hi hz0 hz1 hz2 (.slice la' ws.length lc') _ (by rw [hj2]; rfl) own1 (.slice (some ⟨w5.heap.size, 0, none⟩) 1 1) rfl [wd] hone (by simp only [List.length_cons, List.length_nil]; omega) (by simp; omega) ?_; intro v' w6 hown' hgrow _))
            go_roundw
            case rel => exact ⟨j + 1, ws ++ [wd], by omega, by simp [hj2], by rw [HA.out]; go_num, by go_num, Ext.grown (xw5.trans (ext_alloc _ _)) hgrow (fun k hk => (hownlt k hk).1), hown', fun s hs => by
              rcases List.mem_append.1 hs with h | h
              · exact hws s h
              · rw [List.mem_singleton] at h; subst h; exact hwd⟩
            case measure => simp [intOf]; omega
          · have l1 : ¬ (j : Int) < (mn : Int) := by omega
            obtain rfl : j = mn := by omega
            have hl := hown.at_ (fun s hs => by have := word_size (hws s hs); omega)
            obtain ⟨la', lc', rfl, -⟩ := hl.shape
            have xwr := (Hx.out.trans hxi)
            obtain ⟨vs, hvs, hvn, hv1, hve⟩ := fills_vals (FillsAt.ext Hfl.out xwr)
            have hfin : ∀ (u : Value) (wc : World), OwnR wr.heap.size 25 1 (vs ++ [Value.slice la' ws.length lc']).length (vs ++ [Value.slice la' ws.length lc']) u wc → Ext wr wc → FillsAt wc u (fl ++ [ws]) ∧ ((fl ++ [ws]).length = 0 → u = .slice none 0 0) ∧ PutOk rooms (fl ++ [ws]) := fun u wc ho hxc => by
              refine ⟨vals_fills ho.vals (by simp [hvn]) (fun i h1 h2 => ?_), fun h => by simp at h, Hok.out.snoc (by have := Hkl.out; omega) ?_ hws⟩
              · by_cases hi : i < vs.length
                · rw [List.getElem_append_left hi, List.getElem_append_left (by omega)]
                  exact (hve i hi (by omega)).ext hxc
                · have e1 : i = vs.length := by simp at h1; omega
                  subst e1
                  simp only [List.getElem_append_right (Nat.le_refl _), Nat.sub_self, List.getElem_cons_zero]
                  have : (fl ++ [ws])[vs.length]'h2 = ws := by simp [hvn]
                  rw [this]
                  exact hl.ext hxc
              · have := Hkl.out
                subst this
                rw [Ha.out, Hb.out]
                omega
            have Hfin := Lib.hid hfin
            have hsl : (Value.slice la' ws.length lc').oneCell' = true := rfl
            rw [hj2] at Hfin ⊢
            have row0 : (wr.alloc (.cells #[] 25)).ownsRow wr.heap.size 25 1 (.slice (some ⟨wr.heap.size, 0, none⟩) 0 0) 0 [] := World.ownsRow_made wr #[] 0 (Nat.le_refl _) (by unfold maxLen; omega) rfl
            have hlen1 := Hkl.out
            have Hlen := Lib.hid hlen1
            have tok1 : True := trivial
            have hfl8 : fl.length + 1 ≤ 5 := by omega
            have wk1 : IntKind.i64.wrap ((k : Int) + 1) = (k : Int) + 1 := IntWalk.i64_in _ (by omega)
            have kl : ((k : Int) + 1) = (((fl ++ [ws]).length : Nat) : Int) := by rw [List.length_append, ← hlen1]; simp
            have Kl := Lib.hid kl
            have hat4 : at_ + 1 + j ≤ 4 * (fl ++ [ws]).length := by rw [List.length_append, ← hlen1]; simp; omega
            have Hat4 := Lib.hid hat4
            have Hn := Lib.hid hvn
            have Hv1 := Lib.hid hv1
            clear kl hat4 hvn hv1 hve hfin hl hown hlen1
            by_cases h0 : k = 0
            · have hu : u6 = .slice none 0 0 := Hf0.out (by have := Hlen.out; omega)
              have hvs0 : vs = [] := List.eq_nil_of_length_eq_zero (by have := Hlen.out; have := Hn.out; omega)
              subst hvs0 hu
              have row1 : ((wr.alloc (.cells #[] 25)).alloc (.cells #[Value.slice la' j lc'] 25)).ownsRow wr.heap.size 25 1 (.slice (some ⟨wr.heap.size, 0, none⟩) 0 0) 0 [] := row0.alloc _
              clear h0
              go_wp2_with (at_builtin; first
                | (have _t := tok1; refine wpList_append_own_none rfl _ _ 31 rfl wr.heap.size 25 j0 1 Tryz.underlying31 hj (.slice (some ⟨wr.heap.size, 0, none⟩) 0 0) 0 [] rfl row0 rfl ?_; clear tok1)
                | (go_loud (refine wpList_append_own_at _ rfl _ _ 31 rfl wr.heap.size 25 j0 (.slice none 0 0) 1 24 Tryz.underlying31 hj hy0 hy1 hy2 rfl (by decide) (.slice (some ⟨wr.heap.size, 0, none⟩) 0 0) 0 [] rfl row1 ⟨wr.heap.size + 1, 0, none⟩ 1 1 [Value.slice la' j lc'] rfl rfl (cell_one_at (by simp [go_sem])) (by simp [Value.oneCell']) (by unfold maxLen; omega) (by omega) (by simp; omega) ?_; intro v' w6 hown' hgrow _ _)))
              have hxc : Ext wr w6 := Ext.grown (((Ext.refl wr).alloc _).alloc _) hgrow (fun k hk => by cases hk; exact Nat.le_refl _)
              obtain ⟨f1, f2, f3⟩ := Hfin.out v' w6 hown' hxc
              go_roundw
              case rel => exact ⟨at_ + 1 + j, fl ++ [ws], f3.le, Hat4.out, by rw [Kl.out], rfl, hxR.trans (hxi.trans hxc), f1, f2, f3⟩
              case measure => simp [intOf]; omega
            · have hfw := FillsAt.ext Hfl.out xwr
              obtain ⟨ua, uc, rfl, -⟩ := hfw.shape
              have hne : 0 < fl.length := by have := Hlen.out; omega
              obtain ⟨pb, po, rfl, -⟩ := SliceAt.get hfw hne
              have hcv := hvs.cells' (ext_alloc wr (.cells #[] 25))
              have hm5 : fl.length ≤ 5 := by omega
              have Hv2 : ∀ v ∈ vs, v.oneCell' = true := Hv1.out
              have hn2 := Hn.out
              clear h0 hfw hne
              go_wp2_with (at_builtin; first
                | (have _t := tok1; go_loud (refine wpList_append_own_at _ rfl _ _ 31 rfl wr.heap.size 25 j0 (.slice none 0 0) 1 24 Tryz.underlying31 hj hy0 hy1 hy2 rfl (by decide) (.slice (some ⟨wr.heap.size, 0, none⟩) 0 0) 0 [] rfl row0 ⟨pb, po, none⟩ fl.length uc vs rfl (by omega) hcv Hv2 (by unfold maxLen; omega) (by omega) (by simp) ?_; intro v1 w6 hown1 hgrow1 _ _); have row1 := World.ownsRow.alloc hown1 (.cells #[Value.slice la' j lc'] 25); clear tok1)
                | (go_loud (refine wpList_append_own_at _ rfl _ _ 31 rfl wr.heap.size 25 j0 (.slice none 0 0) 1 24 Tryz.underlying31 hj hy0 hy1 hy2 rfl (by decide) v1 (0 + fl.length) ([] ++ vs) rfl row1 ⟨w6.heap.size, 0, none⟩ 1 1 [Value.slice la' j lc'] rfl rfl (cell_one_at (by simp [go_sem])) (by simp [Value.oneCell']) (by unfold maxLen; omega) (by omega) (by have := hgrow1.size; simp at this ⊢; omega) ?_; intro v' w7 hown' hgrow2 _ _)))
              have hx6 : Ext wr w6 := Ext.grown ((Ext.refl wr).alloc _) hgrow1 (fun k hk => by cases hk; exact Nat.le_refl _)
              have hxc : Ext wr w7 := Ext.grown (hx6.alloc _) hgrow2 (fun k hk => (World.ownsRow.lt hown1 k hk).1)
              obtain ⟨f1, f2, f3⟩ := Hfin.out v' w7 (by rw [List.length_append, hn2]; rw [List.nil_append, Nat.zero_add] at hown'; exact hown') hxc
              go_roundw
              case rel => exact ⟨at_ + 1 + j, fl ++ [ws], f3.le, Hat4.out, by rw [Kl.out], rfl, hxR.trans (hxi.trans hxc), f1, f2, f3⟩
              case measure => simp [intOf]; omega
    · obtain rfl : k = rooms.length := by omega
      have hk0 := Hkl.out
      have hfl := Hfl.out
      obtain ⟨oa, oc, rfl, -⟩ := hfl.shape
      go_wp2
      go_ret
      exact ⟨_, fl, rfl, hfl, by rw [← Hrooms.out]; exact Hok.out, by rw [← Hrooms.out]; exact hk0.symm, x1.trans hxr⟩
end Go.Proofs.YtcamegaimleomaaGreat

namespace Go.Proofs.YtcamegaimleomaaGreat
set_option linter.unusedSimpArgs false
set_option linter.unusedVariables false
open Go.RowKit
set_option linter.unusedVariables false
set_option linter.unusedSimpArgs false
namespace Facts.Dep.Many
open Facts.Piv (anyS opS any_of_anyS opS_of_stepG)
/-- how each operation may turn the memory, and how all of them together may -/
structure ManyT (S : Nat → World → World → Prop) (C : World → World → Prop) : Prop where
  sub : ∀ i w w', S i w w' → C w w'
  tc : ∀ a b c, C a b → C b c → C a c
  d : ∀ w : World, C w { w with drawn := w.drawn + 1 }
variable {P : Program} {ops : Array Oper}

theorem any_facts {S : Nat → World → World → Prop} {C : World → World → Prop} (T : ManyT S C) {Q : Exit → Act → World → Prop} {a : Act} {w : World} (Φ : Nat → (Nat → Value) → World → Prop) (fix : Nat → Option Value) (hfix : ∀ i v vs w, fix i = some v → Φ i vs w → vs i = v) (hloc : ∀ i vs us w, i < ops.size → (∀ j, j = i ∨ (depsOf ops ops.size i).contains j = true → vs j = us j) → Φ i vs w → Φ i us w) (hB : okB ops = true)
    (hkeep : ∀ i j vs w1 w2, i < ops.size → j ≠ i → (depsOf ops ops.size i).contains j = false → S j w1 w2 → Φ i vs w1 → Φ i vs w2)
    (hops : ∀ i o, ops[i]? = some o → ∀ (vs : Nat → Value) w1, (∀ j v, fix j = some v → vs j = v) → C w w1 → (∀ j ∈ depsOf ops ops.size i, Φ j vs w1) → stepG P ops o (acts ops a vs (fun _ => true) i) w1 (fun u w2 => S i w1 w2 ∧ Φ i (upd vs i u) w2))
    (hend : ∀ (vs : Nat → Value) w1, (∀ j v, fix j = some v → vs j = v) → C w w1 → (∀ i, i < ops.size → Φ i vs w1) → Q .normal (acts ops a vs (fun _ => true) ops.size) w1) : anyS P ops Q ops.size (Array.replicate ops.size false) a { w with drawn := w.drawn + 1 } := by
  have hsel : ∀ (j : Nat) (o : Oper) cs b, ops[j]? = some o → o.op ≠ .select cs b := by
    have h2 := hB
    simp only [okB, Bool.and_eq_true] at h2
    exact Region.noSelect_spec h2.1
  suffices key : ∀ (fuel : Nat) (listed : Array Bool) (vs : Nat → Value) (w1 : World), (∀ j v, fix j = some v → vs j = v) → listed.size = ops.size → listed.toList.count true + fuel = ops.size → C w w1 →
      (∀ j, listed.getD j false = true → ∀ i ∈ direct ops j, listed.getD i false = true) → (∀ j, j < ops.size → listed.getD j false = true → Φ j vs w1) →
      anyS P ops Q fuel listed (acts ops a vs (fun j => listed.getD j false) ops.size) w1 by
    have h0 := key ops.size (Array.replicate ops.size false) (fun j => (fix j).getD undef) { w with drawn := w.drawn + 1 } (fun j v h => by simp [h]) (by simp) (by simp [List.count_replicate]) (T.d w)
      (fun j hj => by rw [getD_rep] at hj; cases hj) (fun j _ hj => by rw [getD_rep] at hj; cases hj)
    have e : acts ops a (fun j => (fix j).getD undef) (fun j => (Array.replicate ops.size false).getD j false) ops.size = a := by
      have : ∀ n, acts ops a (fun j => (fix j).getD undef) (fun j => (Array.replicate ops.size false).getD j false) n = a := by
        intro n
        induction n with
        | zero => rfl
        | succ n ih => simp only [acts]; rw [if_neg (by rw [getD_rep]; exact Bool.false_ne_true)]; exact ih
      exact this _
    rw [e] at h0
    exact h0
  intro fuel
  have hdone : ∀ (listed : Array Bool) (vs : Nat → Value) (w1 : World), (∀ j v, fix j = some v → vs j = v) → (∀ j, j < ops.size → listed.getD j false = true) → C w w1 → (∀ j, j < ops.size → listed.getD j false = true → Φ j vs w1) →
      Q .normal (acts ops a vs (fun j => listed.getD j false) ops.size) w1 := by
    intro listed vs w1 hfx hall hx hΦ
    have := hend vs w1 hfx hx fun i hi => hΦ i hi (hall i hi)
    rwa [acts_congr a vs vs (fun _ => true) (fun j => listed.getD j false) ops.size fun j hj => ⟨(hall j hj).symm, fun _ => rfl⟩] at this
  induction fuel with
  | zero =>
    intro listed vs w1 hfx hsz hc hx hcl hΦ
    have hall : ∀ j, j < ops.size → listed.getD j false = true := by
      intro j hj
      have hlen : listed.toList.count true = listed.toList.length := by simp only [Array.length_toList]; omega
      have := List.count_eq_length.1 hlen (listed[j]'(by omega)) (by simp)
      rw [Array.getD_eq_getD_getElem?, Array.getElem?_eq_getElem (by omega)]
      exact this.symm
    refine ⟨?_, hdone listed vs w1 hfx hall hx hΦ⟩
    rw [List.eq_nil_iff_forall_not_mem]
    intro i hi
    have hi1 := (mem_ready.1 hi)
    obtain ⟨o, ho, -⟩ := hi1.2
    have hlt : i < ops.size := (Array.getElem?_eq_some_iff.1 ho).1
    have h1 := hall i hlt
    have h2 := hi1.1
    rw [Array.getD_eq_getD_getElem?, Array.getElem?_eq_getElem (by omega)] at h1 h2
    simp only [Option.getD_some] at h1 h2
    rw [h1] at h2; cases h2
  | succ fuel ih =>
    intro listed vs w1 hfx hsz hc hx hcl hΦ
    refine ⟨fun h => hdone listed vs w1 hfx (all_listed hB hsz h) hx hΦ, fun i hi => ?_⟩
    obtain ⟨hi0, o, ho, hafter⟩ := mem_ready.1 hi
    have hlt : i < ops.size := (Array.getElem?_eq_some_iff.1 ho).1
    have hnot : listed.getD i false = false := by
      rw [Array.getD_eq_getD_getElem?, Array.getElem?_eq_getElem (by omega)] at hi0 ⊢
      exact hi0
    have hdir := direct_ready ho hafter
    have hdeps := dep_in hcl ops.size i hdir
    have hdl : ∀ j ∈ depsOf ops ops.size i, j < ops.size := fun j hj => by
      have := hdeps j hj
      rcases Nat.lt_or_ge j listed.size with h' | h'
      · omega
      · simp [Array.getD_eq_getD_getElem?, Array.getElem?_eq_none h'] at this
    have hst := hops i o ho vs w1 hfx hx fun j hj => hΦ j (hdl j hj) (hdeps j hj)
    -- a later one that has come up is apart from this one
    have hlater : ∀ j, i < j → j < ops.size → listed.getD j false = true → apartB ops i j = true := fun j h1 h2 h3 =>
      ((okB_spec hB j h2).2 i h1).resolve_right fun hmem => by
        have := dep_in hcl ops.size j (hcl j h3) i hmem
        rw [hnot] at this; cases this
    have hearlier : ∀ j, j < i → listed.getD j false = false → apartB ops j i = true := fun j h1 h3 =>
      ((okB_spec hB i hlt).2 j h1).resolve_right fun hmem => by
        have := hdeps j hmem
        rw [h3] at this; cases this
    have hacts : ∀ n, i ≤ n → n ≤ ops.size → ∀ t, t ∈ o.looksAt ops → (acts ops a vs (fun j => listed.getD j false) n).tmps[t]? = (acts ops a vs (fun _ => true) i).tmps[t]? := by
      intro n hin
      obtain ⟨k, rfl⟩ := Nat.exists_eq_add_of_le hin
      clear hin
      induction k with
      | zero =>
        intro _ t ht
        refine acts_slot a vs _ _ t i fun j hj hd => ?_
        cases hl : listed.getD j false with
        | true => rfl
        | false =>
          have hap := hearlier j hj hl
          have hoj : ops[j]? = some (ops[j]'(by omega)) := by simp [show j < ops.size from by omega]
          rw [hoj] at hd
          simp only [apartB, hoj, ho] at hap
          exact absurd ht ((Oper.apart_spec hap).1 t hd)
      | succ k ih2 =>
        intro hle t ht
        have ih2 := ih2 (by omega) t ht
        obtain ⟨n, hn⟩ : ∃ n, n = i + k := ⟨_, rfl⟩
        rw [← hn] at ih2
        rw [show i + (k + 1) = n + 1 from by omega]
        simp only [acts]
        by_cases hl : listed.getD n false = true
        · rw [if_pos hl]
          have hni : i ≠ n := fun e => by subst e; rw [hnot] at hl; cases hl
          have hap := hlater n (by omega) (by omega) hl
          have hon : ops[n]? = some (ops[n]'(by omega)) := by simp [show n < ops.size from by omega]
          simp only [apartB, hon, ho] at hap
          rw [put_other _ _ _ _ (fun hd => (Oper.apart_spec hap).2.2 t (by rw [hon] at hd; exact hd) ht)]
          exact ih2
        · rw [if_neg hl]; exact ih2
    have hst2 : stepG P ops o (acts ops a vs (fun j => listed.getD j false) ops.size) w1 (fun u w2 => S i w1 w2 ∧ Φ i (upd vs i u) w2) :=
      stepG_same (hsel i o · · ho) (fun t ht => (hacts ops.size (by omega) (Nat.le_refl _) t ht).symm) hst
    refine opS_of_stepG ho hst2 ?_
    rintro v w2 ⟨hx2, hv⟩
    have hod : (ops[i]?).bind (·.dst) = o.dst := by rw [ho]; rfl
    rw [← hod, acts_put a vs (fun j => listed.getD j false) i v hnot ops.size hlt (fun j h1 h2 h3 d hd hd2 => by
      have hap := hlater j h1 h2 h3
      have hoj : ops[j]? = some (ops[j]'h2) := by simp [h2]
      simp only [apartB, hoj, ho] at hap
      rw [ho] at hd; rw [hoj] at hd2
      exact (Oper.apart_spec hap).2.1 d hd hd2)]
    have hget : ∀ j, (listed.setIfInBounds i true).getD j false = (listed.getD j false || decide (j = i)) := by
      intro j
      by_cases hji : j = i
      · subst hji; simp [Array.getD_eq_getD_getElem?, show j < listed.size from by omega]
      · rw [getD_set_ne false (Ne.symm hji)]; simp [hji]
    have := ih (listed.setIfInBounds i true) (upd vs i v) w2 (fun j u hj => by
        by_cases hji : j = i
        · subst hji; exact hfix j u _ w2 hj hv
        · simpa [upd, hji] using hfx j u hj) (by simpa using hsz) (by
        rw [Array.toList_setIfInBounds, List.count_set (by simpa using (by omega : i < listed.size))]
        have e : (listed.toList[i]'(by simpa using (by omega : i < listed.size))) = false := by
          rw [Array.getD_eq_getD_getElem?, Array.getElem?_eq_getElem (by omega)] at hnot
          simpa using hnot
        have e' : (listed.toList[i]'(by simpa using (by omega : i < listed.size)) == true) = false := by rw [e]; rfl
        rw [e']; simp only [Bool.false_eq_true, if_false, beq_self_eq_true, if_true]; omega) (by
          exact T.tc _ _ _ hx (T.sub _ _ _ hx2))
      (by
        intro j hj k hk
        rw [hget] at hj ⊢
        by_cases hji : j = i
        · subst hji; rw [hdir k hk]; rfl
        · simp only [hji, decide_false, Bool.or_false] at hj
          rw [hcl j hj k hk]; rfl)
      (by
        intro j hj hl
        by_cases hji : j = i
        · subst hji; exact hv
        · rw [hget] at hl
          simp only [hji, decide_false, Bool.or_false] at hl
          have hnd : (depsOf ops ops.size j).contains i = false := by
            rw [Bool.eq_false_iff, ne_eq, List.contains_iff_mem]
            intro h
            have := dep_in hcl ops.size j (hcl j hl) i h
            rw [hnot] at this; cases this
          have hold : Φ j (upd vs i v) w1 := hloc j vs _ _ hj (fun x hx => by
            unfold upd
            split
            · rename_i hxi
              subst hxi
              rcases hx with hx | hx
              · exact absurd hx.symm hji
              · rw [hnd] at hx; cases hx
            · rfl) (hΦ j hj hl)
          exact hkeep j i _ _ _ hj (fun e => hji e.symm) hnd hx2 hold)
    have e2 : (fun j => (listed.setIfInBounds i true).getD j false) = fun j => listed.getD j false || decide (j = i) := funext hget
    rw [e2] at this
    exact this


def Walk (S : Nat → World → World → Prop) (C : World → World → Prop) (P : Program) (ops : Array Oper) (w : World) (Q : Exit → Act → World → Prop) : Nat → List Oper → List Spec → List (Nat × (World → Prop)) → List (Nat × Value) → Act → Prop
  | _, [], _, env, _, a => ∀ w1, C w w1 → (∀ j f, (j, f) ∈ env → f w1) → Q .normal a w1
  | _, _ :: _, [], _, _, _ => False
  | i, o :: rest, .val v :: ss, env, us, a => (∀ w1, C w w1 → Have ops i env w1 → stepG P ops o a w1 (fun u w2 => S i w1 w2 ∧ u = v)) ∧ Walk S C P ops w Q (i + 1) rest ss env ((i, v) :: us) (a.put o.dst v)
  | i, o :: rest, .fact f :: ss, env, us, a => (∀ w1, C w w1 → Have ops i env w1 → stepG P ops o a w1 (fun u w2 => S i w1 w2 ∧ f u w2)) ∧ ∀ u, Walk S C P ops w Q (i + 1) rest ss ((i, f u) :: env) ((i, u) :: us) (a.put o.dst u)
  | i, o :: rest, .on js f :: ss, env, us, a => (∀ w1, C w w1 → Have ops i env w1 → stepG P ops o a w1 (fun u w2 => S i w1 w2 ∧ f (js.map (look us)) u w2)) ∧ ∀ u, Walk S C P ops w Q (i + 1) rest ss ((i, f (js.map (look us)) u) :: env) ((i, u) :: us) (a.put o.dst u)
def keepsS (S : Nat → World → World → Prop) (ops : Array Oper) : Nat → List Spec → Prop
  | _, [] => True
  | i, .val _ :: r => keepsS S ops (i + 1) r
  | i, .fact f :: r => (∀ j, j ≠ i → (depsOf ops ops.size i).contains j = false → ∀ u w1 w2, S j w1 w2 → f u w1 → f u w2) ∧ keepsS S ops (i + 1) r
  | i, .on _ f :: r => (∀ j, j ≠ i → (depsOf ops ops.size i).contains j = false → ∀ l u w1 w2, S j w1 w2 → f l u w1 → f l u w2) ∧ keepsS S ops (i + 1) r
theorem keepsS_get {S : Nat → World → World → Prop} : ∀ (ss : List Spec) (k i : Nat) (s : Spec), keepsS S ops k ss → ss[i]? = some s →
    (∀ j, j ≠ k + i → (depsOf ops ops.size (k + i)).contains j = false → ∀ vs u w1 w2, S j w1 w2 → s.holds vs u w1 → s.holds vs u w2)
  | [], _, _, _, _, h => by simp at h
  | .val v :: r, k, 0, s, _, h => by simp at h; subst h; exact fun _ _ _ _ _ _ _ _ h => h
  | .val v :: r, k, i + 1, s, hk, h => by
    have := keepsS_get r (k + 1) i s hk (by simpa using h)
    rwa [show k + 1 + i = k + (i + 1) from by omega] at this
  | .fact f :: r, k, 0, s, hk, h => by simp at h; subst h; exact fun j hj hc _ => hk.1 j hj hc
  | .fact f :: r, k, i + 1, s, hk, h => by
    have := keepsS_get r (k + 1) i s hk.2 (by simpa using h)
    rwa [show k + 1 + i = k + (i + 1) from by omega] at this
  | .on js f :: r, k, 0, s, hk, h => by simp at h; subst h; exact fun j hj hc vs => hk.1 j hj hc (js.map vs)
  | .on js f :: r, k, i + 1, s, hk, h => by
    have := keepsS_get r (k + 1) i s hk.2 (by simpa using h)
    rwa [show k + 1 + i = k + (i + 1) from by omega] at this
theorem walk_at {S : Nat → World → World → Prop} {C : World → World → Prop} {w : World} {Q : Exit → Act → World → Prop} {a0 : Act} (ss : List Spec) (hlb : locB ops 0 ss = true) (vs : Nat → Value) (hfx : ∀ j s v, ss[j]? = some s → s.fixed = some v → vs j = v) :
    ∀ (n k : Nat) (rest : List Oper) (env : List (Nat × (World → Prop))) (us : List (Nat × Value)) (a : Act), n + k = ops.size → (∀ j, rest[j]? = ops[k + j]?) → rest.length = n → a = acts ops a0 vs (fun _ => true) k →
      (∀ j q, (j, q) ∈ env → ∃ s, ss[j]? = some s ∧ j < k ∧ q = s.holds vs (vs j)) → (∀ j s, ss[j]? = some s → s.fixed = none → j < k → (j, s.holds vs (vs j)) ∈ env) → (∀ j, j < k → look us j = vs j) → Walk S C P ops w Q k rest (ss.drop k) env us a →
      (∀ i o, k ≤ i → ops[i]? = some o → ∃ s, ss[i]? = some s ∧ ∀ w1, C w w1 → (∀ j ∈ depsOf ops ops.size i, j < i → ∀ s, ss[j]? = some s → s.holds vs (vs j) w1) → stepG P ops o (acts ops a0 vs (fun _ => true) i) w1 (fun u w2 => S i w1 w2 ∧ s.holds vs u w2)) ∧
      (∀ w1, C w w1 → (∀ i s, i < ops.size → ss[i]? = some s → s.holds vs (vs i) w1) → Q .normal (acts ops a0 vs (fun _ => true) ops.size) w1) := by
  intro n
  induction n with
  | zero =>
    intro k rest env us a hk hr hl ha henv henv2 hus hw
    obtain rfl : rest = [] := List.length_eq_zero_iff.1 hl
    have e : k = ops.size := by omega
    subst e
    refine ⟨fun i o hi ho => by have := (Array.getElem?_eq_some_iff.1 ho).1; omega, fun w1 hx hall => ?_⟩
    simp only [Walk] at hw
    rw [← ha]
    refine hw w1 hx fun j q hq => ?_
    obtain ⟨s, hs, hj, rfl⟩ := henv j q hq
    exact hall j s hj hs
  | succ n ih =>
    intro k rest env us a hk hr hl ha henv henv2 hus hw
    obtain ⟨o, rest, rfl⟩ : ∃ o r, rest = o :: r := by cases rest with | nil => simp at hl | cons o r => exact ⟨o, r, rfl⟩
    have hok : ops[k]? = some o := by simpa using (hr 0).symm
    have hact : ∀ v, vs k = v → a.put o.dst v = acts ops a0 vs (fun _ => true) (k + 1) := fun v hv => by
      simp only [acts, if_true]; rw [← ha, hok, hv]; rfl
    cases hs : ss[k]? with
    | none =>
      rw [List.drop_eq_nil_of_le (by rcases Nat.lt_or_ge k ss.length with h | h; · rw [List.getElem?_eq_getElem h] at hs; cases hs
                                     · exact h)] at hw
      simp only [Walk] at hw
    | some s =>
      have hlt : k < ss.length := (List.getElem?_eq_some_iff.1 hs).1
      rw [List.drop_eq_getElem_cons hlt, (List.getElem?_eq_some_iff.1 hs).2] at hw
      have hlean : ∀ w1, (∀ j ∈ depsOf ops ops.size k, j < k → ∀ s, ss[j]? = some s → s.holds vs (vs j) w1) → Have ops k env w1 := by
        intro w1 h j q hq hc
        obtain ⟨s, hs, hj, rfl⟩ := henv j q hq
        exact h j (by simpa using hc) hj s hs
      have hr' : ∀ j, rest[j]? = ops[k + 1 + j]? := fun j => by have := hr (j + 1); simpa [Nat.add_assoc, Nat.add_comm 1 j] using this
      have hus' : ∀ v, vs k = v → ∀ j, j < k + 1 → look ((k, v) :: us) j = vs j := fun v hv j hj => by
        simp only [look]
        split
        · rename_i e; rw [← e, hv]
        · rename_i e; exact hus j (by omega)
      have hmap : s.js.map (look us) = s.js.map vs := List.map_congr_left fun j hj => hus j (by have := (locB_get ss 0 k s hlb hs j hj).2; omega)
      cases s with
      | val v =>
        simp only [Walk] at hw
        have hv : vs k = v := hfx k _ v hs rfl
        obtain ⟨h1, h2⟩ := ih (k + 1) rest env _ _ (by omega) hr' (by simpa using hl) (hact v hv) (fun j q hq => by obtain ⟨s, hs, hj, e⟩ := henv j q hq; exact ⟨s, hs, by omega, e⟩)
          (fun j s hs' hf hj => henv2 j s hs' hf (by rcases Nat.lt_or_ge j k with h | h; · exact h
                                                     · obtain rfl : j = k := by omega
                                                       rw [hs] at hs'; cases hs'; cases hf)) (hus' v hv) hw.2
        refine ⟨fun i o' hi ho => ?_, h2⟩
        rcases Nat.lt_or_ge k i with hik | hik
        · exact h1 i o' (by omega) ho
        · obtain rfl : i = k := by omega
          rw [hok] at ho; cases ho
          exact ⟨_, hs, fun w1 hx hd => by rw [← ha]; exact hw.1 w1 hx (hlean w1 hd)⟩
      | fact f =>
        simp only [Walk] at hw
        obtain ⟨h1, h2⟩ := ih (k + 1) rest _ _ _ (by omega) hr' (by simpa using hl) (hact (vs k) rfl)
          (fun j q hq => by
            rcases List.mem_cons.1 hq with e | hq
            · cases e; exact ⟨_, hs, by omega, rfl⟩
            · obtain ⟨s, hs, hj, e⟩ := henv j q hq; exact ⟨s, hs, by omega, e⟩)
          (fun j s hs' hf hj => by
            rcases Nat.lt_or_ge j k with h | h
            · exact List.mem_cons_of_mem _ (henv2 j s hs' hf h)
            · obtain rfl : j = k := by omega
              rw [hs] at hs'; cases hs'; exact List.mem_cons_self) (hus' _ rfl) (hw.2 (vs k))
        refine ⟨fun i o' hi ho => ?_, h2⟩
        rcases Nat.lt_or_ge k i with hik | hik
        · exact h1 i o' (by omega) ho
        · obtain rfl : i = k := by omega
          rw [hok] at ho; cases ho
          exact ⟨_, hs, fun w1 hx hd => by rw [← ha]; exact hw.1 w1 hx (hlean w1 hd)⟩
      | on js f =>
        simp only [Walk] at hw
        simp only [Spec.js] at hmap
        rw [hmap] at hw
        obtain ⟨h1, h2⟩ := ih (k + 1) rest _ _ _ (by omega) hr' (by simpa using hl) (hact (vs k) rfl)
          (fun j q hq => by
            rcases List.mem_cons.1 hq with e | hq
            · cases e; exact ⟨_, hs, by omega, rfl⟩
            · obtain ⟨s, hs, hj, e⟩ := henv j q hq; exact ⟨s, hs, by omega, e⟩)
          (fun j s hs' hf hj => by
            rcases Nat.lt_or_ge j k with h | h
            · exact List.mem_cons_of_mem _ (henv2 j s hs' hf h)
            · obtain rfl : j = k := by omega
              rw [hs] at hs'; cases hs'; exact List.mem_cons_self) (hus' _ rfl) (hw.2 (vs k))
        refine ⟨fun i o' hi ho => ?_, h2⟩
        rcases Nat.lt_or_ge k i with hik | hik
        · exact h1 i o' (by omega) ho
        · obtain rfl : i = k := by omega
          rw [hok] at ho; cases ho
          exact ⟨_, hs, fun w1 hx hd => by rw [← ha]; exact hw.1 w1 hx (hlean w1 hd)⟩

/-- THE RULE, for a region whose operations are written out: a spec for each operation, the walk in the text's order. -/
theorem any_region {S : Nat → World → World → Prop} {C : World → World → Prop} (T : ManyT S C) {Q : Exit → Act → World → Prop} {a : Act} {w : World} {l : List Oper} (ss : List Spec) (hB : okB l.toArray = true) (hlb : locB l.toArray 0 ss = true) (hk : keepsS S l.toArray 0 ss)
    (h : Walk S C P l.toArray w Q 0 l ss [] [] a) : anyS P l.toArray Q l.toArray.size (Array.replicate l.toArray.size false) a { w with drawn := w.drawn + 1 } := by
  have base := fun vs hfx => walk_at (S := S) (C := C) (P := P) (ops := l.toArray) (w := w) (Q := Q) (a0 := a) ss hlb vs hfx l.length 0 l [] [] a (by simp) (by simp) rfl rfl (fun _ _ h => by cases h) (fun _ _ _ _ h => by omega) (fun _ h => by omega) h
  refine any_facts T (fun i vs => match ss[i]? with | some s => s.holds vs (vs i) | none => fun _ => False) (fun i => (ss[i]?).bind Spec.fixed) ?_ ?_ hB ?_ ?_ ?_
  · intro i v vs w hv hu
    cases hs : ss[i]? with
    | none => simp [hs] at hv
    | some s => cases s with
      | val x => simp only [hs, Option.bind_some, Spec.fixed, Option.some.injEq] at hv; subst hv; simpa [hs, Spec.holds] using hu
      | fact f => simp [hs, Spec.fixed] at hv
      | on js f => simp [hs, Spec.fixed] at hv
  · intro i vs us w hi hj hu
    cases hs : ss[i]? with
    | none => simp [hs] at hu
    | some s =>
      simp only [hs] at hu ⊢
      rw [← hj i (.inl rfl)]
      exact holds_loc (fun j hjs => hj j (.inr (by have := (locB_get ss 0 i s hlb hs j hjs).1; rwa [Nat.zero_add] at this))) hu
  · intro i j vs w1 w2 _ hip hc hx hu
    cases hs : ss[i]? with
    | none => simp [hs] at hu
    | some s => simp only [hs] at hu ⊢; exact (keepsS_get ss 0 i s hk hs) j (by rw [Nat.zero_add]; exact hip) (by rw [Nat.zero_add]; exact hc) vs _ w1 w2 hx hu
  · intro i o ho vs w1 hfx hx hd
    obtain ⟨h1, -⟩ := base vs fun j s v hs hv => hfx j v (by simp [hs, hv])
    obtain ⟨s, hs, hst⟩ := h1 i o (Nat.zero_le _) ho
    simp only [hs]
    have hst := hst w1 hx fun j hj _ s' hs' => by
      have := hd j hj
      simpa only [hs'] using this
    refine stepG_mono hst fun u w2 ⟨h1, h2⟩ => ⟨h1, ?_⟩
    have e : upd vs i u i = u := by simp [upd]
    rw [e]
    refine holds_loc (fun j hjs => ?_) h2
    have := (locB_get ss 0 i s hlb hs j hjs).2
    simp only [upd]
    rw [if_neg (by omega)]
  · intro vs w1 hfx hx hall
    obtain ⟨-, h2⟩ := base vs fun j s v hs hv => hfx j v (by simp [hs, hv])
    refine h2 w1 hx fun i s hi hs => ?_
    have := hall i hi
    simpa only [hs] using this
theorem wp_region {S : Nat → World → World → Prop} {C : World → World → Prop} (T : ManyT S C) {id : Nat} {Q : Exit → Act → World → Prop} {a : Act} {w : World} {l : List Oper} (ss : List Spec) (hm : P.follows .mixedOrders = true) (hB : okB l.toArray = true) (hlb : locB l.toArray 0 ss = true) (hk : keepsS S l.toArray 0 ss)
    (h : Walk S C P l.toArray w Q 0 l ss [] [] a) : (Code.region id l.toArray true).wp P Q a w :=
  wp_region_any hm (any_of_anyS _ _ _ _ (any_region T ss hB hlb hk h))
/-- the same, told by the number of the last operation, which comes behind all others -/
theorem wp_regionL {S : Nat → World → World → Prop} {C : World → World → Prop} (T : ManyT S C) (n : Nat) {id : Nat} {Q : Exit → Act → World → Prop} {a : Act} {w : World} {L : List Oper} (ss : List Spec) (hm : P.follows .mixedOrders = true) (hL : L.length = n + 1) (hlast : Facts.Peel.lastB (L.take n) (L.getD n default) = true) (hB' : okB L.toArray = true) (hB : okB (L.take n).toArray = true) (hlb : locB (L.take n).toArray 0 ss = true) (hk : keepsS S (L.take n).toArray 0 ss)
    (h : Walk S C P (L.take n).toArray w (fun e a w => e = .normal ∧ stepG P L.toArray (L.getD n default) a w (fun u w2 => Q .normal (a.put (L.getD n default).dst u) w2)) 0 (L.take n) ss [] [] a) : (Code.region id L.toArray true).wp P Q a w := by
  have e : L = L.take n ++ [L.getD n default] := by
    conv => lhs; rw [← List.take_append_drop n L]
    congr 1
    rw [List.drop_eq_getElem_cons (by omega), List.drop_of_length_le (by omega), List.getD_eq_getElem?_getD, List.getElem?_eq_getElem (by omega)]
    rfl
  suffices key : ∀ (l : List Oper) (o : Oper), Facts.Peel.lastB l o = true → okB (l ++ [o]).toArray = true → okB l.toArray = true → locB l.toArray 0 ss = true → keepsS S l.toArray 0 ss → Walk S C P l.toArray w (fun e a w => e = .normal ∧ stepG P (l ++ [o]).toArray o a w (fun u w2 => Q .normal (a.put o.dst u) w2)) 0 l ss [] [] a → (Code.region id (l ++ [o]).toArray true).wp P Q a w by
    have := key (L.take n) (L.getD n default) hlast (by rw [← e]; exact hB') hB hlb hk (by rw [← e]; exact h)
    rwa [← e] at this
  intro l o hlast hB' hB hlb hk h
  have h1 := any_region T ss hB hlb hk h
  have h2 := Facts.Peel.any_peel (P := P) (Q := Q) hlast hB' l.toArray.size (Array.replicate l.toArray.size false) a { w with drawn := w.drawn + 1 } (by simp) (by simp [List.count_replicate]) (fun j hj => by
    exfalso
    rw [Array.getD_eq_getD_getElem?, Array.getElem?_push] at hj
    split at hj
    · simp at hj
    · rw [← Array.getD_eq_getD_getElem?, getD_rep] at hj; cases hj) h1
  have e : (l ++ [o]).toArray.size = l.toArray.size + 1 := by simp
  refine wp_region_any hm (any_of_anyS _ _ _ _ ?_)
  rw [e, Array.replicate_succ]
  exact h2
end Facts.Dep.Many
end Go.Proofs.YtcamegaimleomaaGreat

namespace Go.Proofs.YtcamegaimleomaaGreat
set_option linter.unusedSimpArgs false
set_option linter.unusedVariables false
open Go.RowKit
set_option linter.unusedVariables false
namespace Facts.App
variable {P : Program} {ops : Array Oper}
theorem Grew.mono {n0 n m : Nat} {w w' : World} (h : Grew n0 n w w') (hm : m ≤ n) : Grew n0 m w w' :=
  ⟨h.os, h.tape, h.output, h.size, fun k hk => by
    rcases h.block k hk with h1 | ⟨h0, c1, c2, e, g1, g2, g3, g4⟩
    · exact .inl h1
    · refine .inr ⟨h0, c1, c2, e, g1, g2, g3, ?_⟩
      have := congrArg (List.take m) g4
      rwa [List.take_take, List.take_take, Nat.min_eq_left hm] at this⟩
theorem run_append_empty {w : World} (base : Nat) (t ty e : TypeId) (i : TypeInfo) (z : Value) (size bytes : Nat) (ht : P.underlying t = some (.slice e)) (hi : P.info? e = some i) (hz : i.zero = some z)
    (hsize : i.size = size) (hby : i.bytes = bytes) (hzs : z.cells.size = size) (hsz : 0 < size)
    (B : Nat) (hown : w.ownsRow base e size (.slice (some ⟨B, 0, none⟩) 0 0) 0 [])
    (a : Addr) (m c : Nat) (news : List Value) (hl : news.length = m * size) (hnews : ∀ j u, news[j]? = some u → w.cell? (a.add j) = some u) (h1 : ∀ u ∈ news, u.oneCell' = true)
    (h63 : m ≤ maxLen) (hbytes : m * bytes ≤ 140737488355328) (hbase : base ≤ w.heap.size) :
    ∃ v' w', (Builtin.append_ #[t, t] ty #[.slice (some ⟨B, 0, none⟩) 0 0, .slice (some a) m c]).run P w = .ok v' w' ∧ w'.ownsRow base e size v' m news ∧ Ext w w' ∧ (m = 0 → v' = .slice (some ⟨B, 0, none⟩) 0 0) := by
  obtain ⟨v', w', hr, ho, hg, hx⟩ := run_append_grew (P := P) base t ty e i z size bytes ht hi hz hsize hby hzs hsz (.slice (some ⟨B, 0, none⟩) 0 0) 0 [] hown a m c news hl hnews h1 (by omega) (by rw [Nat.zero_add]; exact hbytes) hbase
  rw [Nat.zero_add, List.nil_append] at ho
  by_cases hm : m = 0
  · obtain ⟨w2, hr2, ho2, hg2⟩ := run_append_fits (P := P) (w := w) base t ty e i size ht hi hsize B 0 0 [] hown a m c news hl hnews h1 (by omega)
    rw [hr] at hr2
    simp only [Result.ok.injEq] at hr2
    obtain ⟨rfl, rfl⟩ := hr2
    refine ⟨_, _, hr, ho, ⟨hg2.os, hg2.tape, hg2.output, hg2.size, fun k hk => ?_⟩, fun _ => by rw [hm]⟩
    by_cases hkB : k = B
    · subst hkB
      rcases hown.2 with ⟨he, -⟩ | ⟨g, cap, cur, he, -, hg0, -, -, hcs, -⟩
      · simp at he
      · simp only [Value.slice.injEq, Option.some.injEq, Addr.mk.injEq, and_true, true_and] at he
        obtain ⟨rfl, rfl⟩ := he
        rcases ho2.2 with ⟨he, -⟩ | ⟨g', cap', cur', he, -, hg', -, -, hcs', -⟩
        · simp at he
        · simp only [Value.slice.injEq, Option.some.injEq, Addr.mk.injEq, and_true, true_and] at he
          obtain ⟨rfl, rfl⟩ := he
          have e1 : cur = #[] := Array.eq_empty_of_size_eq_zero (by omega)
          have e2 : cur' = #[] := Array.eq_empty_of_size_eq_zero (by omega)
          rw [hg0, hg', e1, e2]
    · exact hg2.block k hk (by simpa using hkB)
  · exact ⟨_, _, hr, ho, hx fun g cap e => by
      have := (Value.slice.inj e).2.2
      omega, fun h => absurd h hm⟩
theorem stepG_append_empty {o : Oper} {a : Act} {w : World} {S : Value → World → Prop} (hgd : o.guard = none) (s x : Operand) (t : TypeId)
    (ho : o.op = .call { callee := .builtin .append, args := #[s, x], argTypes := #[t, t] })
    (base : Nat) (e : TypeId) (i : TypeInfo) (z : Value) (size bytes : Nat) (ht : P.underlying t = some (.slice e)) (hi : P.info? e = some i) (hz : i.zero = some z)
    (hsize : i.size = size) (hby : i.bytes = bytes) (hzs : z.cells.size = size) (hsz : 0 < size)
    (v : Value) (hs : a.eval s = v) (B : Nat) (hvB : v = .slice (some ⟨B, 0, none⟩) 0 0) (hown : w.ownsRow base e size v 0 [])
    (ad : Addr) (m c : Nat) (news : List Value) (hx : a.eval x = .slice (some ad) m c) (hl : news.length = m * size) (hnews : ∀ j u, news[j]? = some u → w.cell? (ad.add j) = some u) (h1 : ∀ u ∈ news, u.oneCell' = true)
    (h63 : m ≤ maxLen) (hbytes : m * bytes ≤ 140737488355328) (hbase : base ≤ w.heap.size)
    (h : ∀ v' w', w'.ownsRow base e size v' m news → Ext w w' → (m = 0 → v' = v) → S v' w') : stepG P ops o a w S := by
  subst hvB
  obtain ⟨v', w', hr, h2, h3, h4⟩ := run_append_empty (P := P) base t o.type e i z size bytes ht hi hz hsize hby hzs hsz B hown ad m c news hl hnews h1 h63 hbytes hbase
  unfold stepG
  have hw : Region.wanted o (yielded ops a.tmps) = true := by unfold Region.wanted; rw [hgd]
  rw [if_pos hw]
  unfold execOp
  simp only [ho, resolve, invoke, builtin, Sem.run_bind, Sem.run_pure, Result.andThen_ok, List.map_toArray, List.map_cons, List.map_nil, hs, hx, hr]
  exact h v' w' h2 h3 h4
end Facts.App
def B0 : Value → Nat
  | .slice (some a) _ _ => a.block
  | _ => 0
theorem EmptyR.at0' {base : Nat} {e : TypeId} {sz : Nat} {u : Value} {w : World} (h : EmptyR base e sz u w) : u = .slice (some ⟨B0 u, 0, none⟩) 0 0 := by
  obtain ⟨B, rfl, -⟩ := h; rfl
/-- the first words of a letter, copied -/
def RowE (base n : Nat) (cs : List Value) (u : Value) (w : World) : Prop := OwnR base 9 1 n cs u w ∧ (n = 0 → EmptyR base 9 1 u w)
theorem RowE.ext {base n : Nat} {cs : List Value} {u : Value} {w w' : World} (h : RowE base n cs u w) (hx : Ext w w') : RowE base n cs u w' := ⟨h.1.ext hx, fun e => (h.2 e).ext hx⟩
theorem RowE.grew {base n : Nat} {cs : List Value} {u : Value} {n0 k : Nat} {w w' : World} (h : RowE base n cs u w) (hn : n ≤ k) (hx : Facts.App.Grew n0 k w w') : RowE base n cs u w' := ⟨h.1.grew (by omega) hx, fun e => (h.2 e).grew hx⟩
def strsV (l : List ByteArray) : List Value := l.map Value.string
theorem strsV_one (l : List ByteArray) : ∀ u ∈ strsV l, u.oneCell' = true := fun u hu => by
  obtain ⟨x, -, rfl⟩ := List.mem_map.1 hu
  rfl
theorem strsV_len (l : List ByteArray) : (strsV l).length = l.length := by simp [strsV]
/-- the cells of a part of a letter -/
theorem strs_cells {w : World} {b o n c : Nat} {l : List ByteArray} (h : StrsAt w (.slice (some ⟨b, o, none⟩) n c) l) (s m : Nat) : ∀ j u, (strsV ((l.drop s).take m))[j]? = some u → w.cell? ((⟨b, o + s, none⟩ : Addr).add j) = some u := by
  intro j u hj
  have hjl : j < (strsV ((l.drop s).take m)).length := by
    rcases Nat.lt_or_ge j (strsV ((l.drop s).take m)).length with h | h
    · exact h
    · rw [List.getElem?_eq_none h] at hj; cases hj
  rw [strsV_len, List.length_take, List.length_drop] at hjl
  unfold strsV at hj
  rw [List.getElem?_map, List.getElem?_take_of_lt (by omega), List.getElem?_drop, List.getElem?_eq_getElem (by omega)] at hj
  obtain ⟨b', o', e, r, -⟩ := SliceAt.get h (i := s + j) (by omega)
  obtain ⟨rfl, rfl, -⟩ := Addr.mk.inj (Option.some.inj e)
  rw [show (⟨b, o + s, none⟩ : Addr).add j = ⟨b, o + s + j, none⟩ by unfold Addr.add; split <;> simp_all]
  simp only [Option.map_some, Option.some.injEq] at hj
  subst hj
  rw [Nat.mul_one, ← Nat.add_assoc] at r
  exact r
/-- what is left of a letter behind some words -/
theorem strs_left {w : World} {b o n c s : Nat} {l : List ByteArray} (h : StrsAt w (.slice (some ⟨b, o, none⟩) n c) l) (hn : n = l.length) (hs : s ≤ n) (hc : n ≤ c) {ad : Addr} (e : (if c = s then some (⟨b, o, none⟩ : Addr) else some ⟨b, o + s, none⟩) = some ad) : ∀ j u, (strsV (l.drop s))[j]? = some u → w.cell? (ad.add j) = some u := by
  intro j u hj
  have hcl := strs_cells h s (l.length - s)
  have e2 : (l.drop s).take (l.length - s) = l.drop s := List.take_of_length_le (by rw [List.length_drop]; omega)
  rw [e2] at hcl
  by_cases hcs : c = s
  · have : l.drop s = [] := List.drop_eq_nil_of_le (by omega)
    rw [this] at hj
    simp [strsV] at hj
  · rw [if_neg hcs] at e
    obtain rfl := Option.some.inj e
    exact hcl j u hj
theorem RowW.ofV {base n : Nat} {l : List ByteArray} {u : Value} {w : World} (h : OwnR base 9 1 n (strsV l) u w) (hn : n = l.length) : RowW base l u w := by subst hn; exact h
def S14 (n0 k : Nat) (i : Nat) (w w' : World) : Prop := if i = 9 then Facts.App.Grew n0 k w w' else Ext w w'
theorem many14 (n0 k : Nat) : Facts.Dep.Many.ManyT (S14 n0 k) (Facts.App.Grew n0 k) := ⟨fun i w w' h => by
  unfold S14 at h
  split at h
  · exact h
  · exact .of_ext h, fun _ _ _ h g => h.trans g, fun w => .of_ext (ext_drew w)⟩
def S16 (n0 k : Nat) (i : Nat) (w w' : World) : Prop := if i = 6 then Facts.App.Grew n0 k w w' ∧ (k = 0 → Ext w w') else if i = 11 then Facts.App.Grew n0 (k + 1) w w' else Ext w w'
theorem many16 (n0 k : Nat) : Facts.Dep.Many.ManyT (S16 n0 k) (Facts.App.Grew n0 k) := ⟨fun i w w' h => by
  unfold S16 at h
  split at h
  · exact h.1
  · split at h
    · exact h.mono (by omega)
    · exact .of_ext h, fun _ _ _ h g => h.trans g, fun w => .of_ext (ext_drew w)⟩

theorem s14e {n0 k i : Nat} {w w' : World} (hi : i ≠ 9) (h : Ext w w') : S14 n0 k i w w' := by unfold S14; rw [if_neg hi]; exact h
theorem s16e {n0 k i : Nat} {w w' : World} (hi : i ≠ 6) (h2 : i ≠ 11) (h : Ext w w') : S16 n0 k i w w' := by unfold S16; rw [if_neg hi, if_neg h2]; exact h
def zzW : ByteArray := ⟨#[122, 122]⟩
def turnW (l : List ByteArray) (n : Nat) : List ByteArray := (l.take n ++ [zzW]) ++ l.drop (n + 1)
end Go.Proofs.YtcamegaimleomaaGreat

namespace Go.Proofs.YtcamegaimleomaaGreat
set_option linter.unusedSimpArgs false
set_option linter.unusedVariables false
open Go.RowKit
set_option linter.unusedVariables false

theorem same_step {α : Type} {l m : List α} {k : Nat} (h1 : k < l.length) (h2 : k < m.length) : (l.take (k + 1) = m.take (k + 1)) ↔ (l.take k = m.take k ∧ l[k] = m[k]) := by
  rw [List.take_succ_eq_append_getElem h1, List.take_succ_eq_append_getElem h2]
  constructor
  · intro h
    have := List.append_inj h (by simp; omega)
    exact ⟨this.1, by simpa using this.2⟩
  · rintro ⟨h, e⟩; rw [h, e]
theorem not_same {α : Type} {l m : List α} {k : Nat} (h1 : k < l.length) (h2 : k < m.length) (h : l[k] ≠ m[k]) : l ≠ m := fun e => by subst e; exact h rfl
theorem all_same {α : Type} {l m : List α} (hn : l.length = m.length) {k : Nat} (hk : l.length ≤ k) (h : l.take k = m.take k) : l = m := by
  rwa [List.take_of_length_le hk, List.take_of_length_le (by omega)] at h

set_option maxHeartbeats 1000000 in
set_option maxRecDepth 100000 in
theorem same_any (v u : Value) (l m : List ByteArray) (w : World) (hl : StrsAt w v l) (hm : StrsAt w u m) :
    Calls Tryz.prog 20 #[v, u] w fun r w' => r = .returned (.bool (decide (l = m))) ∧ Ext w w' := by
  obtain ⟨a, cap, rfl, hlc, hcm⟩ := hl.shape
  obtain ⟨a', cap', rfl, hlc', hcm'⟩ := hm.shape
  by_cases hn : l.length = m.length
  · have hn' : ((l.length : Int) != (m.length : Int)) = false := by simp; omega
    have Hn := Lib.hid hn
    clear hn
    go_enter Tryz.func20, Tryz.ntmps20
    go_wp2
    go_loopw [5] (fun i wr => ∃ k : Nat, k ≤ l.length ∧ i = .int .i64 k ∧ Ext w wr ∧ l.take k = m.take k) (fun i _ => l.length - (intOf i).toNat)
    case atStart => exact ⟨0, Nat.zero_le _, rfl, Ext.refl _, rfl⟩
    case round =>
      obtain ⟨k, hk, rfl, hx, hd⟩ := hrel
      have Hd := Lib.hid hd; clear hd
      by_cases h1 : k < l.length
      · have k1 : (k : Int) < (l.length : Int) := by omega
        have h2 : k < m.length := by have := Hn.out; omega
        have k2 : (k : Int) < (m.length : Int) := by omega
        obtain ⟨b, off, rfl, c0, -⟩ := (hl.ext hx).get h1
        obtain ⟨b', off', rfl, c1, -⟩ := (hm.ext hx).get h2
        have hst := same_step h1 h2
        have hno := not_same h1 h2
        generalize hx' : l[k] = x at *
        generalize hy : m[k] = y at *
        have Hst := Lib.hid hst
        have Hno := Lib.hid hno
        clear hx' hy hst hno
        simp only [Nat.mul_one] at c0 c1
        cases h0 : x.toList == y.toList
        · have H0 := Lib.hid h0
          have h0' : (x.toList != y.toList) = true := by simp [bne, h0]
          go_wp2_with fail
          apply Facts.wp_region [.val _, .val _, .val _, .val _, .val _, .val _, .val _, .val _, .val _] (by kernel_rfl) (by kernel_rfl) trivial ?main
          case main =>
            iterate 9 (refine ⟨fun w1 hx hh => ?_, ?_⟩; focus (clear hh; have e0 := hx.cell c0; have e1 := hx.cell c1; go_simp; first | exact ⟨Ext.refl _, rfl⟩ | exact Ext.refl _))
            intro w1 hx1 hh
            have hx3 := hx.trans hx1
            clear hh c0 c1
            go_simp
            go_wp2
            go_ret
            exact ⟨ret_bool (by rw [decide_eq_false (Hno.out (by have := H0.out; rw [beq_str] at this; simpa using this))]), hx3⟩
        · have H0 := Lib.hid h0
          have h0' : (x.toList != y.toList) = false := by simp [bne, h0]
          go_wp2_with fail
          apply Facts.wp_region [.val _, .val _, .val _, .val _, .val _, .val _, .val _, .val _, .val _] (by kernel_rfl) (by kernel_rfl) trivial ?main
          case main =>
            iterate 9 (refine ⟨fun w1 hx hh => ?_, ?_⟩; focus (clear hh; have e0 := hx.cell c0; have e1 := hx.cell c1; go_simp; first | exact ⟨Ext.refl _, rfl⟩ | exact Ext.refl _))
            intro w1 hx1 hh
            have hx3 := hx.trans hx1
            clear hh c0 c1
            go_simp
            go_wp2
            go_roundw
            case rel => exact ⟨k + 1, by omega, by go_num, hx3, Hst.out.2 ⟨Hd.out, by have := H0.out; rw [beq_str] at this; simpa using this⟩⟩
            case measure => simp [intOf]; omega
      · go_wp2
        go_ret
        exact ⟨ret_bool (by rw [decide_eq_true (all_same Hn.out (by omega) Hd.out)]), hx⟩
  · have hn' : ((l.length : Int) != (m.length : Int)) = true := by simp; omega
    have Hne : Hid (decide (l = m) = false) := Lib.hid (decide_eq_false fun e => hn (by rw [e]))
    clear hn
    go_enter Tryz.func20, Tryz.ntmps20
    go_wp2
    go_ret
    exact ⟨ret_bool Hne.out.symm, Ext.refl _⟩

set_option maxHeartbeats 1000000 in
set_option maxRecDepth 100000 in
theorem sames_any (v u : Value) (l m : List (List ByteArray)) (w : World) (hl : FillsAt w v l) (hm : FillsAt w u m) :
    Calls Tryz.prog 13 #[v, u] w fun r w' => r = .returned (.bool (decide (l = m))) ∧ Ext w w' := by
  obtain ⟨a, cap, rfl, hlc, hcm⟩ := hl.shape
  obtain ⟨a', cap', rfl, hlc', hcm'⟩ := hm.shape
  by_cases hn : l.length = m.length
  · have hn' : ((l.length : Int) != (m.length : Int)) = false := by simp; omega
    have Hn := Lib.hid hn
    clear hn
    go_enter Tryz.func13, Tryz.ntmps13
    go_wp2
    go_loopw [5] (fun i wr => ∃ k : Nat, k ≤ l.length ∧ i = .int .i64 k ∧ Ext w wr ∧ l.take k = m.take k) (fun i _ => l.length - (intOf i).toNat)
    case atStart => exact ⟨0, Nat.zero_le _, rfl, Ext.refl _, rfl⟩
    case round =>
      obtain ⟨k, hk, rfl, hx, hd⟩ := hrel
      have Hd := Lib.hid hd; clear hd
      by_cases h1 : k < l.length
      · have k1 : (k : Int) < (l.length : Int) := by omega
        have h2 : k < m.length := by have := Hn.out; omega
        have k2 : (k : Int) < (m.length : Int) := by omega
        obtain ⟨b, off, rfl, x, c0, hxs⟩ := (hl.ext hx).get h1
        obtain ⟨b', off', rfl, y, c1, hys⟩ := (hm.ext hx).get h2
        have hst := same_step h1 h2
        have hno := not_same h1 h2
        generalize hx' : l[k] = xl at *
        generalize hy : m[k] = yl at *
        have Hst := Lib.hid hst
        have Hno := Lib.hid hno
        have Hxs := Lib.hid hxs
        have Hys := Lib.hid hys
        clear hx' hy hst hno hxs hys
        simp only [Nat.mul_one] at c0 c1
        go_wp2_with fail
        apply Facts.wp_region [.val _, .val _, .val _, .val x, .val _, .val _, .val _, .val y, .val (.bool (decide (xl = yl))), .val _] (by kernel_rfl) (by kernel_rfl) trivial ?main
        case main =>
          iterate 8 (refine ⟨fun w1 hx hh => ?_, ?_⟩; focus (clear hh; have e0 := hx.cell c0; have e1 := hx.cell c1; go_simp; first | exact ⟨Ext.refl _, rfl⟩ | exact Ext.refl _))
          refine ⟨fun w1 hx hh => ?_, ?_⟩
          · clear hh
            go_simp
            refine (same_any x y xl yl w1 (Hxs.out.ext hx) (Hys.out.ext hx)).mono ?_
            rintro e w' ⟨rfl, hx2⟩
            exact ⟨_, rfl, hx2, rfl⟩
          iterate 1 (refine ⟨fun w1 hx hh => ?_, ?_⟩; focus (clear hh; skip; go_simp; first | exact ⟨Ext.refl _, rfl⟩ | exact Ext.refl _))
          intro w1 hx1 hh
          have hx3 := hx.trans hx1
          clear hh c0 c1
          by_cases h0 : xl = yl
          · have H0 := Lib.hid h0
            have h0' : decide (xl = yl) = true := decide_eq_true h0
            rw [h0']
            clear h0 h0'
            go_simp
            go_wp2
            go_roundw
            case rel => exact ⟨k + 1, by omega, by go_num, hx3, Hst.out.2 ⟨Hd.out, H0.out⟩⟩
            case measure => simp [intOf]; omega
          · have H0 := Lib.hid h0
            have h0' : decide (xl = yl) = false := decide_eq_false h0
            rw [h0']
            clear h0 h0'
            go_simp
            go_wp2
            go_ret
            exact ⟨ret_bool (by rw [decide_eq_false (Hno.out H0.out)]), hx3⟩
      · go_wp2
        go_ret
        exact ⟨ret_bool (by rw [decide_eq_true (all_same Hn.out (by omega) Hd.out)]), hx⟩
  · have hn' : ((l.length : Int) != (m.length : Int)) = true := by simp; omega
    have Hne : Hid (decide (l = m) = false) := Lib.hid (decide_eq_false fun e => hn (by rw [e]))
    clear hn
    go_enter Tryz.func13, Tryz.ntmps13
    go_wp2
    go_ret
    exact ⟨ret_bool Hne.out.symm, Ext.refl _⟩

def corrN (ms : List Mark) : Nat := (ms.filter fun m => m.kind != 0).length
theorem corrN_step (ms : List Mark) (k : Nat) (h : k < ms.length) : corrN (ms.take (k + 1)) = corrN (ms.take k) + if (ms[k].kind != 0) = true then 1 else 0 := by
  unfold corrN
  rw [List.take_succ_eq_append_getElem h, List.filter_append, List.length_append]
  cases h0 : ms[k].kind != 0 <;> simp [h0]
theorem corrN_le (ms : List Mark) (k : Nat) : corrN (ms.take k) ≤ k := by
  unfold corrN
  have h := List.length_filter_le (fun m : Mark => m.kind != 0) (ms.take k)
  rw [List.length_take] at h
  omega
set_option maxHeartbeats 1000000 in
set_option maxRecDepth 100000 in
theorem corrections_any (v : Value) (l : List Mark) (w : World) (hl : MarksAt w v l) :
    Calls Tryz.prog 59 #[v] w fun r w' => r = .returned (.int .i64 (corrN l)) ∧ Ext w w' := by
  obtain ⟨a, cap, rfl, hlc, hcm⟩ := hl.shape
  go_enter Tryz.func59, Tryz.ntmps59
  go_wp2
  go_loopw [3, 4] (fun n i wr => ∃ k : Nat, k ≤ l.length ∧ i = .int .i64 k ∧ Ext w wr ∧ n = .int .i64 (corrN (l.take k))) (fun _ i _ => l.length - (intOf i).toNat)
  case atStart => exact ⟨0, Nat.zero_le _, rfl, Ext.refl _, rfl⟩
  case round =>
    obtain ⟨k, hk, rfl, hx, rfl⟩ := hrel
    by_cases h1 : k < l.length
    · have k1 : (k : Int) < (l.length : Int) := by omega
      obtain ⟨b, off, rfl, c0, -⟩ := (hl.ext hx).get h1
      have hst := corrN_step l k h1
      have hle := corrN_le l k
      generalize l[k] = x at *
      generalize corrN (l.take k) = c at *
      cases h0 : x.kind != 0
      · have Hst : Hid (corrN (l.take (k + 1)) = c) := Lib.hid (by rw [hst, h0]; rfl)
        clear hst
        go_wp2
        go_roundw
        case rel => exact ⟨k + 1, by omega, by go_num, hx, by rw [Hst.out]⟩
        case measure => simp [intOf]; omega
      · have Hst : Hid (corrN (l.take (k + 1)) = c + 1) := Lib.hid (by rw [hst, h0]; rfl)
        clear hst
        go_wp2
        go_roundw
        case rel => exact ⟨k + 1, by omega, by go_num, hx, by rw [Hst.out]; go_num⟩
        case measure => simp [intOf]; omega
    · have Hn : Hid (corrN (l.take k) = corrN l) := Lib.hid (by rw [List.take_of_length_le (by omega)])
      go_wp2
      go_ret
      exact ⟨ret_int (by rw [Hn.out]), hx⟩
end Go.Proofs.YtcamegaimleomaaGreat

namespace Go.Proofs.YtcamegaimleomaaGreat
set_option linter.unusedSimpArgs false
set_option linter.unusedVariables false
open Go.RowKit
set_option linter.unusedVariables false

instance : DecidableEq Mark := fun a b => decidable_of_iff (a.kind = b.kind ∧ a.word = b.word) ⟨fun h => by cases a; cases b; simp_all, fun h => by subst h; exact ⟨rfl, rfl⟩⟩
theorem mark_fields : ∃ f g, (Tryz.prog.fieldsOf 115).toList = [f, g] ∧ f.type = 3 ∧ f.offset = 0 ∧ g.type = 9 ∧ g.offset = 1 ∧ f.name = "Kind" ∧ g.name = "Word" := by
  have hf : ((Tryz.prog.fieldsOf 115).toList.map fun f => (f.name, f.type, f.offset)) = [("Kind", 3, 0), ("Word", 9, 1)] := by kernel_rfl
  generalize (Tryz.prog.fieldsOf 115).toList = fs at *
  obtain ⟨f, g, rfl⟩ : ∃ f g, fs = [f, g] := by
    rcases fs with _ | ⟨f, _ | ⟨g, _ | ⟨h, r⟩⟩⟩
    · simp at hf
    · simp at hf
    · exact ⟨f, g, rfl⟩
    · simp at hf
  simp only [List.map_cons, List.map_nil, List.cons.injEq, Prod.mk.injEq, and_true] at hf
  obtain ⟨⟨h1, h2, h3⟩, h4, h5, h6⟩ := hf
  exact ⟨f, g, rfl, h2, h3, h5, h6, h1, h4⟩
theorem equal_mark (k m : Mark) (w : World) : (Op.equal 115 (.agg #[.int .i64 k.kind, .string k.word]) (.agg #[.int .i64 m.kind, .string m.word])).run Tryz.prog w = .ok (decide (k = m)) w := by
  have hop : ∀ x y : Value, Op.equal 115 x y = Op.equalIn Op.maxDepth 115 x y := fun _ _ => rfl
  obtain ⟨m0, hd⟩ : ∃ m0, Op.maxDepth = m0 + 2 := ⟨9998, by decide⟩
  have ha : ∀ w, (isAgg 3).run Tryz.prog w = .ok false w := fun _ => by kernel_rfl
  have hb : ∀ w, (isAgg 9).run Tryz.prog w = .ok false w := fun _ => by kernel_rfl
  rw [hop, hd]
  rw [run_equalIn_struct _ _ _ _ _ (by kernel_rfl) (by kernel_rfl)]
  obtain ⟨f, g, hfs, h2, h3, h5, h6, n1, n2⟩ := mark_fields
  rw [hfs]
  obtain ⟨a, b⟩ := k
  obtain ⟨c, d⟩ := m
  simp [Op.eqFields, h2, h3, h5, h6, n1, n2, part, ha, hb, go_sem]
  have hbq : (b.toList = d.toList) ↔ b = d := ⟨str_inj, fun e => by rw [e]⟩
  by_cases e1 : a = c <;> by_cases e2 : b = d <;> simp [e1, e2, hbq]
theorem neq_mark (k m : Mark) (w : World) : (binOp .neq 115 (.agg #[.int .i64 k.kind, .string k.word]) (.agg #[.int .i64 m.kind, .string m.word])).run Tryz.prog w = .ok (.bool (!decide (k = m))) w := by
  have h := equal_mark k m w
  have hop : Op.equal 115 (.agg #[.int .i64 k.kind, .string k.word]) (.agg #[.int .i64 m.kind, .string m.word]) = Op.equalIn 10000 115 (.agg #[.int .i64 k.kind, .string k.word]) (.agg #[.int .i64 m.kind, .string m.word]) := rfl
  rw [hop] at h
  rw [run_neq_struct, h]
  rfl
set_option maxHeartbeats 1000000 in
set_option maxRecDepth 100000 in
theorem equal_any (v u : Value) (l m : List Mark) (w : World) (hl : MarksAt w v l) (hm : MarksAt w u m) :
    Calls Tryz.prog 17 #[v, u] w fun r w' => r = .returned (.bool (decide (l = m))) ∧ Ext w w' := by
  obtain ⟨a, cap, rfl, hlc, hcm⟩ := hl.shape
  obtain ⟨a', cap', rfl, hlc', hcm'⟩ := hm.shape
  by_cases hn : l.length = m.length
  · have hn' : ((l.length : Int) != (m.length : Int)) = false := by simp; omega
    have Hn := Lib.hid hn
    clear hn
    go_enter Tryz.func17, Tryz.ntmps17
    go_wp2
    go_loopw [5] (fun i wr => ∃ k : Nat, k ≤ l.length ∧ i = .int .i64 k ∧ Ext w wr ∧ l.take k = m.take k) (fun i _ => l.length - (intOf i).toNat)
    case atStart => exact ⟨0, Nat.zero_le _, rfl, Ext.refl _, rfl⟩
    case round =>
      obtain ⟨k, hk, rfl, hx, hd⟩ := hrel
      have Hd := Lib.hid hd; clear hd
      by_cases h1 : k < l.length
      · have k1 : (k : Int) < (l.length : Int) := by omega
        have h2 : k < m.length := by have := Hn.out; omega
        have k2 : (k : Int) < (m.length : Int) := by omega
        obtain ⟨b, off, rfl, c0, d0, -⟩ := (hl.ext hx).get h1
        obtain ⟨b', off', rfl, c1, d1, -⟩ := (hm.ext hx).get h2
        have hst := same_step h1 h2
        have hno := not_same h1 h2
        generalize hx' : l[k] = x at *
        generalize hy : m[k] = y at *
        have Hst := Lib.hid hst
        have Hno := Lib.hid hno
        clear hx' hy hst hno
        have hnq := fun w => neq_mark x y w
        by_cases h0 : x = y
        · have H0 := Lib.hid h0
          rw [decide_eq_true h0] at hnq
          clear h0
          go_wp2_with fail
          apply Facts.wp_region [.val _, .val _, .val _, .val (.agg #[.int .i64 x.kind, .string x.word]), .val _, .val _, .val _, .val (.agg #[.int .i64 y.kind, .string y.word]), .val (.bool false)] (by kernel_rfl) (by kernel_rfl) trivial ?main
          case main =>
            iterate 8 (refine ⟨fun w1 hx hh => ?_, ?_⟩; focus (clear hh; have e0 := hx.cell c0; have e1 := hx.cell c1; have e2 := hx.cell d0; have e3 := hx.cell d1; go_simp; first | exact ⟨Ext.refl _, rfl⟩ | exact Ext.refl _))
            refine ⟨fun w1 hx hh => ?_, ?_⟩
            · clear hh
              go_simp
              first | exact Ext.refl _ | (rw [hnq]; exact ⟨Ext.refl _, rfl⟩)
            intro w1 hx1 hh
            have hx3 := hx.trans hx1
            clear hh c0 c1
            go_simp
            go_wp2
            go_roundw
            case rel => exact ⟨k + 1, by omega, by go_num, hx3, Hst.out.2 ⟨Hd.out, H0.out⟩⟩
            case measure => simp [intOf]; omega
        · have H0 := Lib.hid h0
          rw [decide_eq_false h0] at hnq
          clear h0
          go_wp2_with fail
          apply Facts.wp_region [.val _, .val _, .val _, .val (.agg #[.int .i64 x.kind, .string x.word]), .val _, .val _, .val _, .val (.agg #[.int .i64 y.kind, .string y.word]), .val (.bool true)] (by kernel_rfl) (by kernel_rfl) trivial ?main
          case main =>
            iterate 8 (refine ⟨fun w1 hx hh => ?_, ?_⟩; focus (clear hh; have e0 := hx.cell c0; have e1 := hx.cell c1; have e2 := hx.cell d0; have e3 := hx.cell d1; go_simp; first | exact ⟨Ext.refl _, rfl⟩ | exact Ext.refl _))
            refine ⟨fun w1 hx hh => ?_, ?_⟩
            · clear hh
              go_simp
              first | exact Ext.refl _ | (rw [hnq]; exact ⟨Ext.refl _, rfl⟩)
            intro w1 hx1 hh
            have hx3 := hx.trans hx1
            clear hh c0 c1
            go_simp
            go_wp2
            go_ret
            exact ⟨ret_bool (by rw [decide_eq_false (Hno.out H0.out)]), hx3⟩
      · go_wp2
        go_ret
        exact ⟨ret_bool (by rw [decide_eq_true (all_same Hn.out (by omega) Hd.out)]), hx⟩
  · have hn' : ((l.length : Int) != (m.length : Int)) = true := by simp; omega
    have Hne : Hid (decide (l = m) = false) := Lib.hid (decide_eq_false fun e => hn (by rw [e]))
    clear hn
    go_enter Tryz.func17, Tryz.ntmps17
    go_wp2
    go_ret
    exact ⟨ret_bool Hne.out.symm, Ext.refl _⟩
end Go.Proofs.YtcamegaimleomaaGreat
