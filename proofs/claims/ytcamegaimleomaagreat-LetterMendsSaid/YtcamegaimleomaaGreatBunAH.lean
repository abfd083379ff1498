/-
  WHAT CAN BE DONE AT A PLACE: next, and the functions of the table of kinds by number.
  WHAT CAN BE DONE AT A PLACE: the iterator choices.
  THE FIRST OF SOME CHOICES: best of the program, for whatever iterator that yields a list of choices.
  THE RULE FOR A REGION THAT DRAWS ITS ORDER, WITH FACTS THAT SPEAK OF EARLIER VALUES TOO: what an operation yields may be said of the values of the operations that it waits for. With a pivot, or with none. Over any program.
  THE RULE FOR A REGION THAT DRAWS ITS ORDER, in which one operation (p) may write, and others need not wait for it, nor it for them: what is said of those is kept by what it writes. Over any program.
-/
import Derived.Test.YtcamegaimleomaaGreatBunAG
import Derived.Test.YtcamegaimleomaaGreatBunAF
namespace Go.Proofs.YtcamegaimleomaaGreat
set_option linter.unusedSimpArgs false
set_option linter.unusedVariables false
open Go.RowKit
set_option linter.unusedVariables false

def canF : Nat → Nat
  | 0 => 149
  | 1 => 150
  | 2 => 145
  | 3 => 145
  | _ => 151
def becF : Nat → Nat
  | 0 => 146
  | 1 => 148
  | 2 => 147
  | 3 => 148
  | _ => 147
theorem kindV_eq (k : Nat) (h : k < 5) : kindV k = [.int .i64 (kW k : Nat), .int .i64 (kS k : Nat), .int .i64 (kC k : Nat), .bool (kWr k), .func (.func (canF k)) #[] #[], .func (.func (becF k)) #[] #[]] := by
  have : k = 0 ∨ k = 1 ∨ k = 2 ∨ k = 3 ∨ k = 4 := by omega
  rcases this with rfl | rfl | rfl | rfl | rfl <;> rfl
/-- the six cells of a kind -/
structure KindAt (w : World) (b o k : Nat) : Prop where
  c0 : w.cell? ⟨b, o, none⟩ = some (.int .i64 (kW k : Nat))
  c1 : w.cell? ⟨b, o + 1, none⟩ = some (.int .i64 (kS k : Nat))
  c2 : w.cell? ⟨b, o + 2, none⟩ = some (.int .i64 (kC k : Nat))
  c3 : w.cell? ⟨b, o + 3, none⟩ = some (.bool (kWr k))
  c4 : w.cell? ⟨b, o + 4, none⟩ = some (.func (.func (canF k)) #[] #[])
  c5 : w.cell? ⟨b, o + 5, none⟩ = some (.func (.func (becF k)) #[] #[])
theorem KindsAt.get {w : World} {B : Nat} (h : KindsAt w B) (k : Nat) (hk : k < 5) : KindAt w B (k * 6) k := by
  have h' := fun j u => h k j u hk
  rw [kindV_eq k hk] at h'
  exact ⟨h' 0 _ rfl, h' 1 _ rfl, h' 2 _ rfl, h' 3 _ rfl, h' 4 _ rfl, h' 5 _ rfl⟩
theorem kW_le (k : Nat) : kW k ≤ 1 := by unfold kW; split <;> omega
theorem kS_le (k : Nat) : kS k ≤ 1 := by unfold kS; split <;> omega
theorem kC_le (k : Nat) : kC k ≤ 1 := by unfold kC; split <;> omega
def kindVal (k : Nat) : Value := .agg #[.int .i64 (kW k : Nat), .int .i64 (kS k : Nat), .int .i64 (kC k : Nat), .bool (kWr k), .func (.func (canF k)) #[] #[], .func (.func (becF k)) #[] #[]]
set_option maxRecDepth 100000 in
set_option maxHeartbeats 1000000 in
theorem next_any (p : Nat × Nat) (hp : p.1 ≤ 1000 ∧ p.2 ≤ 1000) (k : Nat) (w : World) :
    Calls Tryz.prog 111 #[placeV p, kindVal k] w fun e w' => e = .returned (placeV (p.1 + kW k, p.2 + kS k)) ∧ Ext w w' := by
  obtain ⟨i, j⟩ := p
  have hw := kW_le k
  have hs := kS_le k
  simp only at hp
  unfold placeV kindVal
  simp only
  generalize kW k = a at *
  generalize kS k = b at *
  generalize kC k = c at *
  generalize kWr k = d at *
  generalize canF k = cf at *
  generalize becF k = bf at *
  have w1 : IntKind.i64.wrap ((i : Int) + a) = ((i + a : Nat) : Int) := by rw [Int.natCast_add]; exact IntWalk.i64_in _ (by omega)
  have w2 : IntKind.i64.wrap ((j : Int) + b) = ((j + b : Nat) : Int) := by rw [Int.natCast_add]; exact IntWalk.i64_in _ (by omega)
  go_enter Tryz.func111, Tryz.ntmps111
  go_wp2
  refine bodyPost_ret (v := .agg #[.int .i64 ((i + a : Nat) : Int), .int .i64 ((j + b : Nat) : Int)]) (by simp [results, Tryz.results111, go_sem]) rfl ⟨rfl, (by first | (with_reducible exact Ext.refl _) | (with_reducible assumption) | (show Below _ _ _; go_grown; done))⟩
theorem SliceAt.cut {α : Type} {R : World → Nat → Nat → α → Prop} {sz : Nat} {w : World} {a : Option Addr} {m c : Nat} {l : List α} (h : SliceAt sz R w (.slice a m c) l) (i t : Nat) (hi : i + t ≤ l.length) : SliceAt sz R w (.slice (if c = i then a else a.map fun x => x.add (i * sz)) t (c - i)) ((l.drop i).take t) := by
  obtain ⟨a', c', e, h2, h3, h4⟩ := h
  obtain ⟨rfl, rfl, rfl⟩ := Value.slice.inj e
  have hlen : ((l.drop i).take t).length = t := by rw [List.length_take, List.length_drop]; omega
  refine ⟨_, _, by rw [hlen], by rw [hlen]; omega, by omega, fun j hj => ?_⟩
  rw [hlen] at hj
  obtain ⟨b, o, rfl, r⟩ := h4 (i + j) (by omega)
  refine ⟨b, o + i * sz, ?_, ?_⟩
  · rw [if_neg (by omega)]
    simp [Addr.add]
  · rw [List.getElem_take, List.getElem_drop, show o + i * sz + j * sz = o + (i + j) * sz by rw [Nat.add_mul]; omega]
    exact r
theorem headD_take {α : Type} (l : List α) (d : α) : (l.take 1).headD d = l.headD d := by cases l <;> rfl
/-- whether a kind can be done -/
theorem can_any (k : Nat) (hk : k < 5) (u v : Value) (ws : List ByteArray) (ss : List Slot) (w : World) (hu : StrsAt w u (ws.take (kW k))) (hv : SlotsAt w v (ss.take (kS k))) (h1 : kW k ≤ ws.length) (h2 : kS k ≤ ss.length) :
    Calls Tryz.prog (canF k) #[u, v] w fun e w' => e = .returned (.bool (canM' k ws ss)) ∧ Ext w w' := by
  have : k = 0 ∨ k = 1 ∨ k = 2 ∨ k = 3 ∨ k = 4 := by omega
  rcases this with rfl | rfl | rfl | rfl | rfl
  · have := keepCan_any u v _ _ w hu hv (by simp [kW] at *; omega) (by simp [kS] at *; omega)
    simpa only [canM', kW, kS, headD_take, canF] using this
  · have := turnCan_any u v _ _ w hu hv (by simp [kW] at *; omega) (by simp [kS] at *; omega)
    simpa only [canM', kW, kS, headD_take, canF] using this
  · exact always_any u v w
  · exact always_any u v w
  · have := passCan_any u v _ w hv (by simp [kS] at *; omega)
    simpa only [canM', kW, kS, headD_take, canF] using this
end Go.Proofs.YtcamegaimleomaaGreat

namespace Go.Proofs.YtcamegaimleomaaGreat
set_option linter.unusedSimpArgs false
set_option linter.unusedVariables false
open Go.RowKit
set_option linter.unusedVariables false

/-- .. and what is no cells, below lo, lies as it lay -/
structure KeptM (lo hi : Nat) (w w' : World) : Prop where
  o : KeptO lo hi w w'
  n : ∀ k x, k < lo → w.heap[k]? = some x → x.isCells = false → w'.heap[k]? = some x
theorem KeptM.refl (lo hi : Nat) (w : World) : KeptM lo hi w w := ⟨KeptO.refl _ _ _, fun _ _ _ h _ => h⟩
theorem KeptM.trans {lo hi : Nat} {a b c : World} (h : KeptM lo hi a b) (k : KeptM lo hi b c) : KeptM lo hi a c := ⟨h.o.trans k.o, fun i x hi hx hc => k.n i x hi (h.n i x hi hx hc) hc⟩
theorem Ext.keptM {w w' : World} (lo hi : Nat) (h : Ext w w') : KeptM lo hi w w' := ⟨h.kept lo hi, fun k x _ hx _ => (h.below.block k (Array.getElem?_eq_some_iff.1 hx).1).trans hx⟩
theorem KeptM.map {lo hi : Nat} {w w' : World} {B : Nat} {M : Tab} (h : KeptM lo hi w w') (hB : B < lo) (hm : MapP w B M) : MapP w' B M := by
  obtain ⟨es, n, hb, h1⟩ := hm
  exact ⟨es, n, h.n B _ hB hb rfl, h1⟩
theorem SlotsAt.lies {w w' : World} {v : Value} {l : List Slot} (h : SlotsAt w v l) (hx : Lies w w') : SlotsAt w' v l :=
  SliceAt.lies (fun _ _ _ _ _ hx h => ⟨hx _ _ h.1, hx _ _ h.2.1, h.2.2⟩) h hx
theorem KindsAt.lies {w w' : World} {B : Nat} (h : KindsAt w B) (hx : Lies w w') : KindsAt w' B := fun k j u hk hu => hx _ _ (h k j u hk hu)
/-- a mending, as it is handed on: words, slots, kinds, what is found -/
def mendV (uv sv : Value) (kb B : Nat) : Value := .agg #[uv, sv, .slice (some ⟨kb, 0, none⟩) 5 5, .map (some B)]
def tabF (M : Tab) : Nat → Nat → Option Ch := fun a b => getP (a, b) M

theorem canF_enters (k : Nat) (hk : k < 5) : ∀ args w, (callFunc (canF k) args).run Tryz.prog w = .ok (.enter (canF k) args) w := by
  have : k = 0 ∨ k = 1 ∨ k = 2 ∨ k = 3 ∨ k = 4 := by omega
  rcases this with rfl | rfl | rfl | rfl | rfl
  · exact enters_of Tryz.func149 (by kernel_rfl) rfl
  · exact enters_of Tryz.func150 (by kernel_rfl) rfl
  · exact enters_of Tryz.func145 (by kernel_rfl) rfl
  · exact enters_of Tryz.func145 (by kernel_rfl) rfl
  · exact enters_of Tryz.func151 (by kernel_rfl) rfl
theorem choicesTo_mono (F : Nat → Nat → Option Ch) (ws : List ByteArray) (ss : List Slot) (i j : Nat) {k m : Nat} (h : k ≤ m) : choicesTo F ws ss i j k <+: choicesTo F ws ss i j m := by
  obtain ⟨d, rfl⟩ := Nat.exists_eq_add_of_le h
  clear h
  induction d with
  | zero => exact List.prefix_rfl
  | succ d ih => exact ih.trans ⟨_, rfl⟩
set_option maxRecDepth 100000 in
set_option maxHeartbeats 4000000 in
theorem choices_seq (n lo hi mb pb kb B : Nat) (uv sv : Value) (ws : List ByteArray) (ss : List Slot) (M : Tab) (i j : Nat) (Wd w : World) (hWd : Wd.heap.size ≤ lo) (hlh : lo ≤ hi) (hhw : hi ≤ w.heap.size) (hK : KeptM lo hi Wd w)
    (hu : StrsAt Wd uv ws) (hs : SlotsAt Wd sv ss) (hk : KindsAt Wd kb) (hM : MapP Wd B M) (hmb : mb < lo) (hpb : pb < lo)
    (m0 : w.cell? ⟨mb, 0, none⟩ = some uv) (m1 : w.cell? ⟨mb, 1, none⟩ = some sv) (m2 : w.cell? ⟨mb, 2, none⟩ = some (.slice (some ⟨kb, 0, none⟩) 5 5)) (m3 : w.cell? ⟨mb, 3, none⟩ = some (.map (some B)))
    (p0 : w.cell? ⟨pb, 0, none⟩ = some (.int .i64 (i : Nat))) (p1 : w.cell? ⟨pb, 1, none⟩ = some (.int .i64 (j : Nat))) (hij : i ≤ ws.length ∧ j ≤ ss.length) (h1000 : ws.length ≤ 900 ∧ ss.length ≤ 900)
    (hF : ∀ a b c, getP (a, b) M = some c → a ≤ ws.length ∧ b ≤ ss.length ∧ c.2 ≤ 100000) :
    SeqOwn n Tryz.prog 152 #[.pointer (some ⟨mb, 0, none⟩), .pointer (some ⟨pb, 0, none⟩)] (fun c => #[chV c]) (KeptM lo hi) (choicesM (tabF M) ws ss i j) w := by
  intro y J W hW hJ hY h0
  have hxW : Ext w W := hW
  have hzW := hxW.size
  have hKW := hK.trans (hxW.keptM _ _)
  have hBlt := hM.lt
  obtain ⟨ua, uc, rfl, huc, hum⟩ := hu.shape
  obtain ⟨sa, sc, rfl, hsc, hsm⟩ := hs.shape
  refine callsIn_wide.2 ?_
  simp only [List.append_toArray, List.cons_append, List.nil_append]
  replace m0 := hxW.cell m0
  replace m1 := hxW.cell m1
  replace m2 := hxW.cell m2
  replace m3 := hxW.cell m3
  replace p0 := hxW.cell p0
  replace p1 := hxW.cell p1
  have zm := cell_lt m0
  have zp := cell_lt p0
  go_enter Tryz.func152, Tryz.ntmps152
  go_wp2_with fail
  go_loopw [12] (fun ix wr => ∃ k : Nat, k ≤ 5 ∧ ix = .int .i64 k ∧ KeptM lo hi W wr ∧ W.heap.size ≤ wr.heap.size ∧ J (choicesTo (tabF M) ws ss i j k) wr) (fun ix _ => 5 - (intOf ix).toNat)
  case atStart => exact ⟨0, Nat.zero_le _, rfl, KeptM.refl _ _ _, Nat.le_refl _, h0⟩
  case round =>
    obtain ⟨k, hk5, rfl, hxr, hzr, hj⟩ := hrel
    have c0 := hxr.o.cell (.inl hmb) m0
    have c1 := hxr.o.cell (.inl hmb) m1
    have c2 := hxr.o.cell (.inl hmb) m2
    have c3 := hxr.o.cell (.inl hmb) m3
    have q0 := hxr.o.cell (.inl hpb) p0
    have q1 := hxr.o.cell (.inl hpb) p1
    have z0 := cell_lt c0
    have z1 := cell_lt q0
    by_cases hlt : k < 5
    · have k1 : (k : Int) < 5 := by omega
      have hKr := hKW.trans hxr
      obtain ⟨d0, d1, d2, d3, d4, d5⟩ := (hk.lies (hKr.o.lies hWd)).get k hlt
      have hnx := fun w => next_any (i, j) ⟨by simp; omega, by simp; omega⟩ k w
      have hcl := hKr
      have hstep : choicesTo (tabF M) ws ss i j (k + 1) = choicesTo (tabF M) ws ss i j k ++ choiceK (tabF M) ws ss i j k := rfl
      have hKc : choiceK (tabF M) ws ss i j k = match getP (i + kW k, j + kS k) M with | none => [] | some b => if canM' k (ws.drop i) (ss.drop j) then [(k, kC k + b.2)] else [] := rfl
      have hmono := choicesTo_mono (tabF M) ws ss i j (k := k + 1) (m := 5) (by omega)
      have hkC := kC_le k
      have hkW := kW_le k
      have hkS := kS_le k
      have hFk := hF (i + kW k) (j + kS k)
      have hcan := fun u v w h1 h2 h3 h4 => can_any k hlt u v (ws.drop i) (ss.drop j) w h1 h2 h3 h4
      have hent := canF_enters k hlt
      unfold placeV kindVal at hnx
      simp only at hnx
      generalize hA : kW k = kw at *
      generalize hBb : kS k = ks at *
      generalize hCc : kC k = kc at *
      generalize kWr k = kr at *
      generalize canF k = cf at *
      generalize becF k = bf at *
      obtain ⟨ni, hni⟩ : ∃ ni, i + kw = ni := ⟨_, rfl⟩
      obtain ⟨nj, hnj⟩ : ∃ nj, j + ks = nj := ⟨_, rfl⟩
      rw [hni, hnj] at hKc hFk
      simp only [hni, hnj] at hnx
      have Hni := Lib.hid hni
      have Hnj := Lib.hid hnj
      obtain ⟨g, hg⟩ : ∃ g, getP (ni, nj) M = g := ⟨_, rfl⟩
      rw [hg] at hKc hFk
      rw [hKc] at hstep
      have Hstep := Lib.hid hstep
      have Hmono := Lib.hid hmono
      have Hg := Lib.hid hg
      clear hstep hmono hg hKc hA hBb hCc hni hnj
      go_wp2_with fail
      refine (hnx _).mono ?_
      rintro e w1 ⟨rfl, hx1⟩
      have xr : Ext wr w1 := Ext.trans (ext_alloc _ _) hx1
      have b0 : w1.cell? ⟨wr.heap.size, 0, none⟩ = some (.int .i64 (kw : Nat)) := hx1.cell (by simp [go_sem])
      have b2 : w1.cell? ⟨wr.heap.size, 2, none⟩ = some (.int .i64 (kc : Nat)) := hx1.cell (by simp [go_sem])
      have b4 : w1.cell? ⟨wr.heap.size, 4, none⟩ = some (.func (.func cf) #[] #[]) := hx1.cell (by simp [go_sem])
      replace c0 := xr.cell c0
      replace c1 := xr.cell c1
      replace c3 := xr.cell c3
      replace q0 := xr.cell q0
      replace q1 := xr.cell q1
      have z0 := cell_lt c0
      have z1 := cell_lt q0
      have z2 := cell_lt b0
      clear hx1 c2 d0 d1 d2 d3 d4 d5 hnx
      obtain ⟨W2, hW2⟩ : ∃ W2, W2 = w1.alloc (.cells #[.int .i64 (ni : Int), .int .i64 (nj : Int)] 186) := ⟨_, rfl⟩
      have xr2 : Ext wr W2 := by rw [hW2]; exact xr.trans (ext_alloc _ _)
      have hM2 : MapP W2 B M := (hcl.trans (xr2.keptM _ _)).map (by omega) hM
      have hlk := run_lookup_p (ni, nj) hM2 true
      rw [Hg.out, hW2] at hlk
      unfold placeV at hlk
      simp only [if_true] at hlk
      have n0 : W2.cell? ⟨w1.heap.size, 0, none⟩ = some (.int .i64 (ni : Int)) := by rw [hW2]; simp [go_sem]
      have n1 : W2.cell? ⟨w1.heap.size, 1, none⟩ = some (.int .i64 (nj : Int)) := by rw [hW2]; simp [go_sem]
      have x12 : Ext w1 W2 := by rw [hW2]; exact ext_alloc _ _
      have HW2 := Lib.hid hW2
      clear hW2 hM2
      cases g with
      | none =>
        simp only [Option.getD_none, Option.isSome_none] at hlk
        unfold chV at hlk
        have hst2 := Hstep.out
        simp only [List.append_nil] at hst2
        have Hst2 := Lib.hid hst2
        clear hst2
        have xr3 : Ext wr (W2.alloc (.cells #[.int .i64 0, .int .i64 0] 120)) := xr2.trans (ext_alloc _ _)
        rw [HW2.out] at xr3
        clear hcan
        go_wp2_with fail
        apply Facts.wp_region [.val _, .val _, .val _, .val _, .val _, .val _, .val _, .val _, .val _, .val _, .val _, .val _, .val _, .val _, .val _, .val _, .val _, .val _, .val _, .val _, .val _, .val _] (by kernel_rfl) (by kernel_rfl) trivial ?main
        case main =>
          iterate 22 (refine ⟨fun w1 hx hh => ?_, ?_⟩; focus (clear hh; skip; go_simp; first | exact ⟨Ext.refl _, rfl⟩ | exact Ext.refl _))
          intro w2 hx2 hh
          clear hh
          have hxx := xr3.trans hx2
          go_simp
          go_wp2
          go_roundw
          case rel => exact ⟨k + 1, by omega, by go_num, hxr.trans (hxx.keptM _ _), Nat.le_trans hzr hxx.size, by rw [Hst2.out]; exact hJ _ _ _ (hxx.below.mono hzr) hj⟩
          case measure => simp [intOf]; omega
      | some c =>
        simp only [Option.getD_some, Option.isSome_some] at hlk
        unfold chV at hlk
        have hc := hFk c rfl
        have hkw : kw ≤ (ws.drop i).length := by rw [List.length_drop]; have := Hni.out; omega
        have hks : ks ≤ (ss.drop j).length := by rw [List.length_drop]; have := Hnj.out; omega
        have i1 : (i : Int) ≤ (ni : Int) := by have := Hni.out; omega
        have i2 : (ni : Int) ≤ (uc : Int) := by omega
        have j1 : (j : Int) ≤ (nj : Int) := by have := Hnj.out; omega
        have j2 : (nj : Int) ≤ (sc : Int) := by omega
        have i3 : ni - i = kw := by have := Hni.out; omega
        have j3 : nj - j = ks := by have := Hnj.out; omega
        have hcutu := (hu.lies (hcl.o.lies hWd)).cut i kw (by have := Hni.out; omega)
        have hcuts := (hs.lies (hcl.o.lies hWd)).cut j ks (by have := Hnj.out; omega)
        have Hcu := Lib.hid hcutu
        have Hcs := Lib.hid hcuts
        have xr3 : Ext wr (W2.alloc (.cells #[.int .i64 (c.1 : Nat), .int .i64 (c.2 : Nat)] 120)) := xr2.trans (ext_alloc _ _)
        have x23 : Ext W2 (W2.alloc (.cells #[.int .i64 (c.1 : Nat), .int .i64 (c.2 : Nat)] 120)) := ext_alloc _ _
        have e0 := x23.cell (x12.cell c0)
        have e1 := x23.cell (x12.cell c1)
        have e2 := x23.cell (x12.cell q0)
        have e3 := x23.cell (x12.cell q1)
        have e4 := x23.cell (x12.cell b4)
        have e5 := x23.cell n0
        have e6 := x23.cell n1
        have e7 := x23.cell (x12.cell b2)
        have e8 : (W2.alloc (.cells #[.int .i64 (c.1 : Nat), .int .i64 (c.2 : Nat)] 120)).cell? ⟨W2.heap.size, 1, none⟩ = some (.int .i64 (c.2 : Nat)) := by simp [go_sem]
        rw [HW2.out] at xr3 e0 e1 e2 e3 e4 e5 e6 e7 e8
        simp only [World.size_alloc] at e8
        clear hcutu hcuts hFk x23
        have hcv := hcan
        generalize hcb : canM' k (ws.drop i) (ss.drop j) = cb at *
        go_wp2_with fail
        apply Facts.wp_region [.val _, .val _, .val _, .val _, .val _, .val _, .val _, .val _, .val _, .val _, .val _, .val _, .val _, .val _, .val _, .val _, .val _, .val _, .val _, .val (.bool cb), .val (.bool !cb), .val (.bool !cb)] (by kernel_rfl) (by kernel_rfl) trivial ?main
        case main =>
          iterate 19 (refine ⟨fun w1 hx hh => ?_, ?_⟩; focus (clear hh; (have f0 := hx.cell e0; have f1 := hx.cell e1; have f2 := hx.cell e2; have f3 := hx.cell e3; have f4 := hx.cell e4; have f5 := hx.cell e5; have f6 := hx.cell e6); go_simp; first | exact ⟨Ext.refl _, rfl⟩ | exact Ext.refl _))
          refine ⟨fun w2 hx hh => ?_, ?_⟩
          · clear hh
            go_simp
            refine (hcan _ _ _ ?_ ?_ hkw hks).mono ?_
            · simpa [i3] using StrsAt.ext Hcu.out (xr3.trans hx)
            · simpa [j3] using SlotsAt.ext Hcs.out (xr3.trans hx)
            · rintro e w' ⟨rfl, hx2⟩
              exact ⟨_, rfl, hx2, rfl⟩
          iterate 2 (refine ⟨fun w1 hx hh => ?_, ?_⟩; focus (clear hh; skip; go_simp; first | exact ⟨Ext.refl _, rfl⟩ | exact Ext.refl _))
          intro w2 hx2 hh
          clear hh
          have hxx := xr3.trans hx2
          have hJ2 := hJ _ _ _ (hxx.below.mono hzr) hj
          have hst2 := Hstep.out
          have f7 := hx2.cell e7
          have f8 := hx2.cell e8
          have zf7 := cell_lt f7
          have zf8 := cell_lt f8
          clear hcan hcv
          cases cb
          · have hst3 : choicesTo (tabF M) ws ss i j (k + 1) = choicesTo (tabF M) ws ss i j k := by simpa using hst2
            have Hst3 := Lib.hid hst3
            clear hst2 hst3
            go_simp
            go_wp2
            go_roundw
            case rel => exact ⟨k + 1, by omega, by go_num, hxr.trans (hxx.keptM _ _), Nat.le_trans hzr hxx.size, by rw [Hst3.out]; exact hJ2⟩
            case measure => simp [intOf]; omega
          · have hst3 : choicesTo (tabF M) ws ss i j (k + 1) = choicesTo (tabF M) ws ss i j k ++ [(k, kc + c.2)] := by simpa using hst2
            have hm := Hmono.out
            rw [hst3] at hm
            obtain ⟨fn, tmps, assign, body, hy, hR⟩ := hY _ (k, kc + c.2) w2 hJ2 hm
            have Hst3 := Lib.hid hst3
            have wsum : IntKind.i64.wrap ((kc : Int) + (c.2 : Int)) = (kc : Int) + (c.2 : Int) := IntWalk.i64_in _ (by omega)
            unfold chV at hy
            simp only [Int.natCast_add] at hy
            clear hst2 hst3 hm
            go_simp
            generalize Value.slice (if uc = i then ua else Option.map (fun x => x.add i) ua) kw (uc - i) = v38
            generalize Value.slice (if sc = j then sa else Option.map (fun x => x.add (j * 2)) sa) ks (sc - j) = v45
            apply_assumption
            refine (wpIn_wide (n := n - 1 + 1)).1 ?_
            gi_wp2
            refine (wpIn_wide (n := n - 1 + 1)).1 ?_
            gi_wp2
            refine hR.mono ?_
            rintro e W3 ⟨rfl, hJ3, hk3⟩
            gi_wp2
            go_wp2
            go_roundw
            case rel => exact ⟨k + 1, by omega, by go_num, (hxr.trans (hxx.keptM _ _)).trans hk3, Nat.le_trans hzr (Nat.le_trans hxx.size hk3.o.size), by rw [Hst3.out]; exact hJ3⟩
            case measure => simp [intOf]; omega
    · have hke : k = 5 := by omega
      subst hke
      go_wp2
      go_end0
      exact ⟨⟨_, rfl⟩, hj⟩
end Go.Proofs.YtcamegaimleomaaGreat

namespace Go.Proofs.YtcamegaimleomaaGreat
set_option linter.unusedSimpArgs false
set_option linter.unusedVariables false
open Go.RowKit
set_option linter.unusedVariables false
attribute [local go_sem] Oper.semAt_some

theorem fewCh_any (c o : Ch) (w : World) : Calls Tryz.prog 67 #[chV c, chV o] w fun e w' => e = .returned (.bool (fewCh c o)) ∧ Ext w w' := by
  obtain ⟨a, b⟩ := c
  obtain ⟨d, f⟩ := o
  have hd : fewCh (a, b) (d, f) = decide ((b : Int) < (f : Int)) := by unfold fewCh; simp
  unfold chV
  simp only
  go_enter Tryz.func67, Tryz.ntmps67
  go_wp2
  all_goals (go_ret; exact ⟨by rw [hd] <;> simp_all, (by first | (with_reducible exact Ext.refl _) | (with_reducible assumption) | (show Below _ _ _; go_grown; done))⟩)
structure Cells2 (w : World) (b : Nat) (c : Ch) : Prop where
  c0 : w.cell? ⟨b, 0, none⟩ = some (.int .i64 (c.1 : Nat))
  c1 : w.cell? ⟨b, 1, none⟩ = some (.int .i64 (c.2 : Nat))
def set2 (w : World) (b : Nat) (c : Ch) : World := (w.setCell ⟨b, 0, none⟩ (.int .i64 (c.1 : Nat))).setCell ⟨b, 1, none⟩ (.int .i64 (c.2 : Nat))
theorem set2_cells {w : World} {b : Nat} {c : Ch} (h : Cells2 w b c) (d : Ch) : Cells2 (set2 w b d) b d :=
  ⟨(World.cell?_setCell_other _ _ _ _ (fun e => by have := (Addr.mk.inj e).2.1; omega)).trans (World.cell?_setCell_same _ _ _ h.c0), World.cell?_setCell_same _ _ _ ((World.cell?_setCell_other _ _ _ _ (fun e => by have := (Addr.mk.inj e).2.1; omega)).trans h.c1)⟩
theorem set2_other {w : World} {b : Nat} {c : Ch} {k : Nat} (h : k ≠ b) : (set2 w b c).heap[k]? = w.heap[k]? := by
  unfold set2
  rw [Below.heap_setCell _ _ _ _ (by simpa using h)]
  exact Below.heap_setCell _ _ _ _ (by simpa using h)
theorem cell_set2_other {w : World} {b : Nat} {c : Ch} {p : Addr} (h : p.block ≠ b) : (set2 w b c).cell? p = w.cell? p := World.cell?_of_block (set2_other h)
theorem frozen_set2 {w : World} {b : Nat} {c : Ch} (p : Addr) : (set2 w b c).frozen? p = w.frozen? p := by simp [set2, go_sem]
theorem KeptM.setIn {lo hi : Nat} {a w : World} (h : KeptM lo hi a w) {p : Addr} (h1 : lo ≤ p.block) (h2 : p.block < hi) (v : Value) : KeptM lo hi a (w.setCell p v) :=
  ⟨h.o.setIn h1 h2 v, fun k x hk hx hc => (Below.heap_setCell w p v k (by omega)).trans (h.n k x hk hx hc)⟩
theorem set2_kept {lo hi : Nat} {a w : World} (h : KeptM lo hi a w) {b : Nat} (h1 : lo ≤ b) (h2 : b < hi) (c : Ch) : KeptM lo hi a (set2 w b c) :=
  (h.setIn (p := ⟨b, 0, none⟩) h1 h2 _).setIn (p := ⟨b, 1, none⟩) h1 h2 _
theorem set2_keeps {B : Nat} {w : World} {b : Nat} {c : Ch} : KeepsFrom B w (set2 w b c) :=
  ((KeepsOthers.setCell w ⟨b, 0, none⟩ (.int .i64 (c.1 : Nat))).trans (KeepsOthers.setCell _ ⟨b, 1, none⟩ (.int .i64 (c.2 : Nat)))) |>.from B
theorem KeptM.putObj {lo hi : Nat} {W : World} {l : Nat} {o o' : Obj} (h : W.heap[l]? = some o) (hc : o.isCells = false) (hl : lo ≤ l) : KeptM lo hi W (W.putObj l o') :=
  ⟨KeptO.putObj h hc, fun k x hk hx _ => (World.putObj_heap_other (by omega)).trans hx⟩
structure BestJ (w0 : World) (bb fb mb : Nat) (bf : Value) (s : Ch × Nat) (W : World) : Prop where
  first : Cells2 W fb s.1
  ffree : ∀ o, W.frozen? ⟨fb, o, none⟩ = false
  many : W.cell? ⟨mb, 0, none⟩ = some (.int .i64 s.2)
  mfree : W.frozen? ⟨mb, 0, none⟩ = false
  fn : W.cell? ⟨bb, 0, none⟩ = some bf
  ext : Below fb w0 W
theorem BestJ.later {w0 : World} {bb fb mb B : Nat} {bf : Value} {s : Ch × Nat} {A W : World} (h : BestJ w0 bb fb mb bf s A) (hx : Below B A W) (h1 : bb < B) (h2 : fb < B) (h3 : mb < B) : BestJ w0 bb fb mb bf s W :=
  ⟨⟨(hx.cell (p := ⟨fb, 0, none⟩) h2).trans h.first.c0, (hx.cell (p := ⟨fb, 1, none⟩) h2).trans h.first.c1⟩, fun o => (hx.frozen (p := ⟨fb, o, none⟩) h2).trans (h.ffree o), (hx.cell (p := ⟨mb, 0, none⟩) h3).trans h.many, (hx.frozen (p := ⟨mb, 0, none⟩) h3).trans h.mfree, (hx.cell (p := ⟨bb, 0, none⟩) h1).trans h.fn, h.ext.trans (hx.mono (Nat.le_of_lt h2))⟩
theorem BestJ.kept {w0 : World} {bb fb mb : Nat} {bf : Value} {s : Ch × Nat} {W : World} (h : BestJ w0 bb fb mb bf s W) (h1 : bb < fb) (h2 : fb < mb) : BestJ w0 bb fb mb bf (s.1, s.2 + 1) (W.setCell ⟨mb, 0, none⟩ (.int .i64 ((s.2 : Int) + 1))) :=
  ⟨⟨(World.cell?_setCell_other _ _ _ _ (fun e => by have := (Addr.mk.inj e).1; omega)).trans h.first.c0, (World.cell?_setCell_other _ _ _ _ (fun e => by have := (Addr.mk.inj e).1; omega)).trans h.first.c1⟩, fun o => by simpa [go_sem] using h.ffree o, World.cell?_setCell_same _ _ _ h.many, by simpa [go_sem] using h.mfree, (World.cell?_setCell_other _ _ _ _ (fun e => by have := (Addr.mk.inj e).1; omega)).trans h.fn, h.ext.setCell (p := ⟨mb, 0, none⟩) (Nat.le_of_lt h2) _⟩
theorem BestJ.took {w0 : World} {bb fb mb : Nat} {bf : Value} {s : Ch × Nat} {W : World} (h : BestJ w0 bb fb mb bf s W) (h1 : bb < fb) (h2 : fb < mb) (x : Ch) : BestJ w0 bb fb mb bf (x, s.2) (set2 W fb x) :=
  ⟨set2_cells h.first x, fun o => (frozen_set2 _).trans (h.ffree o), (cell_set2_other (p := ⟨mb, 0, none⟩) (Nat.ne_of_gt h2)).trans h.many, (frozen_set2 _).trans h.mfree, (cell_set2_other (p := ⟨bb, 0, none⟩) (Nat.ne_of_lt h1)).trans h.fn, (h.ext.setCell (p := ⟨fb, 0, none⟩) (Nat.le_refl _) _).setCell (p := ⟨fb, 1, none⟩) (Nat.le_refl _) _⟩
def fewerF : Value := .func (.func 67) #[] #[]
abbrev zeroCh : Ch := (0, 0)

set_option maxRecDepth 100000 in
set_option maxHeartbeats 1000000 in
theorem bestH_any (gf : Nat) (lb : Array Value) (xs : List Ch) (hxs : xs.length ≤ 100000) (w : World) (heg : ∀ args w, (callFunc gf args).run Tryz.prog w = .ok (.enter gf args) w)
    (hseq : ∀ w', Ext w w' → w.heap.size + 4 ≤ w'.heap.size → SeqOwn 3 Tryz.prog gf lb (fun c => #[chV c]) (KeptM (w.heap.size + 2) (w.heap.size + 4)) xs w') :
    Calls Tryz.prog 64 #[.func (.func gf) #[] lb, fewerF] w fun e w' => e = .returned (.tuple #[chV (pickB fewCh zeroCh xs).1, .int .i64 xs.length]) ∧ Ext w w' := by
  refine (callsIn_wide (n := 4)).1 (callsIn_of_wp_marks Tryz.func64 rfl trivial ?_ rfl)
  simp only [Tryz.ntmps64, List.size_toArray, List.length_cons, List.length_nil, Nat.reduceAdd, Nat.reduceSub, Array.replicate_succ, Array.replicate_zero, List.push_toArray, List.append_toArray, List.nil_append, List.cons_append]
  refine wpIn_wide.2 ?_
  unfold fewerF
  go_wp2
  obtain ⟨W0, hW0⟩ : ∃ W0, W0 = ((((w.alloc (.cells #[.func (.func 67) #[] #[]] 128)).alloc (.cells #[.int .i64 0, .int .i64 0] 120)).alloc (.cells #[.int .i64 0, .int .i64 0] 120)).alloc (.cells #[.int .i64 0] 3)) := ⟨_, rfl⟩
  have x0 : Ext w W0 := by rw [hW0]; exact (((ext_alloc _ _).alloc _).alloc _).alloc _
  have z0 : W0.heap.size = w.heap.size + 4 := by rw [hW0]; simp
  have c0 : BestJ W0 w.heap.size (w.heap.size + 2) (w.heap.size + 3) fewerF (pickB fewCh zeroCh []) W0 :=
    ⟨⟨by rw [hW0]; simp [go_sem, pickB], by rw [hW0]; simp [go_sem, pickB]⟩, fun o => by rw [hW0]; simp [go_sem], by rw [hW0]; simp [go_sem, pickB], by rw [hW0]; simp [go_sem], by rw [hW0]; simp [go_sem, fewerF], Below.refl _ _⟩
  have r0 : Cells2 W0 (w.heap.size + 1) zeroCh := ⟨by rw [hW0]; simp [go_sem], by rw [hW0]; simp [go_sem]⟩
  have rf : ∀ o, W0.frozen? ⟨w.heap.size + 1, o, none⟩ = false := fun o => by rw [hW0]; simp [go_sem]
  rw [← hW0]
  clear hW0
  have hsq := hseq W0 x0 (by omega)
  refine (wpIn_wide (n := 4)).1 ?_
  refine wpIn_seqOwn (by omega) rfl heg hsq (fun h k => KeptM.trans h k) ?kb (Below.refl _ _) (fun _ => rfl)
    (fun pre W => BestJ W0 w.heap.size (w.heap.size + 2) (w.heap.size + 3) fewerF (pickB fewCh zeroCh pre) W) ?hI c0
    (fun x a' W => ∃ tb, w.heap.size + 4 ≤ tb ∧ a' = { tmps := #[.func (.func gf) #[] lb, .func (.func 67) #[] #[], undef, .pointer (some ⟨w.heap.size, 0, none⟩), .pointer (some ⟨w.heap.size + 1, 0, none⟩), .int .i64 0, .pointer (some ⟨w.heap.size + 1 + 1, 0, none⟩), .pointer (some ⟨w.heap.size + 1 + 1 + 1, 0, none⟩), .pointer (some ⟨tb, 0, none⟩), .func (.func gf) #[] lb, chV x, undef, undef, undef, undef, undef, undef, undef, undef, undef, undef, undef, undef, undef], defers := [] } ∧ Cells2 W tb x) ?hAx ?assign ?body ?done
  case kb => exact fun W l o o' hl h hc _ => KeptM.putObj h hc (by omega)
  case hI => exact fun s A B hx h => h.later hx (by omega) (by omega) (by omega)
  case hAx =>
    rintro x a' A l o' hl ⟨o, ho, hc⟩ ⟨tb, h1, h2, h3⟩
    have hk : KeptO 0 0 A (A.putObj l o') := KeptO.putObj ho hc
    exact ⟨tb, h1, h2, hk.cell (.inr (Nat.zero_le _)) h3.c0, hk.cell (.inr (Nat.zero_le _)) h3.c1⟩
  case assign =>
    intro l pre x W K hI hK
    have hz := hI.ext.size
    unfold chV
    gi_wp2
    refine hK _ _ ((KeepsOthers.alloc _ _).from _) ((ext_alloc _ _).keptM _ _) (hI.later ((ext_alloc _ _).below) (by omega) (by omega) (by omega)) ⟨W.heap.size, by omega, rfl, ⟨by simp [go_sem], by simp [go_sem]⟩⟩
  case body =>
    rintro l pre x a' W hI ⟨tb, htb, rfl, htc⟩ hpre
    have hz := hI.ext.size
    have hple : pre.length < xs.length := by have := hpre.length_le; simp at this; omega
    have hpm := pickB_many fewCh zeroCh pre
    have hnext := pickB_snoc fewCh zeroCh pre x
    generalize hs : pickB fewCh zeroCh pre = st at *
    obtain ⟨sf, sm⟩ := st
    simp only at hpm hnext
    subst hpm
    have Hnext := Lib.hid hnext
    have Hpre := Lib.hid hpre
    have hIk := hI
    obtain ⟨⟨h1, h1'⟩, h2, h3, h4, h5, h6⟩ := hI
    simp only at h1 h1' h3
    have f0 : W.cell? ⟨w.heap.size + 1 + 1, 0, none⟩ = some (.int .i64 (sf.1 : Nat)) := h1
    have f1 : W.cell? ⟨w.heap.size + 1 + 1, 1, none⟩ = some (.int .i64 (sf.2 : Nat)) := h1'
    have ff : ∀ o, W.frozen? ⟨w.heap.size + 1 + 1, o, none⟩ = false := h2
    have g0 : W.cell? ⟨w.heap.size + 1 + 1 + 1, 0, none⟩ = some (.int .i64 pre.length) := h3
    have gf' : W.frozen? ⟨w.heap.size + 1 + 1 + 1, 0, none⟩ = false := h4
    obtain ⟨t0, t1⟩ := htc
    have wp : IntKind.i64.wrap ((pre.length : Int) + 1) = (pre.length : Int) + 1 := IntWalk.i64_in _ (by omega)
    clear hnext hpre hs h1 h1' h2 h3 h4 hseq hsq c0 r0 rf hxs
    unfold chV fewerF at *
    by_cases hp0 : pre.length = 0
    · have k0 : ((pre.length : Int) == 0) = true := by simp [hp0]
      have Hp0 := Lib.hid hp0
      clear hp0
      gi_wp2
      refine ⟨fun _ h => (by cases h), ?_⟩
      gi_wp2
      show goesOn _ _ _ _ _ .normal _ ((set2 W (w.heap.size + 2) x).setCell ⟨w.heap.size + 3, 0, none⟩ (.int .i64 ((pre.length : Int) + 1)))
      refine ⟨set2_keeps.trans ((KeepsOthers.setCell _ _ _).from _), (set2_kept (KeptM.refl _ _ _) (by omega) (by omega) x).setIn (by simp) (by simp) _, ?_⟩
      show BestJ _ _ _ _ _ (pickB fewCh zeroCh (pre ++ [x])) _
      rw [Hnext.out, if_pos (.inl Hp0.out)]
      exact (hIk.took (by omega) (by omega) x).kept (by omega) (by omega)
    · have k0 : ((pre.length : Int) == 0) = false := by simpa using hp0
      have Hp0 := Lib.hid hp0
      clear hp0
      have hbf := fun w => fewCh_any x sf w
      unfold chV at hbf
      gi_wp2_with fail
      refine ⟨trivial, ?_⟩
      refine (CallsIn.inRound l (callsIn_wide.2 (hbf W))).mono ?_
      rintro e w1 ⟨rfl, hx1⟩
      replace f0 := hx1.cell f0
      replace f1 := hx1.cell f1
      replace t0 := hx1.cell t0
      replace t1 := hx1.cell t1
      replace ff : ∀ o, w1.frozen? ⟨w.heap.size + 1 + 1, o, none⟩ = false := fun o => (hx1.frozen (p := ⟨w.heap.size + 1 + 1, o, none⟩) (by have := cell_lt g0; simp at this ⊢; omega)).trans (ff o)
      replace g0 := hx1.cell g0
      replace gf' : w1.frozen? ⟨w.heap.size + 1 + 1 + 1, 0, none⟩ = false := (hx1.frozen (p := ⟨w.heap.size + 1 + 1 + 1, 0, none⟩) (by simp; omega)).trans gf'
      have hI1 := hIk.later hx1.below (by omega) (by omega) (by omega)
      have hz1 := hx1.size
      cases hb : fewCh x sf
      · have Hb := Lib.hid hb
        clear hb hbf
        gi_wp2
        show goesOn _ _ _ _ _ .normal _ (w1.setCell ⟨w.heap.size + 3, 0, none⟩ (.int .i64 ((pre.length : Int) + 1)))
        refine ⟨(hx1.keepsFrom _).trans ((KeepsOthers.setCell _ _ _).from _), (hx1.keptM _ _).setIn (by simp) (by simp) _, ?_⟩
        show BestJ _ _ _ _ _ (pickB fewCh zeroCh (pre ++ [x])) _
        rw [Hnext.out, if_neg (by rintro (h | h); exact Hp0.out h; rw [Hb.out] at h; cases h)]
        exact hI1.kept (by omega) (by omega)
      · have Hb := Lib.hid hb
        clear hb hbf
        gi_wp2
        show goesOn _ _ _ _ _ .normal _ ((set2 w1 (w.heap.size + 2) x).setCell ⟨w.heap.size + 3, 0, none⟩ (.int .i64 ((pre.length : Int) + 1)))
        refine ⟨(hx1.keepsFrom _).trans (set2_keeps.trans ((KeepsOthers.setCell _ _ _).from _)), (set2_kept (hx1.keptM _ _) (by omega) (by omega) x).setIn (by simp) (by simp) _, ?_⟩
        show BestJ _ _ _ _ _ (pickB fewCh zeroCh (pre ++ [x])) _
        rw [Hnext.out, if_pos (.inr Hb.out)]
        exact (hI1.took (by omega) (by omega) x).kept (by omega) (by omega)
  case done =>
    intro D W hD hI hDm
    have hz := hI.ext.size
    have hpm := pickB_many fewCh zeroCh xs
    generalize hs : pickB fewCh zeroCh xs = st at *
    obtain ⟨sf, sm⟩ := st
    simp only at hpm
    subst hpm
    obtain ⟨⟨h1, h1'⟩, h2, h3, h4, h5, h6⟩ := hI
    simp only at h1 h1' h3
    have f0 : W.cell? ⟨w.heap.size + 1 + 1, 0, none⟩ = some (.int .i64 (sf.1 : Nat)) := h1
    have f1 : W.cell? ⟨w.heap.size + 1 + 1, 1, none⟩ = some (.int .i64 (sf.2 : Nat)) := h1'
    have g0 : W.cell? ⟨w.heap.size + 1 + 1 + 1, 0, none⟩ = some (.int .i64 xs.length) := h3
    have hr : Cells2 W (w.heap.size + 1) zeroCh := ⟨(h6.cell (p := ⟨w.heap.size + 1, 0, none⟩) (by simp)).trans r0.c0, (h6.cell (p := ⟨w.heap.size + 1, 1, none⟩) (by simp)).trans r0.c1⟩
    have q0 := hr.c0
    have q1 := hr.c1
    have hrf : ∀ o, W.frozen? ⟨w.heap.size + 1, o, none⟩ = false := fun o => (h6.frozen (p := ⟨w.heap.size + 1, o, none⟩) (by simp)).trans (rf o)
    have xW : Ext w W := ⟨h6.os.trans x0.os, h6.tape.trans x0.tape, h6.output.trans x0.output, by omega, fun k hk => (h6.block k (by omega)).trans (x0.block k hk)⟩
    have hset := set2_cells hr sf
    have hDs : ((set2 W (w.heap.size + 1) sf).drew).heap[D]? = some (.deferred (some [])) := (set2_other (by omega)).trans hDm
    have xs5 : Ext w (set2 W (w.heap.size + 1) sf) := (xW.setCell (p := ⟨w.heap.size + 1, 0, none⟩) (by simp) _).setCell (p := ⟨w.heap.size + 1, 1, none⟩) (by simp) _
    obtain ⟨Ws, hWs⟩ : ∃ Ws, set2 W (w.heap.size + 1) sf = Ws := ⟨_, rfl⟩
    rw [hWs] at hset hDs xs5
    have hgr := grownBy_putObj' Ws.drew D (.deferred none)
    have E0 := Lib.hid (cell_kept (show Ws.drew.cell? ⟨w.heap.size + 1, 0, none⟩ = _ from hset.c0) hgr (fun r e => by cases e; exact ⟨_, hDs, rfl⟩))
    have E1 := Lib.hid (cell_kept (show Ws.drew.cell? ⟨w.heap.size + 1, 1, none⟩ = _ from hset.c1) hgr (fun r e => by cases e; exact ⟨_, hDs, rfl⟩))
    have x5 : Ext w (Ws.drew.putObj D (.deferred none)) := Ext.grown xs5.drew hgr (fun r e => by cases e; omega)
    have HD := Lib.hid hDs
    have HX := Lib.hid x5
    unfold set2 at hWs
    have HWs := Lib.hid hWs
    clear hset hDs hgr xs5 x5 hseq hsq c0 r0 rf h1 h1' h2 h3 h4 h5 h6 hr hWs
    simp only [Int.natCast_zero] at q0 q1
    go_wp2_with fail
    go_region
    go_wp2
    rw [HWs.out]
    refine ⟨by simp, .inl ⟨D, _, rfl, run_takeDeferred HD.out, ?_⟩⟩
    have e0 := E0.out
    have e1 := E1.out
    have hx := HX.out
    generalize (Ws.drew.putObj D (.deferred none)) = Wf at *
    refine ⟨.tuple #[chV sf, .int .i64 xs.length], by simp [results, Tryz.results64, go_sem, e0, e1, chV], by rw [hs], hx⟩
end Go.Proofs.YtcamegaimleomaaGreat

namespace Go.Proofs.YtcamegaimleomaaGreat
set_option linter.unusedSimpArgs false
set_option linter.unusedVariables false
open Go.RowKit
set_option linter.unusedVariables false
set_option linter.unusedSimpArgs false
namespace Facts.Dep
open Facts.Piv (Two anyS opS any_of_anyS opS_of_stepG pivotB pivotB_spec)

variable {P : Program} {ops : Array Oper}

def upd (vs : Nat → Value) (i : Nat) (v : Value) : Nat → Value := fun j => if j = i then v else vs j
theorem upon_mono {S T : Value → World → Prop} (h : ∀ u w, S u w → T u w) : ∀ r : Result Next, upon P S r → upon P T r
  | .ok (.value v) w', hh => h _ _ hh
  | .ok .skip w', hh => h _ _ hh
  | .ok (.enter f args) w', hh => Calls.mono hh fun e w'' ⟨v, he, hs⟩ => ⟨v, he, h _ _ hs⟩
  | .halt _ _, hh => hh.elim
theorem stepG_mono {o : Oper} {a : Act} {w : World} {S T : Value → World → Prop} (hh : stepG P ops o a w S) (h : ∀ u w, S u w → T u w) : stepG P ops o a w T := by
  unfold stepG at *
  split
  · rename_i hw; rw [if_pos hw] at hh; exact upon_mono h _ hh
  · rename_i hw; rw [if_neg hw] at hh; exact h _ _ hh
theorem any_facts {E C : World → World → Prop} (T : Two E C) (p : Nat) (hp : pivotB ops p = true ∨ ∀ a b, C a b → E a b) {Q : Exit → Act → World → Prop} {a : Act} {w : World} (Φ : Nat → (Nat → Value) → World → Prop) (fix : Nat → Option Value) (hfix : ∀ i v vs w, fix i = some v → Φ i vs w → vs i = v) (hloc : ∀ i vs us w, i < ops.size → (∀ j, j = i ∨ (depsOf ops ops.size i).contains j = true → vs j = us j) → Φ i vs w → Φ i us w) (hB : okB ops = true)
    (hkeep : ∀ i vs w1 w2, i < ops.size → E w1 w2 → Φ i vs w1 → Φ i vs w2) (hkeepC : ∀ i vs w1 w2, i < ops.size → (depsOf ops ops.size p).contains i = true → C w1 w2 → Φ i vs w1 → Φ i vs w2)
    (hops : ∀ i o, ops[i]? = some o → ∀ (vs : Nat → Value) w1, (∀ j v, fix j = some v → vs j = v) → ((depsOf ops ops.size i).contains p = false → E w w1) → C w w1 → (∀ j ∈ depsOf ops ops.size i, Φ j vs w1) → stepG P ops o (acts ops a vs (fun _ => true) i) w1 (fun u w2 => (if i = p then C w1 w2 else E w1 w2) ∧ Φ i (upd vs i u) w2))
    (hend : ∀ (vs : Nat → Value) w1, (∀ j v, fix j = some v → vs j = v) → C w w1 → (∀ i, i < ops.size → Φ i vs w1) → Q .normal (acts ops a vs (fun _ => true) ops.size) w1) : anyS P ops Q ops.size (Array.replicate ops.size false) a { w with drawn := w.drawn + 1 } := by
  have hsel : ∀ (j : Nat) (o : Oper) cs b, ops[j]? = some o → o.op ≠ .select cs b := by
    have h2 := hB
    simp only [okB, Bool.and_eq_true] at h2
    exact Region.noSelect_spec h2.1
  suffices key : ∀ (fuel : Nat) (listed : Array Bool) (vs : Nat → Value) (w1 : World), (∀ j v, fix j = some v → vs j = v) → listed.size = ops.size → listed.toList.count true + fuel = ops.size → (listed.getD p false = false → E w w1) → C w w1 →
      (∀ j, listed.getD j false = true → ∀ i ∈ direct ops j, listed.getD i false = true) → (∀ j, j < ops.size → listed.getD j false = true → Φ j vs w1) →
      anyS P ops Q fuel listed (acts ops a vs (fun j => listed.getD j false) ops.size) w1 by
    have h0 := key ops.size (Array.replicate ops.size false) (fun j => (fix j).getD undef) { w with drawn := w.drawn + 1 } (fun j v h => by simp [h]) (by simp) (by simp [List.count_replicate]) (fun _ => T.d w) (T.sub _ _ (T.d w))
      (fun j hj => by rw [getD_rep] at hj; cases hj) (fun j _ hj => by rw [getD_rep] at hj; cases hj)
    have e : acts ops a (fun j => (fix j).getD undef) (fun j => (Array.replicate ops.size false).getD j false) ops.size = a := by
      have : ∀ n, acts ops a (fun j => (fix j).getD undef) (fun j => (Array.replicate ops.size false).getD j false) n = a := by
        intro n
        induction n with
        | zero => rfl
        | succ n ih => simp only [acts]; rw [if_neg (by rw [getD_rep]; exact Bool.false_ne_true)]; exact ih
      exact this _
    rw [e] at h0
    exact h0
  intro fuel
  have hdone : ∀ (listed : Array Bool) (vs : Nat → Value) (w1 : World), (∀ j v, fix j = some v → vs j = v) → (∀ j, j < ops.size → listed.getD j false = true) → C w w1 → (∀ j, j < ops.size → listed.getD j false = true → Φ j vs w1) →
      Q .normal (acts ops a vs (fun j => listed.getD j false) ops.size) w1 := by
    intro listed vs w1 hfx hall hx hΦ
    have := hend vs w1 hfx hx fun i hi => hΦ i hi (hall i hi)
    rwa [acts_congr a vs vs (fun _ => true) (fun j => listed.getD j false) ops.size fun j hj => ⟨(hall j hj).symm, fun _ => rfl⟩] at this
  induction fuel with
  | zero =>
    intro listed vs w1 hfx hsz hc hxE hx hcl hΦ
    have hall : ∀ j, j < ops.size → listed.getD j false = true := by
      intro j hj
      have hlen : listed.toList.count true = listed.toList.length := by simp only [Array.length_toList]; omega
      have := List.count_eq_length.1 hlen (listed[j]'(by omega)) (by simp)
      rw [Array.getD_eq_getD_getElem?, Array.getElem?_eq_getElem (by omega)]
      exact this.symm
    refine ⟨?_, hdone listed vs w1 hfx hall hx hΦ⟩
    rw [List.eq_nil_iff_forall_not_mem]
    intro i hi
    have hi1 := (mem_ready.1 hi)
    obtain ⟨o, ho, -⟩ := hi1.2
    have hlt : i < ops.size := (Array.getElem?_eq_some_iff.1 ho).1
    have h1 := hall i hlt
    have h2 := hi1.1
    rw [Array.getD_eq_getD_getElem?, Array.getElem?_eq_getElem (by omega)] at h1 h2
    simp only [Option.getD_some] at h1 h2
    rw [h1] at h2; cases h2
  | succ fuel ih =>
    intro listed vs w1 hfx hsz hc hxE hx hcl hΦ
    refine ⟨fun h => hdone listed vs w1 hfx (all_listed hB hsz h) hx hΦ, fun i hi => ?_⟩
    obtain ⟨hi0, o, ho, hafter⟩ := mem_ready.1 hi
    have hlt : i < ops.size := (Array.getElem?_eq_some_iff.1 ho).1
    have hnot : listed.getD i false = false := by
      rw [Array.getD_eq_getD_getElem?, Array.getElem?_eq_getElem (by omega)] at hi0 ⊢
      exact hi0
    have hdir := direct_ready ho hafter
    have hdeps := dep_in hcl ops.size i hdir
    have hdl : ∀ j ∈ depsOf ops ops.size i, j < ops.size := fun j hj => by
      have := hdeps j hj
      rcases Nat.lt_or_ge j listed.size with h' | h'
      · omega
      · simp [Array.getD_eq_getD_getElem?, Array.getElem?_eq_none h'] at this
    have hnp : pivotB ops p = true → (depsOf ops ops.size i).contains p = false → i ≠ p → listed.getD p false = false := fun hp hcp hip => by
      cases hlp : listed.getD p false with
      | false => rfl
      | true =>
        exfalso
        rcases pivotB_spec hp i hlt hip with h | h
        · have := dep_in hcl ops.size p (hcl p hlp) i h
          rw [hnot] at this; cases this
        · rw [← List.contains_iff_mem, hcp] at h; cases h
    have hxE' : (depsOf ops ops.size i).contains p = false → E w w1 := fun hcp => by
      rcases hp with hp | hp
      · by_cases hip : i = p
        · exact hxE (by rw [← hip]; exact hnot)
        · exact hxE (hnp hp hcp hip)
      · exact hp _ _ hx
    have hst := hops i o ho vs w1 hfx hxE' hx fun j hj => hΦ j (hdl j hj) (hdeps j hj)
    -- a later one that has come up is apart from this one
    have hlater : ∀ j, i < j → j < ops.size → listed.getD j false = true → apartB ops i j = true := fun j h1 h2 h3 =>
      ((okB_spec hB j h2).2 i h1).resolve_right fun hmem => by
        have := dep_in hcl ops.size j (hcl j h3) i hmem
        rw [hnot] at this; cases this
    have hearlier : ∀ j, j < i → listed.getD j false = false → apartB ops j i = true := fun j h1 h3 =>
      ((okB_spec hB i hlt).2 j h1).resolve_right fun hmem => by
        have := hdeps j hmem
        rw [h3] at this; cases this
    have hacts : ∀ n, i ≤ n → n ≤ ops.size → ∀ t, t ∈ o.looksAt ops → (acts ops a vs (fun j => listed.getD j false) n).tmps[t]? = (acts ops a vs (fun _ => true) i).tmps[t]? := by
      intro n hin
      obtain ⟨k, rfl⟩ := Nat.exists_eq_add_of_le hin
      clear hin
      induction k with
      | zero =>
        intro _ t ht
        refine acts_slot a vs _ _ t i fun j hj hd => ?_
        cases hl : listed.getD j false with
        | true => rfl
        | false =>
          have hap := hearlier j hj hl
          have hoj : ops[j]? = some (ops[j]'(by omega)) := by simp [show j < ops.size from by omega]
          rw [hoj] at hd
          simp only [apartB, hoj, ho] at hap
          exact absurd ht ((Oper.apart_spec hap).1 t hd)
      | succ k ih2 =>
        intro hle t ht
        have ih2 := ih2 (by omega) t ht
        obtain ⟨n, hn⟩ : ∃ n, n = i + k := ⟨_, rfl⟩
        rw [← hn] at ih2
        rw [show i + (k + 1) = n + 1 from by omega]
        simp only [acts]
        by_cases hl : listed.getD n false = true
        · rw [if_pos hl]
          have hni : i ≠ n := fun e => by subst e; rw [hnot] at hl; cases hl
          have hap := hlater n (by omega) (by omega) hl
          have hon : ops[n]? = some (ops[n]'(by omega)) := by simp [show n < ops.size from by omega]
          simp only [apartB, hon, ho] at hap
          rw [put_other _ _ _ _ (fun hd => (Oper.apart_spec hap).2.2 t (by rw [hon] at hd; exact hd) ht)]
          exact ih2
        · rw [if_neg hl]; exact ih2
    have hst2 : stepG P ops o (acts ops a vs (fun j => listed.getD j false) ops.size) w1 (fun u w2 => (if i = p then C w1 w2 else E w1 w2) ∧ Φ i (upd vs i u) w2) :=
      stepG_same (hsel i o · · ho) (fun t ht => (hacts ops.size (by omega) (Nat.le_refl _) t ht).symm) hst
    refine opS_of_stepG ho hst2 ?_
    rintro v w2 ⟨hx2, hv⟩
    have hod : (ops[i]?).bind (·.dst) = o.dst := by rw [ho]; rfl
    rw [← hod, acts_put a vs (fun j => listed.getD j false) i v hnot ops.size hlt (fun j h1 h2 h3 d hd hd2 => by
      have hap := hlater j h1 h2 h3
      have hoj : ops[j]? = some (ops[j]'h2) := by simp [h2]
      simp only [apartB, hoj, ho] at hap
      rw [ho] at hd; rw [hoj] at hd2
      exact (Oper.apart_spec hap).2.1 d hd hd2)]
    have hget : ∀ j, (listed.setIfInBounds i true).getD j false = (listed.getD j false || decide (j = i)) := by
      intro j
      by_cases hji : j = i
      · subst hji; simp [Array.getD_eq_getD_getElem?, show j < listed.size from by omega]
      · rw [getD_set_ne false (Ne.symm hji)]; simp [hji]
    have := ih (listed.setIfInBounds i true) (upd vs i v) w2 (fun j u hj => by
        by_cases hji : j = i
        · subst hji; exact hfix j u _ w2 hj hv
        · simpa [upd, hji] using hfx j u hj) (by simpa using hsz) (by
        rw [Array.toList_setIfInBounds, List.count_set (by simpa using (by omega : i < listed.size))]
        have e : (listed.toList[i]'(by simpa using (by omega : i < listed.size))) = false := by
          rw [Array.getD_eq_getD_getElem?, Array.getElem?_eq_getElem (by omega)] at hnot
          simpa using hnot
        have e' : (listed.toList[i]'(by simpa using (by omega : i < listed.size)) == true) = false := by rw [e]; rfl
        rw [e']; simp only [Bool.false_eq_true, if_false, beq_self_eq_true, if_true]; omega) (fun hl => by
          rw [hget] at hl
          simp only [Bool.or_eq_false_iff, decide_eq_false_iff_not] at hl
          rw [if_neg (fun e => hl.2 e.symm)] at hx2
          exact T.te _ _ _ (hxE hl.1) hx2) (by
          split at hx2
          · exact T.tc _ _ _ hx hx2
          · exact T.tc _ _ _ hx (T.sub _ _ hx2))
      (by
        intro j hj k hk
        rw [hget] at hj ⊢
        by_cases hji : j = i
        · subst hji; rw [hdir k hk]; rfl
        · simp only [hji, decide_false, Bool.or_false] at hj
          rw [hcl j hj k hk]; rfl)
      (by
        intro j hj hl
        by_cases hji : j = i
        · subst hji; exact hv
        · rw [hget] at hl
          simp only [hji, decide_false, Bool.or_false] at hl
          have hnd : (depsOf ops ops.size j).contains i = false := by
            rw [Bool.eq_false_iff, ne_eq, List.contains_iff_mem]
            intro h
            have := dep_in hcl ops.size j (hcl j hl) i h
            rw [hnot] at this; cases this
          have hold : Φ j (upd vs i v) w1 := hloc j vs _ _ hj (fun x hx => by
            unfold upd
            split
            · rename_i hxi
              subst hxi
              rcases hx with hx | hx
              · exact absurd hx.symm hji
              · rw [hnd] at hx; cases hx
            · rfl) (hΦ j hj hl)
          split at hx2
          · rename_i hip
            rcases hp with hp | hp
            · subst hip
              refine hkeepC j _ _ _ hj ?_ hx2 hold
              rw [List.contains_iff_mem]
              refine (pivotB_spec hp j hj hji).resolve_right fun h => ?_
              rw [← List.contains_iff_mem, hnd] at h; cases h
            · exact hkeep j _ _ _ hj (hp _ _ hx2) hold
          · exact hkeep j _ _ _ hj hx2 hold)
    have e2 : (fun j => (listed.setIfInBounds i true).getD j false) = fun j => listed.getD j false || decide (j = i) := funext hget
    rw [e2] at this
    exact this


/-- what is said of an operation: its value; a fact of its value; a fact of its value and of those of earlier ones that it waits for -/
inductive Spec where
  | val (v : Value)
  | fact (f : Value → World → Prop)
  | on (js : List Nat) (f : List Value → Value → World → Prop)
def Spec.holds : Spec → (Nat → Value) → Value → World → Prop
  | .val v, _, u, _ => u = v
  | .fact f, _, u, w => f u w
  | .on js f, vs, u, w => f (js.map vs) u w
def Spec.fixed : Spec → Option Value
  | .val v => some v
  | _ => none
def Spec.js : Spec → List Nat
  | .on js _ => js
  | _ => []
def locB (ops : Array Oper) : Nat → List Spec → Bool
  | _, [] => true
  | i, s :: r => s.js.all (fun j => (depsOf ops ops.size i).contains j && decide (j < i)) && locB ops (i + 1) r
def look : List (Nat × Value) → Nat → Value
  | [], _ => undef
  | p :: r, j => if p.1 = j then p.2 else look r j
def Walk (E C : World → World → Prop) (p : Nat) (P : Program) (ops : Array Oper) (w : World) (Q : Exit → Act → World → Prop) : Nat → List Oper → List Spec → List (Nat × (World → Prop)) → List (Nat × Value) → Act → Prop
  | _, [], _, env, _, a => ∀ w1, C w w1 → (∀ j f, (j, f) ∈ env → f w1) → Q .normal a w1
  | _, _ :: _, [], _, _, _ => False
  | i, o :: rest, .val v :: ss, env, us, a => (∀ w1, ((depsOf ops ops.size i).contains p = false → E w w1) → C w w1 → Have ops i env w1 → stepG P ops o a w1 (fun u w2 => (if i = p then C w1 w2 else E w1 w2) ∧ u = v)) ∧ Walk E C p P ops w Q (i + 1) rest ss env ((i, v) :: us) (a.put o.dst v)
  | i, o :: rest, .fact f :: ss, env, us, a => (∀ w1, ((depsOf ops ops.size i).contains p = false → E w w1) → C w w1 → Have ops i env w1 → stepG P ops o a w1 (fun u w2 => (if i = p then C w1 w2 else E w1 w2) ∧ f u w2)) ∧ ∀ u, Walk E C p P ops w Q (i + 1) rest ss ((i, f u) :: env) ((i, u) :: us) (a.put o.dst u)
  | i, o :: rest, .on js f :: ss, env, us, a => (∀ w1, ((depsOf ops ops.size i).contains p = false → E w w1) → C w w1 → Have ops i env w1 → stepG P ops o a w1 (fun u w2 => (if i = p then C w1 w2 else E w1 w2) ∧ f (js.map (look us)) u w2)) ∧ ∀ u, Walk E C p P ops w Q (i + 1) rest ss ((i, f (js.map (look us)) u) :: env) ((i, u) :: us) (a.put o.dst u)
def keepsS (E C : World → World → Prop) (ops : Array Oper) (p : Nat) : Nat → List Spec → Prop
  | _, [] => True
  | i, .val _ :: r => keepsS E C ops p (i + 1) r
  | i, .fact f :: r => (∀ u w1 w2, E w1 w2 → f u w1 → f u w2) ∧ ((depsOf ops ops.size p).contains i = true → ∀ u w1 w2, C w1 w2 → f u w1 → f u w2) ∧ keepsS E C ops p (i + 1) r
  | i, .on _ f :: r => (∀ l u w1 w2, E w1 w2 → f l u w1 → f l u w2) ∧ ((depsOf ops ops.size p).contains i = true → ∀ l u w1 w2, C w1 w2 → f l u w1 → f l u w2) ∧ keepsS E C ops p (i + 1) r
theorem keepsS_get {E C : World → World → Prop} {p : Nat} : ∀ (ss : List Spec) (k i : Nat) (s : Spec), keepsS E C ops p k ss → ss[i]? = some s →
    (∀ vs u w1 w2, E w1 w2 → s.holds vs u w1 → s.holds vs u w2) ∧ ((depsOf ops ops.size p).contains (k + i) = true → ∀ vs u w1 w2, C w1 w2 → s.holds vs u w1 → s.holds vs u w2)
  | [], _, _, _, _, h => by simp at h
  | .val v :: r, k, 0, s, _, h => by simp at h; subst h; exact ⟨fun _ _ _ _ _ h => h, fun _ _ _ _ _ _ h => h⟩
  | .val v :: r, k, i + 1, s, hk, h => by
    have := keepsS_get r (k + 1) i s hk (by simpa using h)
    rwa [show k + 1 + i = k + (i + 1) from by omega] at this
  | .fact f :: r, k, 0, s, hk, h => by simp at h; subst h; exact ⟨fun _ => hk.1, fun hc _ => hk.2.1 hc⟩
  | .fact f :: r, k, i + 1, s, hk, h => by
    have := keepsS_get r (k + 1) i s hk.2.2 (by simpa using h)
    rwa [show k + 1 + i = k + (i + 1) from by omega] at this
  | .on js f :: r, k, 0, s, hk, h => by simp at h; subst h; exact ⟨fun vs => hk.1 (js.map vs), fun hc vs => hk.2.1 hc (js.map vs)⟩
  | .on js f :: r, k, i + 1, s, hk, h => by
    have := keepsS_get r (k + 1) i s hk.2.2 (by simpa using h)
    rwa [show k + 1 + i = k + (i + 1) from by omega] at this
theorem locB_get : ∀ (ss : List Spec) (k i : Nat) (s : Spec), locB ops k ss = true → ss[i]? = some s → ∀ j ∈ s.js, (depsOf ops ops.size (k + i)).contains j = true ∧ j < k + i
  | [], _, _, _, _, h => by simp at h
  | s0 :: r, k, 0, s, hl, h => by
    simp at h; subst h
    simp only [locB, Bool.and_eq_true, List.all_eq_true] at hl
    intro j hj
    have := hl.1 j hj
    simpa using this
  | s0 :: r, k, i + 1, s, hl, h => by
    simp only [locB, Bool.and_eq_true] at hl
    have := locB_get r (k + 1) i s hl.2 (by simpa using h)
    rwa [show k + 1 + i = k + (i + 1) from by omega] at this
theorem holds_loc {s : Spec} {vs us : Nat → Value} {u : Value} {w : World} (h : ∀ j ∈ s.js, vs j = us j) (hh : s.holds vs u w) : s.holds us u w := by
  cases s with
  | val v => exact hh
  | fact f => exact hh
  | on js f =>
    have e : js.map vs = js.map us := List.map_congr_left h
    show f (js.map us) u w
    rw [← e]; exact hh

theorem walk_at {E C : World → World → Prop} {p : Nat} {w : World} {Q : Exit → Act → World → Prop} {a0 : Act} (ss : List Spec) (hlb : locB ops 0 ss = true) (vs : Nat → Value) (hfx : ∀ j s v, ss[j]? = some s → s.fixed = some v → vs j = v) :
    ∀ (n k : Nat) (rest : List Oper) (env : List (Nat × (World → Prop))) (us : List (Nat × Value)) (a : Act), n + k = ops.size → (∀ j, rest[j]? = ops[k + j]?) → rest.length = n → a = acts ops a0 vs (fun _ => true) k →
      (∀ j q, (j, q) ∈ env → ∃ s, ss[j]? = some s ∧ j < k ∧ q = s.holds vs (vs j)) → (∀ j s, ss[j]? = some s → s.fixed = none → j < k → (j, s.holds vs (vs j)) ∈ env) → (∀ j, j < k → look us j = vs j) → Walk E C p P ops w Q k rest (ss.drop k) env us a →
      (∀ i o, k ≤ i → ops[i]? = some o → ∃ s, ss[i]? = some s ∧ ∀ w1, ((depsOf ops ops.size i).contains p = false → E w w1) → C w w1 → (∀ j ∈ depsOf ops ops.size i, j < i → ∀ s, ss[j]? = some s → s.holds vs (vs j) w1) → stepG P ops o (acts ops a0 vs (fun _ => true) i) w1 (fun u w2 => (if i = p then C w1 w2 else E w1 w2) ∧ s.holds vs u w2)) ∧
      (∀ w1, C w w1 → (∀ i s, i < ops.size → ss[i]? = some s → s.holds vs (vs i) w1) → Q .normal (acts ops a0 vs (fun _ => true) ops.size) w1) := by
  intro n
  induction n with
  | zero =>
    intro k rest env us a hk hr hl ha henv henv2 hus hw
    obtain rfl : rest = [] := List.length_eq_zero_iff.1 hl
    have e : k = ops.size := by omega
    subst e
    refine ⟨fun i o hi ho => by have := (Array.getElem?_eq_some_iff.1 ho).1; omega, fun w1 hx hall => ?_⟩
    simp only [Walk] at hw
    rw [← ha]
    refine hw w1 hx fun j q hq => ?_
    obtain ⟨s, hs, hj, rfl⟩ := henv j q hq
    exact hall j s hj hs
  | succ n ih =>
    intro k rest env us a hk hr hl ha henv henv2 hus hw
    obtain ⟨o, rest, rfl⟩ : ∃ o r, rest = o :: r := by cases rest with | nil => simp at hl | cons o r => exact ⟨o, r, rfl⟩
    have hok : ops[k]? = some o := by simpa using (hr 0).symm
    have hact : ∀ v, vs k = v → a.put o.dst v = acts ops a0 vs (fun _ => true) (k + 1) := fun v hv => by
      simp only [acts, if_true]; rw [← ha, hok, hv]; rfl
    cases hs : ss[k]? with
    | none =>
      rw [List.drop_eq_nil_of_le (by rcases Nat.lt_or_ge k ss.length with h | h; · rw [List.getElem?_eq_getElem h] at hs; cases hs
                                     · exact h)] at hw
      simp only [Walk] at hw
    | some s =>
      have hlt : k < ss.length := (List.getElem?_eq_some_iff.1 hs).1
      rw [List.drop_eq_getElem_cons hlt, (List.getElem?_eq_some_iff.1 hs).2] at hw
      have hlean : ∀ w1, (∀ j ∈ depsOf ops ops.size k, j < k → ∀ s, ss[j]? = some s → s.holds vs (vs j) w1) → Have ops k env w1 := by
        intro w1 h j q hq hc
        obtain ⟨s, hs, hj, rfl⟩ := henv j q hq
        exact h j (by simpa using hc) hj s hs
      have hr' : ∀ j, rest[j]? = ops[k + 1 + j]? := fun j => by have := hr (j + 1); simpa [Nat.add_assoc, Nat.add_comm 1 j] using this
      have hus' : ∀ v, vs k = v → ∀ j, j < k + 1 → look ((k, v) :: us) j = vs j := fun v hv j hj => by
        simp only [look]
        split
        · rename_i e; rw [← e, hv]
        · rename_i e; exact hus j (by omega)
      have hmap : s.js.map (look us) = s.js.map vs := List.map_congr_left fun j hj => hus j (by have := (locB_get ss 0 k s hlb hs j hj).2; omega)
      cases s with
      | val v =>
        simp only [Walk] at hw
        have hv : vs k = v := hfx k _ v hs rfl
        obtain ⟨h1, h2⟩ := ih (k + 1) rest env _ _ (by omega) hr' (by simpa using hl) (hact v hv) (fun j q hq => by obtain ⟨s, hs, hj, e⟩ := henv j q hq; exact ⟨s, hs, by omega, e⟩)
          (fun j s hs' hf hj => henv2 j s hs' hf (by rcases Nat.lt_or_ge j k with h | h; · exact h
                                                     · obtain rfl : j = k := by omega
                                                       rw [hs] at hs'; cases hs'; cases hf)) (hus' v hv) hw.2
        refine ⟨fun i o' hi ho => ?_, h2⟩
        rcases Nat.lt_or_ge k i with hik | hik
        · exact h1 i o' (by omega) ho
        · obtain rfl : i = k := by omega
          rw [hok] at ho; cases ho
          exact ⟨_, hs, fun w1 hE hx hd => by rw [← ha]; exact hw.1 w1 hE hx (hlean w1 hd)⟩
      | fact f =>
        simp only [Walk] at hw
        obtain ⟨h1, h2⟩ := ih (k + 1) rest _ _ _ (by omega) hr' (by simpa using hl) (hact (vs k) rfl)
          (fun j q hq => by
            rcases List.mem_cons.1 hq with e | hq
            · cases e; exact ⟨_, hs, by omega, rfl⟩
            · obtain ⟨s, hs, hj, e⟩ := henv j q hq; exact ⟨s, hs, by omega, e⟩)
          (fun j s hs' hf hj => by
            rcases Nat.lt_or_ge j k with h | h
            · exact List.mem_cons_of_mem _ (henv2 j s hs' hf h)
            · obtain rfl : j = k := by omega
              rw [hs] at hs'; cases hs'; exact List.mem_cons_self) (hus' _ rfl) (hw.2 (vs k))
        refine ⟨fun i o' hi ho => ?_, h2⟩
        rcases Nat.lt_or_ge k i with hik | hik
        · exact h1 i o' (by omega) ho
        · obtain rfl : i = k := by omega
          rw [hok] at ho; cases ho
          exact ⟨_, hs, fun w1 hE hx hd => by rw [← ha]; exact hw.1 w1 hE hx (hlean w1 hd)⟩
      | on js f =>
        simp only [Walk] at hw
        simp only [Spec.js] at hmap
        rw [hmap] at hw
        obtain ⟨h1, h2⟩ := ih (k + 1) rest _ _ _ (by omega) hr' (by simpa using hl) (hact (vs k) rfl)
          (fun j q hq => by
            rcases List.mem_cons.1 hq with e | hq
            · cases e; exact ⟨_, hs, by omega, rfl⟩
            · obtain ⟨s, hs, hj, e⟩ := henv j q hq; exact ⟨s, hs, by omega, e⟩)
          (fun j s hs' hf hj => by
            rcases Nat.lt_or_ge j k with h | h
            · exact List.mem_cons_of_mem _ (henv2 j s hs' hf h)
            · obtain rfl : j = k := by omega
              rw [hs] at hs'; cases hs'; exact List.mem_cons_self) (hus' _ rfl) (hw.2 (vs k))
        refine ⟨fun i o' hi ho => ?_, h2⟩
        rcases Nat.lt_or_ge k i with hik | hik
        · exact h1 i o' (by omega) ho
        · obtain rfl : i = k := by omega
          rw [hok] at ho; cases ho
          exact ⟨_, hs, fun w1 hE hx hd => by rw [← ha]; exact hw.1 w1 hE hx (hlean w1 hd)⟩

/-- THE RULE, for a region whose operations are written out: a spec for each operation, the walk in the text's order. -/
theorem any_region {E C : World → World → Prop} (T : Two E C) (p : Nat) {Q : Exit → Act → World → Prop} {a : Act} {w : World} {l : List Oper} (ss : List Spec) (hB : okB l.toArray = true) (hpv : pivotB l.toArray p = true ∨ ∀ a b, C a b → E a b) (hlb : locB l.toArray 0 ss = true) (hk : keepsS E C l.toArray p 0 ss)
    (h : Walk E C p P l.toArray w Q 0 l ss [] [] a) : anyS P l.toArray Q l.toArray.size (Array.replicate l.toArray.size false) a { w with drawn := w.drawn + 1 } := by
  have base := fun vs hfx => walk_at (E := E) (C := C) (p := p) (P := P) (ops := l.toArray) (w := w) (Q := Q) (a0 := a) ss hlb vs hfx l.length 0 l [] [] a (by simp) (by simp) rfl rfl (fun _ _ h => by cases h) (fun _ _ _ _ h => by omega) (fun _ h => by omega) h
  refine any_facts T p hpv (fun i vs => match ss[i]? with | some s => s.holds vs (vs i) | none => fun _ => False) (fun i => (ss[i]?).bind Spec.fixed) ?_ ?_ hB ?_ ?_ ?_ ?_
  · intro i v vs w hv hu
    cases hs : ss[i]? with
    | none => simp [hs] at hv
    | some s => cases s with
      | val x => simp only [hs, Option.bind_some, Spec.fixed, Option.some.injEq] at hv; subst hv; simpa [hs, Spec.holds] using hu
      | fact f => simp [hs, Spec.fixed] at hv
      | on js f => simp [hs, Spec.fixed] at hv
  · intro i vs us w hi hj hu
    cases hs : ss[i]? with
    | none => simp [hs] at hu
    | some s =>
      simp only [hs] at hu ⊢
      rw [← hj i (.inl rfl)]
      exact holds_loc (fun j hjs => hj j (.inr (by have := (locB_get ss 0 i s hlb hs j hjs).1; rwa [Nat.zero_add] at this))) hu
  · intro i vs w1 w2 _ hx hu
    cases hs : ss[i]? with
    | none => simp [hs] at hu
    | some s => simp only [hs] at hu ⊢; exact (keepsS_get ss 0 i s hk hs).1 vs _ w1 w2 hx hu
  · intro i vs w1 w2 _ hc hx hu
    cases hs : ss[i]? with
    | none => simp [hs] at hu
    | some s => simp only [hs] at hu ⊢; exact (keepsS_get ss 0 i s hk hs).2 (by rw [Nat.zero_add]; exact hc) vs _ w1 w2 hx hu
  · intro i o ho vs w1 hfx hE hx hd
    obtain ⟨h1, -⟩ := base vs fun j s v hs hv => hfx j v (by simp [hs, hv])
    obtain ⟨s, hs, hst⟩ := h1 i o (Nat.zero_le _) ho
    simp only [hs]
    have hst := hst w1 hE hx fun j hj _ s' hs' => by
      have := hd j hj
      simpa only [hs'] using this
    refine stepG_mono hst fun u w2 ⟨h1, h2⟩ => ⟨h1, ?_⟩
    have e : upd vs i u i = u := by simp [upd]
    rw [e]
    refine holds_loc (fun j hjs => ?_) h2
    have := (locB_get ss 0 i s hlb hs j hjs).2
    simp only [upd]
    rw [if_neg (by omega)]
  · intro vs w1 hfx hx hall
    obtain ⟨-, h2⟩ := base vs fun j s v hs hv => hfx j v (by simp [hs, hv])
    refine h2 w1 hx fun i s hi hs => ?_
    have := hall i hi
    simpa only [hs] using this
theorem wp_region {E C : World → World → Prop} (T : Two E C) (p : Nat) {id : Nat} {Q : Exit → Act → World → Prop} {a : Act} {w : World} {l : List Oper} (ss : List Spec) (hm : P.follows .mixedOrders = true) (hB : okB l.toArray = true) (hpv : pivotB l.toArray p = true ∨ ∀ a b, C a b → E a b) (hlb : locB l.toArray 0 ss = true) (hk : keepsS E C l.toArray p 0 ss)
    (h : Walk E C p P l.toArray w Q 0 l ss [] [] a) : (Code.region id l.toArray true).wp P Q a w :=
  wp_region_any hm (any_of_anyS _ _ _ _ (any_region T p ss hB hpv hlb hk h))
end Facts.Dep
end Go.Proofs.YtcamegaimleomaaGreat

namespace Go.Proofs.YtcamegaimleomaaGreat
set_option linter.unusedSimpArgs false
set_option linter.unusedVariables false
open Go.RowKit
set_option linter.unusedVariables false
set_option linter.unusedSimpArgs false
namespace Facts.Dep.Free
open Facts.Piv (Two anyS opS any_of_anyS opS_of_stepG)
variable {P : Program} {ops : Array Oper}

theorem any_facts {E C : World → World → Prop} (T : Two E C) (p : Nat) {Q : Exit → Act → World → Prop} {a : Act} {w : World} (Φ : Nat → (Nat → Value) → World → Prop) (fix : Nat → Option Value) (hfix : ∀ i v vs w, fix i = some v → Φ i vs w → vs i = v) (hloc : ∀ i vs us w, i < ops.size → (∀ j, j = i ∨ (depsOf ops ops.size i).contains j = true → vs j = us j) → Φ i vs w → Φ i us w) (hB : okB ops = true)
    (hkeep : ∀ i vs w1 w2, i < ops.size → E w1 w2 → Φ i vs w1 → Φ i vs w2) (hkeepC : ∀ i vs w1 w2, i < ops.size → i ≠ p → (depsOf ops ops.size i).contains p = false → C w1 w2 → Φ i vs w1 → Φ i vs w2)
    (hops : ∀ i o, ops[i]? = some o → ∀ (vs : Nat → Value) w1, (∀ j v, fix j = some v → vs j = v) → C w w1 → (∀ j ∈ depsOf ops ops.size i, Φ j vs w1) → stepG P ops o (acts ops a vs (fun _ => true) i) w1 (fun u w2 => (if i = p then C w1 w2 else E w1 w2) ∧ Φ i (upd vs i u) w2))
    (hend : ∀ (vs : Nat → Value) w1, (∀ j v, fix j = some v → vs j = v) → C w w1 → (∀ i, i < ops.size → Φ i vs w1) → Q .normal (acts ops a vs (fun _ => true) ops.size) w1) : anyS P ops Q ops.size (Array.replicate ops.size false) a { w with drawn := w.drawn + 1 } := by
  have hsel : ∀ (j : Nat) (o : Oper) cs b, ops[j]? = some o → o.op ≠ .select cs b := by
    have h2 := hB
    simp only [okB, Bool.and_eq_true] at h2
    exact Region.noSelect_spec h2.1
  suffices key : ∀ (fuel : Nat) (listed : Array Bool) (vs : Nat → Value) (w1 : World), (∀ j v, fix j = some v → vs j = v) → listed.size = ops.size → listed.toList.count true + fuel = ops.size → C w w1 →
      (∀ j, listed.getD j false = true → ∀ i ∈ direct ops j, listed.getD i false = true) → (∀ j, j < ops.size → listed.getD j false = true → Φ j vs w1) →
      anyS P ops Q fuel listed (acts ops a vs (fun j => listed.getD j false) ops.size) w1 by
    have h0 := key ops.size (Array.replicate ops.size false) (fun j => (fix j).getD undef) { w with drawn := w.drawn + 1 } (fun j v h => by simp [h]) (by simp) (by simp [List.count_replicate]) (T.sub _ _ (T.d w))
      (fun j hj => by rw [getD_rep] at hj; cases hj) (fun j _ hj => by rw [getD_rep] at hj; cases hj)
    have e : acts ops a (fun j => (fix j).getD undef) (fun j => (Array.replicate ops.size false).getD j false) ops.size = a := by
      have : ∀ n, acts ops a (fun j => (fix j).getD undef) (fun j => (Array.replicate ops.size false).getD j false) n = a := by
        intro n
        induction n with
        | zero => rfl
        | succ n ih => simp only [acts]; rw [if_neg (by rw [getD_rep]; exact Bool.false_ne_true)]; exact ih
      exact this _
    rw [e] at h0
    exact h0
  intro fuel
  have hdone : ∀ (listed : Array Bool) (vs : Nat → Value) (w1 : World), (∀ j v, fix j = some v → vs j = v) → (∀ j, j < ops.size → listed.getD j false = true) → C w w1 → (∀ j, j < ops.size → listed.getD j false = true → Φ j vs w1) →
      Q .normal (acts ops a vs (fun j => listed.getD j false) ops.size) w1 := by
    intro listed vs w1 hfx hall hx hΦ
    have := hend vs w1 hfx hx fun i hi => hΦ i hi (hall i hi)
    rwa [acts_congr a vs vs (fun _ => true) (fun j => listed.getD j false) ops.size fun j hj => ⟨(hall j hj).symm, fun _ => rfl⟩] at this
  induction fuel with
  | zero =>
    intro listed vs w1 hfx hsz hc hx hcl hΦ
    have hall : ∀ j, j < ops.size → listed.getD j false = true := by
      intro j hj
      have hlen : listed.toList.count true = listed.toList.length := by simp only [Array.length_toList]; omega
      have := List.count_eq_length.1 hlen (listed[j]'(by omega)) (by simp)
      rw [Array.getD_eq_getD_getElem?, Array.getElem?_eq_getElem (by omega)]
      exact this.symm
    refine ⟨?_, hdone listed vs w1 hfx hall hx hΦ⟩
    rw [List.eq_nil_iff_forall_not_mem]
    intro i hi
    have hi1 := (mem_ready.1 hi)
    obtain ⟨o, ho, -⟩ := hi1.2
    have hlt : i < ops.size := (Array.getElem?_eq_some_iff.1 ho).1
    have h1 := hall i hlt
    have h2 := hi1.1
    rw [Array.getD_eq_getD_getElem?, Array.getElem?_eq_getElem (by omega)] at h1 h2
    simp only [Option.getD_some] at h1 h2
    rw [h1] at h2; cases h2
  | succ fuel ih =>
    intro listed vs w1 hfx hsz hc hx hcl hΦ
    refine ⟨fun h => hdone listed vs w1 hfx (all_listed hB hsz h) hx hΦ, fun i hi => ?_⟩
    obtain ⟨hi0, o, ho, hafter⟩ := mem_ready.1 hi
    have hlt : i < ops.size := (Array.getElem?_eq_some_iff.1 ho).1
    have hnot : listed.getD i false = false := by
      rw [Array.getD_eq_getD_getElem?, Array.getElem?_eq_getElem (by omega)] at hi0 ⊢
      exact hi0
    have hdir := direct_ready ho hafter
    have hdeps := dep_in hcl ops.size i hdir
    have hdl : ∀ j ∈ depsOf ops ops.size i, j < ops.size := fun j hj => by
      have := hdeps j hj
      rcases Nat.lt_or_ge j listed.size with h' | h'
      · omega
      · simp [Array.getD_eq_getD_getElem?, Array.getElem?_eq_none h'] at this
    have hst := hops i o ho vs w1 hfx hx fun j hj => hΦ j (hdl j hj) (hdeps j hj)
    -- a later one that has come up is apart from this one
    have hlater : ∀ j, i < j → j < ops.size → listed.getD j false = true → apartB ops i j = true := fun j h1 h2 h3 =>
      ((okB_spec hB j h2).2 i h1).resolve_right fun hmem => by
        have := dep_in hcl ops.size j (hcl j h3) i hmem
        rw [hnot] at this; cases this
    have hearlier : ∀ j, j < i → listed.getD j false = false → apartB ops j i = true := fun j h1 h3 =>
      ((okB_spec hB i hlt).2 j h1).resolve_right fun hmem => by
        have := hdeps j hmem
        rw [h3] at this; cases this
    have hacts : ∀ n, i ≤ n → n ≤ ops.size → ∀ t, t ∈ o.looksAt ops → (acts ops a vs (fun j => listed.getD j false) n).tmps[t]? = (acts ops a vs (fun _ => true) i).tmps[t]? := by
      intro n hin
      obtain ⟨k, rfl⟩ := Nat.exists_eq_add_of_le hin
      clear hin
      induction k with
      | zero =>
        intro _ t ht
        refine acts_slot a vs _ _ t i fun j hj hd => ?_
        cases hl : listed.getD j false with
        | true => rfl
        | false =>
          have hap := hearlier j hj hl
          have hoj : ops[j]? = some (ops[j]'(by omega)) := by simp [show j < ops.size from by omega]
          rw [hoj] at hd
          simp only [apartB, hoj, ho] at hap
          exact absurd ht ((Oper.apart_spec hap).1 t hd)
      | succ k ih2 =>
        intro hle t ht
        have ih2 := ih2 (by omega) t ht
        obtain ⟨n, hn⟩ : ∃ n, n = i + k := ⟨_, rfl⟩
        rw [← hn] at ih2
        rw [show i + (k + 1) = n + 1 from by omega]
        simp only [acts]
        by_cases hl : listed.getD n false = true
        · rw [if_pos hl]
          have hni : i ≠ n := fun e => by subst e; rw [hnot] at hl; cases hl
          have hap := hlater n (by omega) (by omega) hl
          have hon : ops[n]? = some (ops[n]'(by omega)) := by simp [show n < ops.size from by omega]
          simp only [apartB, hon, ho] at hap
          rw [put_other _ _ _ _ (fun hd => (Oper.apart_spec hap).2.2 t (by rw [hon] at hd; exact hd) ht)]
          exact ih2
        · rw [if_neg hl]; exact ih2
    have hst2 : stepG P ops o (acts ops a vs (fun j => listed.getD j false) ops.size) w1 (fun u w2 => (if i = p then C w1 w2 else E w1 w2) ∧ Φ i (upd vs i u) w2) :=
      stepG_same (hsel i o · · ho) (fun t ht => (hacts ops.size (by omega) (Nat.le_refl _) t ht).symm) hst
    refine opS_of_stepG ho hst2 ?_
    rintro v w2 ⟨hx2, hv⟩
    have hod : (ops[i]?).bind (·.dst) = o.dst := by rw [ho]; rfl
    rw [← hod, acts_put a vs (fun j => listed.getD j false) i v hnot ops.size hlt (fun j h1 h2 h3 d hd hd2 => by
      have hap := hlater j h1 h2 h3
      have hoj : ops[j]? = some (ops[j]'h2) := by simp [h2]
      simp only [apartB, hoj, ho] at hap
      rw [ho] at hd; rw [hoj] at hd2
      exact (Oper.apart_spec hap).2.1 d hd hd2)]
    have hget : ∀ j, (listed.setIfInBounds i true).getD j false = (listed.getD j false || decide (j = i)) := by
      intro j
      by_cases hji : j = i
      · subst hji; simp [Array.getD_eq_getD_getElem?, show j < listed.size from by omega]
      · rw [getD_set_ne false (Ne.symm hji)]; simp [hji]
    have := ih (listed.setIfInBounds i true) (upd vs i v) w2 (fun j u hj => by
        by_cases hji : j = i
        · subst hji; exact hfix j u _ w2 hj hv
        · simpa [upd, hji] using hfx j u hj) (by simpa using hsz) (by
        rw [Array.toList_setIfInBounds, List.count_set (by simpa using (by omega : i < listed.size))]
        have e : (listed.toList[i]'(by simpa using (by omega : i < listed.size))) = false := by
          rw [Array.getD_eq_getD_getElem?, Array.getElem?_eq_getElem (by omega)] at hnot
          simpa using hnot
        have e' : (listed.toList[i]'(by simpa using (by omega : i < listed.size)) == true) = false := by rw [e]; rfl
        rw [e']; simp only [Bool.false_eq_true, if_false, beq_self_eq_true, if_true]; omega) (by
          split at hx2
          · exact T.tc _ _ _ hx hx2
          · exact T.tc _ _ _ hx (T.sub _ _ hx2))
      (by
        intro j hj k hk
        rw [hget] at hj ⊢
        by_cases hji : j = i
        · subst hji; rw [hdir k hk]; rfl
        · simp only [hji, decide_false, Bool.or_false] at hj
          rw [hcl j hj k hk]; rfl)
      (by
        intro j hj hl
        by_cases hji : j = i
        · subst hji; exact hv
        · rw [hget] at hl
          simp only [hji, decide_false, Bool.or_false] at hl
          have hnd : (depsOf ops ops.size j).contains i = false := by
            rw [Bool.eq_false_iff, ne_eq, List.contains_iff_mem]
            intro h
            have := dep_in hcl ops.size j (hcl j hl) i h
            rw [hnot] at this; cases this
          have hold : Φ j (upd vs i v) w1 := hloc j vs _ _ hj (fun x hx => by
            unfold upd
            split
            · rename_i hxi
              subst hxi
              rcases hx with hx | hx
              · exact absurd hx.symm hji
              · rw [hnd] at hx; cases hx
            · rfl) (hΦ j hj hl)
          split at hx2
          · rename_i hip
            refine hkeepC j _ _ _ hj (fun e => hji (e.trans hip.symm)) ?_ hx2 hold
            rw [← hip]; exact hnd
          · exact hkeep j _ _ _ hj hx2 hold)
    have e2 : (fun j => (listed.setIfInBounds i true).getD j false) = fun j => listed.getD j false || decide (j = i) := funext hget
    rw [e2] at this
    exact this


def Walk (E C : World → World → Prop) (p : Nat) (P : Program) (ops : Array Oper) (w : World) (Q : Exit → Act → World → Prop) : Nat → List Oper → List Spec → List (Nat × (World → Prop)) → List (Nat × Value) → Act → Prop
  | _, [], _, env, _, a => ∀ w1, C w w1 → (∀ j f, (j, f) ∈ env → f w1) → Q .normal a w1
  | _, _ :: _, [], _, _, _ => False
  | i, o :: rest, .val v :: ss, env, us, a => (∀ w1, C w w1 → Have ops i env w1 → stepG P ops o a w1 (fun u w2 => (if i = p then C w1 w2 else E w1 w2) ∧ u = v)) ∧ Walk E C p P ops w Q (i + 1) rest ss env ((i, v) :: us) (a.put o.dst v)
  | i, o :: rest, .fact f :: ss, env, us, a => (∀ w1, C w w1 → Have ops i env w1 → stepG P ops o a w1 (fun u w2 => (if i = p then C w1 w2 else E w1 w2) ∧ f u w2)) ∧ ∀ u, Walk E C p P ops w Q (i + 1) rest ss ((i, f u) :: env) ((i, u) :: us) (a.put o.dst u)
  | i, o :: rest, .on js f :: ss, env, us, a => (∀ w1, C w w1 → Have ops i env w1 → stepG P ops o a w1 (fun u w2 => (if i = p then C w1 w2 else E w1 w2) ∧ f (js.map (look us)) u w2)) ∧ ∀ u, Walk E C p P ops w Q (i + 1) rest ss ((i, f (js.map (look us)) u) :: env) ((i, u) :: us) (a.put o.dst u)
def keepsS (E C : World → World → Prop) (ops : Array Oper) (p : Nat) : Nat → List Spec → Prop
  | _, [] => True
  | i, .val _ :: r => keepsS E C ops p (i + 1) r
  | i, .fact f :: r => (∀ u w1 w2, E w1 w2 → f u w1 → f u w2) ∧ (i ≠ p → (depsOf ops ops.size i).contains p = false → ∀ u w1 w2, C w1 w2 → f u w1 → f u w2) ∧ keepsS E C ops p (i + 1) r
  | i, .on _ f :: r => (∀ l u w1 w2, E w1 w2 → f l u w1 → f l u w2) ∧ (i ≠ p → (depsOf ops ops.size i).contains p = false → ∀ l u w1 w2, C w1 w2 → f l u w1 → f l u w2) ∧ keepsS E C ops p (i + 1) r
theorem keepsS_get {E C : World → World → Prop} {p : Nat} : ∀ (ss : List Spec) (k i : Nat) (s : Spec), keepsS E C ops p k ss → ss[i]? = some s →
    (∀ vs u w1 w2, E w1 w2 → s.holds vs u w1 → s.holds vs u w2) ∧ (k + i ≠ p → (depsOf ops ops.size (k + i)).contains p = false → ∀ vs u w1 w2, C w1 w2 → s.holds vs u w1 → s.holds vs u w2)
  | [], _, _, _, _, h => by simp at h
  | .val v :: r, k, 0, s, _, h => by simp at h; subst h; exact ⟨fun _ _ _ _ _ h => h, fun _ _ _ _ _ _ _ h => h⟩
  | .val v :: r, k, i + 1, s, hk, h => by
    have := keepsS_get r (k + 1) i s hk (by simpa using h)
    rwa [show k + 1 + i = k + (i + 1) from by omega] at this
  | .fact f :: r, k, 0, s, hk, h => by simp at h; subst h; exact ⟨fun _ => hk.1, fun hi hc _ => hk.2.1 hi hc⟩
  | .fact f :: r, k, i + 1, s, hk, h => by
    have := keepsS_get r (k + 1) i s hk.2.2 (by simpa using h)
    rwa [show k + 1 + i = k + (i + 1) from by omega] at this
  | .on js f :: r, k, 0, s, hk, h => by simp at h; subst h; exact ⟨fun vs => hk.1 (js.map vs), fun hi hc vs => hk.2.1 hi hc (js.map vs)⟩
  | .on js f :: r, k, i + 1, s, hk, h => by
    have := keepsS_get r (k + 1) i s hk.2.2 (by simpa using h)
    rwa [show k + 1 + i = k + (i + 1) from by omega] at this
theorem walk_at {E C : World → World → Prop} {p : Nat} {w : World} {Q : Exit → Act → World → Prop} {a0 : Act} (ss : List Spec) (hlb : locB ops 0 ss = true) (vs : Nat → Value) (hfx : ∀ j s v, ss[j]? = some s → s.fixed = some v → vs j = v) :
    ∀ (n k : Nat) (rest : List Oper) (env : List (Nat × (World → Prop))) (us : List (Nat × Value)) (a : Act), n + k = ops.size → (∀ j, rest[j]? = ops[k + j]?) → rest.length = n → a = acts ops a0 vs (fun _ => true) k →
      (∀ j q, (j, q) ∈ env → ∃ s, ss[j]? = some s ∧ j < k ∧ q = s.holds vs (vs j)) → (∀ j s, ss[j]? = some s → s.fixed = none → j < k → (j, s.holds vs (vs j)) ∈ env) → (∀ j, j < k → look us j = vs j) → Walk E C p P ops w Q k rest (ss.drop k) env us a →
      (∀ i o, k ≤ i → ops[i]? = some o → ∃ s, ss[i]? = some s ∧ ∀ w1, C w w1 → (∀ j ∈ depsOf ops ops.size i, j < i → ∀ s, ss[j]? = some s → s.holds vs (vs j) w1) → stepG P ops o (acts ops a0 vs (fun _ => true) i) w1 (fun u w2 => (if i = p then C w1 w2 else E w1 w2) ∧ s.holds vs u w2)) ∧
      (∀ w1, C w w1 → (∀ i s, i < ops.size → ss[i]? = some s → s.holds vs (vs i) w1) → Q .normal (acts ops a0 vs (fun _ => true) ops.size) w1) := by
  intro n
  induction n with
  | zero =>
    intro k rest env us a hk hr hl ha henv henv2 hus hw
    obtain rfl : rest = [] := List.length_eq_zero_iff.1 hl
    have e : k = ops.size := by omega
    subst e
    refine ⟨fun i o hi ho => by have := (Array.getElem?_eq_some_iff.1 ho).1; omega, fun w1 hx hall => ?_⟩
    simp only [Walk] at hw
    rw [← ha]
    refine hw w1 hx fun j q hq => ?_
    obtain ⟨s, hs, hj, rfl⟩ := henv j q hq
    exact hall j s hj hs
  | succ n ih =>
    intro k rest env us a hk hr hl ha henv henv2 hus hw
    obtain ⟨o, rest, rfl⟩ : ∃ o r, rest = o :: r := by cases rest with | nil => simp at hl | cons o r => exact ⟨o, r, rfl⟩
    have hok : ops[k]? = some o := by simpa using (hr 0).symm
    have hact : ∀ v, vs k = v → a.put o.dst v = acts ops a0 vs (fun _ => true) (k + 1) := fun v hv => by
      simp only [acts, if_true]; rw [← ha, hok, hv]; rfl
    cases hs : ss[k]? with
    | none =>
      rw [List.drop_eq_nil_of_le (by rcases Nat.lt_or_ge k ss.length with h | h; · rw [List.getElem?_eq_getElem h] at hs; cases hs
                                     · exact h)] at hw
      simp only [Walk] at hw
    | some s =>
      have hlt : k < ss.length := (List.getElem?_eq_some_iff.1 hs).1
      rw [List.drop_eq_getElem_cons hlt, (List.getElem?_eq_some_iff.1 hs).2] at hw
      have hlean : ∀ w1, (∀ j ∈ depsOf ops ops.size k, j < k → ∀ s, ss[j]? = some s → s.holds vs (vs j) w1) → Have ops k env w1 := by
        intro w1 h j q hq hc
        obtain ⟨s, hs, hj, rfl⟩ := henv j q hq
        exact h j (by simpa using hc) hj s hs
      have hr' : ∀ j, rest[j]? = ops[k + 1 + j]? := fun j => by have := hr (j + 1); simpa [Nat.add_assoc, Nat.add_comm 1 j] using this
      have hus' : ∀ v, vs k = v → ∀ j, j < k + 1 → look ((k, v) :: us) j = vs j := fun v hv j hj => by
        simp only [look]
        split
        · rename_i e; rw [← e, hv]
        · rename_i e; exact hus j (by omega)
      have hmap : s.js.map (look us) = s.js.map vs := List.map_congr_left fun j hj => hus j (by have := (locB_get ss 0 k s hlb hs j hj).2; omega)
      cases s with
      | val v =>
        simp only [Walk] at hw
        have hv : vs k = v := hfx k _ v hs rfl
        obtain ⟨h1, h2⟩ := ih (k + 1) rest env _ _ (by omega) hr' (by simpa using hl) (hact v hv) (fun j q hq => by obtain ⟨s, hs, hj, e⟩ := henv j q hq; exact ⟨s, hs, by omega, e⟩)
          (fun j s hs' hf hj => henv2 j s hs' hf (by rcases Nat.lt_or_ge j k with h | h; · exact h
                                                     · obtain rfl : j = k := by omega
                                                       rw [hs] at hs'; cases hs'; cases hf)) (hus' v hv) hw.2
        refine ⟨fun i o' hi ho => ?_, h2⟩
        rcases Nat.lt_or_ge k i with hik | hik
        · exact h1 i o' (by omega) ho
        · obtain rfl : i = k := by omega
          rw [hok] at ho; cases ho
          exact ⟨_, hs, fun w1 hx hd => by rw [← ha]; exact hw.1 w1 hx (hlean w1 hd)⟩
      | fact f =>
        simp only [Walk] at hw
        obtain ⟨h1, h2⟩ := ih (k + 1) rest _ _ _ (by omega) hr' (by simpa using hl) (hact (vs k) rfl)
          (fun j q hq => by
            rcases List.mem_cons.1 hq with e | hq
            · cases e; exact ⟨_, hs, by omega, rfl⟩
            · obtain ⟨s, hs, hj, e⟩ := henv j q hq; exact ⟨s, hs, by omega, e⟩)
          (fun j s hs' hf hj => by
            rcases Nat.lt_or_ge j k with h | h
            · exact List.mem_cons_of_mem _ (henv2 j s hs' hf h)
            · obtain rfl : j = k := by omega
              rw [hs] at hs'; cases hs'; exact List.mem_cons_self) (hus' _ rfl) (hw.2 (vs k))
        refine ⟨fun i o' hi ho => ?_, h2⟩
        rcases Nat.lt_or_ge k i with hik | hik
        · exact h1 i o' (by omega) ho
        · obtain rfl : i = k := by omega
          rw [hok] at ho; cases ho
          exact ⟨_, hs, fun w1 hx hd => by rw [← ha]; exact hw.1 w1 hx (hlean w1 hd)⟩
      | on js f =>
        simp only [Walk] at hw
        simp only [Spec.js] at hmap
        rw [hmap] at hw
        obtain ⟨h1, h2⟩ := ih (k + 1) rest _ _ _ (by omega) hr' (by simpa using hl) (hact (vs k) rfl)
          (fun j q hq => by
            rcases List.mem_cons.1 hq with e | hq
            · cases e; exact ⟨_, hs, by omega, rfl⟩
            · obtain ⟨s, hs, hj, e⟩ := henv j q hq; exact ⟨s, hs, by omega, e⟩)
          (fun j s hs' hf hj => by
            rcases Nat.lt_or_ge j k with h | h
            · exact List.mem_cons_of_mem _ (henv2 j s hs' hf h)
            · obtain rfl : j = k := by omega
              rw [hs] at hs'; cases hs'; exact List.mem_cons_self) (hus' _ rfl) (hw.2 (vs k))
        refine ⟨fun i o' hi ho => ?_, h2⟩
        rcases Nat.lt_or_ge k i with hik | hik
        · exact h1 i o' (by omega) ho
        · obtain rfl : i = k := by omega
          rw [hok] at ho; cases ho
          exact ⟨_, hs, fun w1 hx hd => by rw [← ha]; exact hw.1 w1 hx (hlean w1 hd)⟩

/-- THE RULE, for a region whose operations are written out: a spec for each operation, the walk in the text's order. -/
theorem any_region {E C : World → World → Prop} (T : Two E C) (p : Nat) {Q : Exit → Act → World → Prop} {a : Act} {w : World} {l : List Oper} (ss : List Spec) (hB : okB l.toArray = true) (hlb : locB l.toArray 0 ss = true) (hk : keepsS E C l.toArray p 0 ss)
    (h : Walk E C p P l.toArray w Q 0 l ss [] [] a) : anyS P l.toArray Q l.toArray.size (Array.replicate l.toArray.size false) a { w with drawn := w.drawn + 1 } := by
  have base := fun vs hfx => walk_at (E := E) (C := C) (p := p) (P := P) (ops := l.toArray) (w := w) (Q := Q) (a0 := a) ss hlb vs hfx l.length 0 l [] [] a (by simp) (by simp) rfl rfl (fun _ _ h => by cases h) (fun _ _ _ _ h => by omega) (fun _ h => by omega) h
  refine any_facts T p (fun i vs => match ss[i]? with | some s => s.holds vs (vs i) | none => fun _ => False) (fun i => (ss[i]?).bind Spec.fixed) ?_ ?_ hB ?_ ?_ ?_ ?_
  · intro i v vs w hv hu
    cases hs : ss[i]? with
    | none => simp [hs] at hv
    | some s => cases s with
      | val x => simp only [hs, Option.bind_some, Spec.fixed, Option.some.injEq] at hv; subst hv; simpa [hs, Spec.holds] using hu
      | fact f => simp [hs, Spec.fixed] at hv
      | on js f => simp [hs, Spec.fixed] at hv
  · intro i vs us w hi hj hu
    cases hs : ss[i]? with
    | none => simp [hs] at hu
    | some s =>
      simp only [hs] at hu ⊢
      rw [← hj i (.inl rfl)]
      exact holds_loc (fun j hjs => hj j (.inr (by have := (locB_get ss 0 i s hlb hs j hjs).1; rwa [Nat.zero_add] at this))) hu
  · intro i vs w1 w2 _ hx hu
    cases hs : ss[i]? with
    | none => simp [hs] at hu
    | some s => simp only [hs] at hu ⊢; exact (keepsS_get ss 0 i s hk hs).1 vs _ w1 w2 hx hu
  · intro i vs w1 w2 _ hip hc hx hu
    cases hs : ss[i]? with
    | none => simp [hs] at hu
    | some s => simp only [hs] at hu ⊢; exact (keepsS_get ss 0 i s hk hs).2 (by rw [Nat.zero_add]; exact hip) (by rw [Nat.zero_add]; exact hc) vs _ w1 w2 hx hu
  · intro i o ho vs w1 hfx hx hd
    obtain ⟨h1, -⟩ := base vs fun j s v hs hv => hfx j v (by simp [hs, hv])
    obtain ⟨s, hs, hst⟩ := h1 i o (Nat.zero_le _) ho
    simp only [hs]
    have hst := hst w1 hx fun j hj _ s' hs' => by
      have := hd j hj
      simpa only [hs'] using this
    refine stepG_mono hst fun u w2 ⟨h1, h2⟩ => ⟨h1, ?_⟩
    have e : upd vs i u i = u := by simp [upd]
    rw [e]
    refine holds_loc (fun j hjs => ?_) h2
    have := (locB_get ss 0 i s hlb hs j hjs).2
    simp only [upd]
    rw [if_neg (by omega)]
  · intro vs w1 hfx hx hall
    obtain ⟨-, h2⟩ := base vs fun j s v hs hv => hfx j v (by simp [hs, hv])
    refine h2 w1 hx fun i s hi hs => ?_
    have := hall i hi
    simpa only [hs] using this
theorem wp_region {E C : World → World → Prop} (T : Two E C) (p : Nat) {id : Nat} {Q : Exit → Act → World → Prop} {a : Act} {w : World} {l : List Oper} (ss : List Spec) (hm : P.follows .mixedOrders = true) (hB : okB l.toArray = true) (hlb : locB l.toArray 0 ss = true) (hk : keepsS E C l.toArray p 0 ss)
    (h : Walk E C p P l.toArray w Q 0 l ss [] [] a) : (Code.region id l.toArray true).wp P Q a w :=
  wp_region_any hm (any_of_anyS _ _ _ _ (any_region T p ss hB hlb hk h))
end Facts.Dep.Free
end Go.Proofs.YtcamegaimleomaaGreat
