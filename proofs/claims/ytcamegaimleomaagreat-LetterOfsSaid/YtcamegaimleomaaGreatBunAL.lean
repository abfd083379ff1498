/-
  THE WORDS, PARTS, SHELF AND MARKS of the examples, as the statements make them.
  ANY MARKS FOR A LETTER, by turns, and the letter that it becomes: Aloud of the statements.
  WHAT THE SMALL FUNCTIONS OF THE REFERENCE RETURN: whether a list comes before another one, whether two lists are the same, what is settled.
  WHAT THE SMALL FUNCTIONS OF THE REFERENCE RETURN: whether two lists are the same, whether one has fewer, whether a list has a number, ascending numbers, bits.
  WHAT THE SMALL FUNCTIONS OF THE REFERENCE RETURN: whether a list has a number, ascending numbers, the bits of so many sounds.
  WHAT THE SMALL FUNCTIONS OF THE REFERENCE RETURN: a bit of some bits; the first index of a string; whether a string is a name; whether a name is fresh.
  WHAT Name AND Fresh OF THE REFERENCE RETURN, for any string: the same as that of ear.
  ERRORS OF THE REFERENCE: Roomy, part, Check, form and letter return what the program's do.
  ERRORS BEHIND ONE ANOTHER: letter and form of the reference, valid of the statements.
  A LETTER MADE OF A FORM: Rooms, Put, Built and Make of the reference.
-/
import Derived.Test.YtcamegaimleomaaGreatBunAK
import Derived.Test.YtcamegaimleomaaGreatBunAA
import Derived.Test.YtcamegaimleomaaGreatBunAB
import Derived.Test.YtcamegaimleomaaGreatBunAD
import Derived.RegionTactic
import Derived.BigRegion
import Derived.Deep.CutBlock
import Derived.Deep.DeepCutAuto
import Derived.Test.YtcamegaimleomaaGreatBunAC
namespace Go.Proofs.YtcamegaimleomaaGreat
set_option linter.unusedSimpArgs false
set_option linter.unusedVariables false
open Go.RowKit
set_option linter.unusedVariables false
set_option linter.unusedSimpArgs false

theorem splitB_size (c : UInt8) : ∀ (l cur : List UInt8), ∀ x ∈ splitB c l cur, x.length ≤ cur.length + l.length
  | [], cur => by simp [splitB]
  | y :: r, cur => by
    intro x hx
    rw [splitB] at hx
    split at hx
    · rcases List.mem_cons.1 hx with rfl | hx
      · simp
      · have := splitB_size c r [] x hx
        simp at this ⊢; omega
    · have := splitB_size c r _ x hx
      simp at this ⊢; omega
theorem splitM_size (c : UInt8) (s : ByteArray) : ∀ x ∈ splitM c s, x.size ≤ s.size := by
  intro x hx
  unfold splitM at hx
  obtain ⟨l, hl, rfl⟩ := List.mem_map.1 hx
  have h := splitB_size c _ _ l hl
  have : s.data.toList.length = s.size := rfl
  show l.toArray.size ≤ _
  simp at h ⊢; omega
theorem RowW.new {base : Nat} {l : List ByteArray} {u : Value} {w : World} (h : RowW base l u w) : ∀ a n c, u = .slice a n c → ∀ ad, a = some ad → base ≤ ad.block := by
  intro a n c hu ad ha
  rcases h.2 with ⟨rfl, hn⟩ | ⟨g, cap, cur, rfl, hb, -⟩
  · cases hu; cases ha
  · cases hu; cases ha; exact hb
theorem StrsAt.set {w : World} {a : Option Addr} {n c : Nat} {l : List ByteArray} {p : Addr} (h : StrsAt w (.slice a n c) l) (hne : ∀ ad, a = some ad → ad.block ≠ p.block) (v : Value) : StrsAt (w.setCell p v) (.slice a n c) l := by
  obtain ⟨a', c', e, h2, h3, h4⟩ := h
  obtain ⟨rfl, rfl, rfl⟩ := Value.slice.inj e
  refine ⟨_, _, rfl, h2, h3, fun i hi => ?_⟩
  obtain ⟨b, o, rfl, r1, r2⟩ := h4 i hi
  exact ⟨b, o, rfl, set_other r1 (.inl (hne _ rfl).symm) v, r2⟩
theorem words_any (s : ByteArray) (l : List ByteArray) (hl : splitM 32 s = l) (hs : s.size ≤ 1000000) (w : World) :
    Calls Tryz.prog 51 #[.string s] w fun e w' => (∃ a c, e = .returned (.slice a l.length c) ∧ StrsAt w' (.slice a l.length c) l ∧ ∀ ad, a = some ad → w.heap.size ≤ ad.block) ∧ Ext w w' := by
  have hsp := split_any 32 s hs
  rw [show ((32 : UInt8).toNat : Int) = 32 from rfl] at hsp
  have hsz := splitM_size 32 s
  rw [hl] at hsp hsz
  go_enter Tryz.func51, Tryz.ntmps51
  go_wp2_with fail
  refine (hsp _).mono ?_
  rintro e w1 ⟨u, rfl, hrow, hx⟩
  have hat := hrow.at_ fun x hx => Nat.le_trans (hsz x hx) (by omega)
  have hnew := hrow.new
  obtain ⟨a, c, rfl, -⟩ := hat.shape
  go_wp2
  go_ret
  exact ⟨⟨_, _, rfl, hat, hnew a _ _ rfl⟩, hx⟩
theorem span_any (lo hi : Int) (w : World) : Calls Tryz.prog 29 #[.int .i64 lo, .int .i64 hi] w fun e w' => e = .returned (.agg #[.int .i64 lo, .int .i64 hi]) ∧ Ext w w' := by
  go_enter Tryz.func29, Tryz.ntmps29
  go_wp2
  refine bodyPost_ret (v := .agg #[.int .i64 lo, .int .i64 hi]) (by simp [results, Tryz.results29, go_sem]) rfl ⟨rfl, ?_⟩
  exact ext_alloc _ _
theorem room_any (lo hi : Int) (w : World) : Calls Tryz.prog 85 #[.int .i64 lo, .int .i64 hi] w fun e w' => e = .returned (.agg #[.slice none 0 0, .int .i64 lo, .int .i64 hi]) ∧ Ext w w' := by
  go_enter Tryz.func85, Tryz.ntmps85
  go_wp2_with fail
  refine (span_any _ _ _).mono ?_
  rintro e w1 ⟨rfl, hx⟩
  have q0 : w1.cell? ⟨w.heap.size, 0, none⟩ = some (.slice none 0 0) := hx.cell (by simp [go_sem])
  have q1 : w1.cell? ⟨w.heap.size, 1, none⟩ = some (.int .i64 0) := hx.cell (by simp [go_sem])
  have q2 : w1.cell? ⟨w.heap.size, 2, none⟩ = some (.int .i64 0) := hx.cell (by simp [go_sem])
  have z1 := cell_lt q0
  have fz : ∀ o, w1.frozen? ⟨w.heap.size, o, none⟩ = false := fun o => by rw [hx.frozen (by simp)]; simp [go_sem]
  have x1 : Ext w w1 := hx.of_alloc
  clear hx
  go_wp2
  have r := three_cells q0 q1 q2 (.slice none 0 0) (.int .i64 lo) (.int .i64 hi)
  refine bodyPost_ret (v := .agg #[.slice none 0 0, .int .i64 lo, .int .i64 hi]) (by simp [results, Tryz.results85, go_sem, r.1, r.2.1, r.2.2]) rfl ⟨rfl, ?_⟩
  exact ((x1.setCell (Nat.le_refl _) _).setCell (Nat.le_refl _) _).setCell (Nat.le_refl _) _
theorem lawGiven_any (s : ByteArray) (l : List ByteArray) (hl : splitM 32 s = l) (hs : s.size ≤ 1000000) (w : World) :
    Calls Tryz.prog 84 #[.string s] w fun e w' => (∃ a c, e = .returned (.agg #[.slice a l.length c, .int .i64 0, .int .i64 0]) ∧ StrsAt w' (.slice a l.length c) l ∧ ∀ ad, a = some ad → w.heap.size < ad.block) ∧ Ext w w' := by
  go_enter Tryz.func84, Tryz.ntmps84
  go_wp2_with fail
  refine (words_any s l hl hs _).mono ?_
  rintro e w1 ⟨⟨a, c, rfl, hat, hnew⟩, hx⟩
  have q0 : w1.cell? ⟨w.heap.size, 0, none⟩ = some (.slice none 0 0) := hx.cell (by simp [go_sem])
  have q1 : w1.cell? ⟨w.heap.size, 1, none⟩ = some (.int .i64 0) := hx.cell (by simp [go_sem])
  have q2 : w1.cell? ⟨w.heap.size, 2, none⟩ = some (.int .i64 0) := hx.cell (by simp [go_sem])
  have z1 := cell_lt q0
  have fz : ∀ o, w1.frozen? ⟨w.heap.size, o, none⟩ = false := fun o => by rw [hx.frozen (by simp)]; simp [go_sem]
  have x1 : Ext w w1 := hx.of_alloc
  clear hx
  go_wp2
  have r := three_cells q0 q1 q2 (.slice a l.length c) (.int .i64 0) (.int .i64 0)
  refine bodyPost_ret (v := .agg #[.slice a l.length c, .int .i64 0, .int .i64 0]) (by simp [results, Tryz.results84, go_sem, r.1, r.2.1, r.2.2]) rfl ⟨⟨_, _, rfl, ?_, fun ad e => by have := hnew ad e; simp at this; omega⟩, ?_⟩
  · have hne : ∀ ad, a = some ad → ad.block ≠ w.heap.size := fun ad e h => by
      have := hnew ad e
      simp at this
      omega
    exact ((hat.set hne _).set hne _).set hne _
  · exact ((x1.setCell (Nat.le_refl _) _).setCell (Nat.le_refl _) _).setCell (Nat.le_refl _) _
/-- parts that lie behind a block -/
def partN (B : Nat) (w : World) (b o : Nat) (p : Part) : Prop := B < b ∧ (∃ a n c, w.cell? ⟨b, o, none⟩ = some (.slice a n c) ∧ StrsAt w (.slice a n c) p.words ∧ ∀ ad, a = some ad → B < ad.block) ∧ w.cell? ⟨b, o + 1, none⟩ = some (.int .i64 p.lo) ∧ w.cell? ⟨b, o + 2, none⟩ = some (.int .i64 p.hi) ∧ I64 p.lo ∧ I64 p.hi
theorem partN.keeps (B : Nat) : Keeps (partN B) := fun _ _ _ _ _ hx h => by
  obtain ⟨h0, ⟨a, n, c, h1, h2, h3⟩, h4, h5, h6⟩ := h
  exact ⟨h0, ⟨a, n, c, hx.cell h1, h2.ext hx, h3⟩, hx.cell h4, hx.cell h5, h6⟩
abbrev PartsN (B : Nat) : World → Value → List Part → Prop := SliceAt 3 (partN B)
theorem PartsN.ext {B : Nat} {w w' : World} {v : Value} {l : List Part} (h : PartsN B w v l) (hx : Ext w w') : PartsN B w' v l := SliceAt.ext (partN.keeps B) h hx
theorem PartsN.at_ {B : Nat} {w : World} {v : Value} {l : List Part} (h : PartsN B w v l) : PartsAt w v l := by
  obtain ⟨a, c, e, h2, h3, h4⟩ := h
  refine ⟨a, c, e, h2, h3, fun i hi => ?_⟩
  obtain ⟨b, o, e, h0, ⟨a, n, c, r1, r2, -⟩, r⟩ := h4 i hi
  exact ⟨b, o, e, ⟨_, r1, r2⟩, r⟩
theorem PartsN.set {B o : Nat} {w : World} {v : Value} {l : List Part} (h : PartsN B w v l) (x : Value) : PartsN B (w.setCell ⟨B, o, none⟩ x) v l := by
  obtain ⟨a, c, e, h2, h3, h4⟩ := h
  refine ⟨a, c, e, h2, h3, fun i hi => ?_⟩
  obtain ⟨b, o, e, h0, ⟨a, n, c, r1, r2, r3⟩, r4, r5, r6⟩ := h4 i hi
  have hb : B ≠ b := by omega
  refine ⟨b, o, e, h0, ⟨a, n, c, set_other r1 (.inl hb) _, r2.set (fun ad e => ?_) _, r3⟩, set_other r4 (.inl hb) _, set_other r5 (.inl hb) _, r6⟩
  have := r3 ad e
  show ad.block ≠ B
  omega
def parts1 : List Part := [givenP [wTo, wThe], roomP 1 2, givenP [wI, wAsk], roomP 1 3]
def parts2 : List Part := [roomP 1 2, givenP [wI, wAsk], roomP 0 2]
def parts3 : List Part := [roomP 1 2, roomP 1 2]
set_option maxRecDepth 100000 in
set_option maxHeartbeats 2000000 in
theorem Shelf_any (w : World) : Calls Tryz.prog 34 #[] w fun e w' => ∃ v, e = .returned v ∧ ShelfAt w' v shelfE ∧ Ext w w' := by
  go_enter Tryz.func34, Tryz.ntmps34
  go_wp2_with fail
  refine (lawGiven_any _ [wTo, wThe] (by kernel_rfl) (by decide) _).mono ?_
  rintro e w1 ⟨⟨a1, c1, rfl, h1, n1⟩, x1⟩
  go_wp2_with fail
  refine (room_any _ _ _).mono ?_
  rintro e w2 ⟨rfl, x2⟩
  go_wp2_with fail
  refine (lawGiven_any _ [wI, wAsk] (by kernel_rfl) (by decide) _).mono ?_
  rintro e w3 ⟨⟨a3, c3, rfl, h3, n3⟩, x3⟩
  go_wp2_with fail
  refine (room_any _ _ _).mono ?_
  rintro e w4 ⟨rfl, x4⟩
  have hr : ∀ lo hi : Int, 0 ≤ lo ∧ lo ≤ 3 ∧ 0 ≤ hi ∧ hi ≤ 3 → I64 lo ∧ I64 hi := fun lo hi h => ⟨⟨by omega, by omega⟩, by constructor <;> omega⟩
  have b1 := x1.size
  have b2 := x2.size
  have b3 := x3.size
  have b4 := x4.size
  simp only [World.size_alloc] at b1 n1
  have p1 : PartsN w.heap.size (w4.alloc (.cells #[.slice a1 2 c1, .int .i64 0, .int .i64 0, .slice none 0 0, .int .i64 1, .int .i64 2, .slice a3 2 c3, .int .i64 0, .int .i64 0, .slice none 0 0, .int .i64 1, .int .i64 3] 59)) (.slice (some ⟨w4.heap.size, 0, none⟩) 4 4) parts1 := ⟨_, _, rfl, by decide, by decide, fun i hi => by
    have : i = 0 ∨ i = 1 ∨ i = 2 ∨ i = 3 := by simp [parts1] at hi; omega
    refine ⟨_, _, rfl, ?_⟩
    rcases this with rfl | rfl | rfl | rfl
    · exact ⟨by omega, ⟨a1, 2, c1, by simp [go_sem], (h1.ext (x2.trans (x3.trans x4))).ext (ext_alloc _ _), fun ad e => by have := n1 ad e; omega⟩, by simp [go_sem, parts1, givenP], by simp [go_sem, parts1, givenP], hr _ _ (by simp [parts1, parts2, parts3, roomP, givenP])⟩
    · exact ⟨by omega, ⟨none, 0, 0, by simp [go_sem], SliceAt.nil, fun ad e => (by cases e)⟩, by simp [go_sem, parts1, roomP], by simp [go_sem, parts1, roomP], hr _ _ (by simp [parts1, parts2, parts3, roomP, givenP])⟩
    · exact ⟨by omega, ⟨a3, 2, c3, by simp [go_sem], (h3.ext x4).ext (ext_alloc _ _), fun ad e => by have := n3 ad e; omega⟩, by simp [go_sem, parts1, givenP], by simp [go_sem, parts1, givenP], hr _ _ (by simp [parts1, parts2, parts3, roomP, givenP])⟩
    · exact ⟨by omega, ⟨none, 0, 0, by simp [go_sem], SliceAt.nil, fun ad e => (by cases e)⟩, by simp [go_sem, parts1, roomP], by simp [go_sem, parts1, roomP], hr _ _ (by simp [parts1, parts2, parts3, roomP, givenP])⟩⟩
  have q0 : w4.cell? ⟨w.heap.size, 0, none⟩ = some (.int .i64 0) := (x2.trans (x3.trans x4)).cell (x1.cell (by simp [go_sem]))
  have q1 : w4.cell? ⟨w.heap.size, 1, none⟩ = some (.slice none 0 0) := (x2.trans (x3.trans x4)).cell (x1.cell (by simp [go_sem]))
  have z4 := cell_lt q0
  have fz4 : ∀ o, w4.frozen? ⟨w.heap.size, o, none⟩ = false := fun o => by rw [((x1.trans x2).trans (x3.trans x4)).frozen (by simp)]; simp [go_sem]
  have y4 : Ext w w4 := ((x1.trans x2).trans (x3.trans x4)).of_alloc
  clear h1 h3 x1 x2 x3 x4
  go_wp2_with fail
  refine (room_any _ _ _).mono ?_
  rintro e w5 ⟨rfl, x5⟩
  go_wp2_with fail
  refine (lawGiven_any _ [wI, wAsk] (by kernel_rfl) (by decide) _).mono ?_
  rintro e w6 ⟨⟨a6, c6, rfl, h6, n6⟩, x6⟩
  go_wp2_with fail
  refine (room_any _ _ _).mono ?_
  rintro e w7 ⟨rfl, x7⟩
  replace p1 := p1.ext (x5.trans (x6.trans x7))
  have b5 := x5.size
  have b6 := x6.size
  have b7 := x7.size
  simp only [World.size_alloc] at b5
  have p2 : PartsN w.heap.size (w7.alloc (.cells #[.slice none 0 0, .int .i64 1, .int .i64 2, .slice a6 2 c6, .int .i64 0, .int .i64 0, .slice none 0 0, .int .i64 0, .int .i64 2] 59)) (.slice (some ⟨w7.heap.size, 0, none⟩) 3 3) parts2 := ⟨_, _, rfl, by decide, by decide, fun i hi => by
    have : i = 0 ∨ i = 1 ∨ i = 2 := by simp [parts2] at hi; omega
    refine ⟨_, _, rfl, ?_⟩
    rcases this with rfl | rfl | rfl
    · exact ⟨by omega, ⟨none, 0, 0, by simp [go_sem], SliceAt.nil, fun ad e => (by cases e)⟩, by simp [go_sem, parts2, roomP], by simp [go_sem, parts2, roomP], hr _ _ (by simp [parts1, parts2, parts3, roomP, givenP])⟩
    · exact ⟨by omega, ⟨a6, 2, c6, by simp [go_sem], (h6.ext x7).ext (ext_alloc _ _), fun ad e => by have := n6 ad e; omega⟩, by simp [go_sem, parts2, givenP], by simp [go_sem, parts2, givenP], hr _ _ (by simp [parts1, parts2, parts3, roomP, givenP])⟩
    · exact ⟨by omega, ⟨none, 0, 0, by simp [go_sem], SliceAt.nil, fun ad e => (by cases e)⟩, by simp [go_sem, parts2, roomP], by simp [go_sem, parts2, roomP], hr _ _ (by simp [parts1, parts2, parts3, roomP, givenP])⟩⟩
  have y7 := (x5.trans (x6.trans x7)).of_alloc
  have s4 := z4
  replace q0 := y7.cell q0
  replace q1 := y7.cell q1
  replace z4 := cell_lt q0
  have fz7 : ∀ o, w7.frozen? ⟨w.heap.size, o, none⟩ = false := fun o => by rw [y7.frozen (p := ⟨w.heap.size, o, none⟩) s4]; exact fz4 o
  clear h6 x5 x6 x7 fz4 s4
  go_wp2_with fail
  refine (room_any _ _ _).mono ?_
  rintro e w8 ⟨rfl, x8⟩
  go_wp2_with fail
  refine (room_any _ _ _).mono ?_
  rintro e w9 ⟨rfl, x9⟩
  replace p1 := (p1.ext (ext_alloc _ _)).ext (x8.trans x9)
  replace p2 := p2.ext (x8.trans x9)
  have b8 := x8.size
  have b9 := x9.size
  simp only [World.size_alloc] at b8
  have y9 := (x8.trans x9).of_alloc
  have s7 := z4
  replace q0 := y9.cell q0
  replace q1 := y9.cell q1
  replace z4 := cell_lt q0
  have fz9 : ∀ o, w9.frozen? ⟨w.heap.size, o, none⟩ = false := fun o => by rw [y9.frozen (p := ⟨w.heap.size, o, none⟩) s7]; exact fz7 o
  have y := (y4.trans y7).trans y9
  clear y4 y7 y9 x8 x9 fz7 s7
  replace p1 := (p1.set (o := 0) (.int .i64 12)).set (o := 1) (.slice (some ⟨w9.heap.size + 1, 0, none⟩) 3 3)
  replace p2 := (p2.set (o := 0) (.int .i64 12)).set (o := 1) (.slice (some ⟨w9.heap.size + 1, 0, none⟩) 3 3)
  have c0 : ((w9.setCell ⟨w.heap.size, 0, none⟩ (.int .i64 12)).setCell ⟨w.heap.size, 1, none⟩ (.slice (some ⟨w9.heap.size + 1, 0, none⟩) 3 3)).cell? ⟨w.heap.size, 0, none⟩ = some (.int .i64 12) := set_other (set_cell q0 _) (.inr (by simp)) _
  have c1 : ((w9.setCell ⟨w.heap.size, 0, none⟩ (.int .i64 12)).setCell ⟨w.heap.size, 1, none⟩ (.slice (some ⟨w9.heap.size + 1, 0, none⟩) 3 3)).cell? ⟨w.heap.size, 1, none⟩ = some (.slice (some ⟨w9.heap.size + 1, 0, none⟩) 3 3) := set_cell (set_other q1 (.inr (by simp)) _) _
  have y2 : Ext w ((w9.setCell ⟨w.heap.size, 0, none⟩ (.int .i64 12)).setCell ⟨w.heap.size, 1, none⟩ (.slice (some ⟨w9.heap.size + 1, 0, none⟩) 3 3)) := (y.setCell (Nat.le_refl _) _).setCell (Nat.le_refl _) _
  have hsz : ((w9.setCell ⟨w.heap.size, 0, none⟩ (.int .i64 12)).setCell ⟨w.heap.size, 1, none⟩ (.slice (some ⟨w9.heap.size + 1, 0, none⟩) 3 3)).heap.size = w9.heap.size := by simp
  go_wp2
  generalize (w9.setCell ⟨w.heap.size, 0, none⟩ (.int .i64 12)).setCell ⟨w.heap.size, 1, none⟩ (.slice (some ⟨w9.heap.size + 1, 0, none⟩) 3 3) = W at *
  have c0' := ((ext_alloc W (.cells #[.slice none 0 0, .int .i64 1, .int .i64 2, .slice none 0 0, .int .i64 1, .int .i64 2] 59)).trans (ext_alloc _ (.cells #[.string ⟨#[112, 108, 101, 97]⟩, .slice (some ⟨w4.heap.size, 0, none⟩) 4 4, .string ⟨#[110, 111, 116, 101]⟩, .slice (some ⟨w7.heap.size, 0, none⟩) 3 3, .string ⟨#[108, 105, 115, 116]⟩, .slice (some ⟨w9.heap.size, 0, none⟩) 2 2] 55))).cell c0
  have c1' := ((ext_alloc W (.cells #[.slice none 0 0, .int .i64 1, .int .i64 2, .slice none 0 0, .int .i64 1, .int .i64 2] 59)).trans (ext_alloc _ (.cells #[.string ⟨#[112, 108, 101, 97]⟩, .slice (some ⟨w4.heap.size, 0, none⟩) 4 4, .string ⟨#[110, 111, 116, 101]⟩, .slice (some ⟨w7.heap.size, 0, none⟩) 3 3, .string ⟨#[108, 105, 115, 116]⟩, .slice (some ⟨w9.heap.size, 0, none⟩) 2 2] 55))).cell c1
  refine bodyPost_ret (v := .agg #[.int .i64 12, .slice (some ⟨w9.heap.size + 1, 0, none⟩) 3 3]) (by simp [results, Tryz.results34, go_sem, c0', c1']) rfl ⟨_, rfl, ⟨_, rfl, by constructor <;> decide, ?_⟩, (y2.alloc _).alloc _⟩
  have p3 : PartsAt (W.alloc (.cells #[.slice none 0 0, .int .i64 1, .int .i64 2, .slice none 0 0, .int .i64 1, .int .i64 2] 59)) (.slice (some ⟨w9.heap.size, 0, none⟩) 2 2) parts3 := ⟨_, _, rfl, by decide, by decide, fun i hi => by
    have : i = 0 ∨ i = 1 := by simp [parts3] at hi; omega
    refine ⟨_, _, rfl, ?_⟩
    rcases this with rfl | rfl
    · exact ⟨⟨.slice none 0 0, by simp [go_sem, hsz], SliceAt.nil⟩, by simp [go_sem, hsz, parts3, roomP], by simp [go_sem, hsz, parts3, roomP], hr _ _ (by simp [parts3, roomP])⟩
    · exact ⟨⟨.slice none 0 0, by simp [go_sem, hsz], SliceAt.nil⟩, by simp [go_sem, hsz, parts3, roomP], by simp [go_sem, hsz, parts3, roomP], hr _ _ (by simp [parts3, roomP])⟩⟩
  refine ⟨_, _, rfl, by decide, by decide, fun i hi => ?_⟩
  have hi3 : i = 0 ∨ i = 1 ∨ i = 2 := by simp [shelfE] at hi; omega
  refine ⟨_, _, rfl, ?_⟩
  rcases hi3 with rfl | rfl | rfl
  · exact ⟨by simp [go_sem, hsz, shelfE], by simp [shelfE]; decide, _, by simp [go_sem, hsz], (p1.at_.ext (ext_alloc _ _)).ext (ext_alloc _ _)⟩
  · exact ⟨by simp [go_sem, hsz, shelfE], by simp [shelfE]; decide, _, by simp [go_sem, hsz], (p2.at_.ext (ext_alloc _ _)).ext (ext_alloc _ _)⟩
  · exact ⟨by simp [go_sem, hsz, shelfE], by simp [shelfE]; decide, _, by simp [go_sem, hsz], p3.ext (ext_alloc _ _)⟩
end Go.Proofs.YtcamegaimleomaaGreat

namespace Go.Proofs.YtcamegaimleomaaGreat
set_option linter.unusedSimpArgs false
set_option linter.unusedVariables false
open Go.RowKit
set_option linter.unusedVariables false

set_option maxRecDepth 100000 in
theorem lawTurn_any (v : Value) (l : List Int) (n : Nat) (w : World) (hn : n ≤ 9223372036854775807) (hl : BytesAt w v l) : Calls Tryz.prog 87 #[v, .int .i64 n] w fun e w' => e = .returned (.int .i64 (turnM l n)) ∧ w = w' := by
  obtain ⟨a, cap, rfl, hlc, hcm, hc⟩ := hl
  by_cases h0 : l.length = 0
  · have h0' : ((l.length : Int) == 0) = true := by simp [h0]
    have H0 := Lib.hid h0
    clear hc h0
    go_enter Tryz.func87, Tryz.ntmps87
    go_wp2
    go_ret
    exact ⟨ret_int (by rw [List.eq_nil_of_length_eq_zero H0.out]; rfl), rfl⟩
  · have h0' : ((l.length : Int) == 0) = false := by simp; intro e; exact h0 (by simp [e])
    have hml : n % l.length < l.length := Nat.mod_lt _ (by omega)
    have hm : Int.tmod (n : Int) (l.length : Int) = ((n % l.length : Nat) : Int) := by rw [Int.tmod_eq_emod_of_nonneg (by omega)]; simp
    obtain ⟨b, off, rfl, c0, hu⟩ := hc (n % l.length) hml
    have hgd : turnM l n = l[n % l.length] := by rw [turnM, List.getD_eq_getElem?_getD, List.getElem?_eq_getElem hml]; rfl
    generalize hy : l[n % l.length] = y at *
    have Hgd := Lib.hid hgd
    clear hgd hy hc
    simp only [Nat.mul_one] at c0
    generalize hq : n % l.length = q at *
    have wq : IntKind.i64.wrap (q : Int) = q := IntWalk.i64_in _ (by omega)
    have wy : IntKind.i64.wrap y = y := IntWalk.i64_in _ (by unfold U8 at hu; omega)
    have q1 : (q : Int) < (l.length : Int) := by omega
    have nz : ¬ (l.length : Int) = 0 := by omega
    clear hq
    go_enter Tryz.func87, Tryz.ntmps87
    go_wp2
    go_ret
    exact ⟨ret_int Hgd.out.symm, rfl⟩
theorem turnM_in {w : World} {v : Value} {l : List Int} (hl : BytesAt w v l) (n : Nat) : 0 ≤ turnM l n ∧ turnM l n ≤ 255 := by
  obtain ⟨a, cap, rfl, hlc, hcm, hc⟩ := hl
  unfold turnM
  rcases Nat.eq_zero_or_pos l.length with h0 | h0
  · rw [List.eq_nil_of_length_eq_zero h0]; simp
  · have hml : n % l.length < l.length := Nat.mod_lt _ (by omega)
    rw [List.getD_eq_getElem?_getD, List.getElem?_eq_getElem hml]
    obtain ⟨b, off, -, -, hu⟩ := hc _ hml
    exact hu
theorem said_any (w : World) : Calls Tryz.prog 88 #[] w fun e w' => (∃ B, e = .returned (.slice (some ⟨B, 0, none⟩) 8 8) ∧ StrsAt w' (.slice (some ⟨B, 0, none⟩) 8 8) saidL) ∧ Ext w w' := by
  go_enter Tryz.func88, Tryz.ntmps88
  go_wp2
  go_ret
  refine ⟨⟨_, rfl, _, _, rfl, by decide, by decide, fun i hi => ⟨_, _, rfl, ?_⟩⟩, ext_alloc _ _⟩
  have : i = 0 ∨ i = 1 ∨ i = 2 ∨ i = 3 ∨ i = 4 ∨ i = 5 ∨ i = 6 ∨ i = 7 := by simp [saidL] at hi; omega
  rcases this with rfl | rfl | rfl | rfl | rfl | rfl | rfl | rfl
  all_goals exact ⟨by simp [go_sem, saidL], by simp [saidL]; decide⟩

theorem mod_nat (y n : Nat) : Int.tmod (y : Int) (n : Int) = ((y % n : Nat) : Int) := by rw [Int.tmod_eq_emod_of_nonneg (by omega)]; simp
theorem said_at (m : Nat) (h : m < 8) : m < saidL.length := h
theorem MarksAt.grownBy {w w' : World} {row : Option Nat} {sa : Option Addr} {n sc : Nat} {l : List Mark} (h : MarksAt w (.slice sa n sc) l) (hg : w.grownBy w' row) (hne : ∀ ad, sa = some ad → some ad.block ≠ row) : MarksAt w' (.slice sa n sc) l := by
  obtain ⟨a, cap, e, h2, h3, h4⟩ := h
  obtain ⟨rfl, rfl, rfl⟩ := Value.slice.inj e
  refine ⟨_, _, rfl, h2, h3, fun i hi => ?_⟩
  obtain ⟨b, o, rfl, r0, r1, r2⟩ := h4 i hi
  exact ⟨b, o, rfl, hg.cell r0 (show some b ≠ row from hne ⟨b, o, none⟩ rfl), hg.cell r1 (show some b ≠ row from hne ⟨b, o, none⟩ rfl), r2⟩
theorem RowW.shape {base : Nat} {l : List ByteArray} {u : Value} {w : World} (h : RowW base l u w) : ∃ a c, u = .slice a l.length c := by
  rcases h.2 with ⟨rfl, hn⟩ | ⟨g, cap, cur, rfl, -⟩
  · exact ⟨_, _, by rw [hn]⟩
  · exact ⟨_, _, rfl⟩
theorem RowK.newer {base : Nat} {l : List Mark} {u : Value} {w : World} (h : RowK base l u w) : ∀ ad n c, u = .slice (some ad) n c → base ≤ ad.block := by
  intro ad n c hu
  rcases h.2 with ⟨rfl, hn⟩ | ⟨g, cap, cur, rfl, hb, -⟩
  · cases hu
  · cases hu; exact hb
/-- the marks do not lie in the row of words -/
def Apart (mv ov : Value) : Prop := ∀ ad n c, mv = .slice (some ad) n c → some ad.block ≠ ov.ownBlock
theorem Apart.nil (ov : Value) : Apart (.slice none 0 0) ov := fun ad n c h => by cases h
end Go.Proofs.YtcamegaimleomaaGreat

namespace Go.Proofs.YtcamegaimleomaaGreat
set_option linter.unusedSimpArgs false
set_option linter.unusedVariables false
open Go.RowKit

def settledM (some all : Int) : Int := if some = all then 1 else if some = 0 then 2 else 0
def lessM : List Int → List Int → Bool
  | _, [] => false
  | [], _ :: _ => true
  | x :: l, y :: m => if x = y then lessM l m else decide (x < y)
theorem lessM_step (l m : List Int) (k : Nat) (h1 : k < l.length) (h2 : k < m.length) : lessM (l.drop k) (m.drop k) = if l[k] = m[k] then lessM (l.drop (k + 1)) (m.drop (k + 1)) else decide (l[k] < m[k]) := by
  rw [List.drop_eq_getElem_cons h1, List.drop_eq_getElem_cons h2, lessM]

set_option maxHeartbeats 1000000 in
set_option maxRecDepth 100000 in
theorem less_any (v u : Value) (l m : List Int) (w : World) (hl : IntsAt w v l) (hm : IntsAt w u m) :
    Calls Tryz.prog 47 #[v, u] w fun r w' => r = .returned (.bool (lessM l m)) ∧ Ext w w' := by
  obtain ⟨a, cap, rfl, hlc, hcm⟩ := hl.shape
  obtain ⟨a', cap', rfl, hlc', hcm'⟩ := hm.shape
  go_enter Tryz.func47, Tryz.ntmps47
  go_wp2
  go_loopw [5] (fun i wr => ∃ k : Nat, k ≤ l.length ∧ k ≤ m.length ∧ i = .int .i64 k ∧ Ext w wr ∧ lessM (l.drop k) (m.drop k) = lessM l m) (fun i _ => l.length - (intOf i).toNat)
  case atStart => exact ⟨0, Nat.zero_le _, Nat.zero_le _, rfl, Ext.refl _, rfl⟩
  case round =>
    obtain ⟨k, hk, hk', rfl, hx, hd⟩ := hrel
    have Hd := Lib.hid hd; clear hd
    by_cases h1 : k < l.length
    · have k1 : (k : Int) < (l.length : Int) := by omega
      by_cases h2 : k < m.length
      · have k2 : (k : Int) < (m.length : Int) := by omega
        have n1 : ((k : Int) == (l.length : Int)) = false := by simp; omega
        have n2 : ((k : Int) == (m.length : Int)) = false := by simp; omega
        obtain ⟨_, _, he, -, -, hh⟩ := hl.ext hx
        obtain ⟨b, off, rfl, c0, -⟩ := hh k h1
        cases he
        clear hh
        obtain ⟨_, _, he, -, -, hh⟩ := hm.ext hx
        obtain ⟨b', off', rfl, c1, -⟩ := hh k h2
        cases he
        clear hh
        have hst := lessM_step l m k h1 h2
        generalize hx' : l[k] = x at *
        generalize hy : m[k] = y at *
        have Hst := Lib.hid hst
        clear hx' hy hst
        simp only [Nat.mul_one] at c0 c1
        by_cases h0 : x = y
        · subst h0
          have h0' : (x == x) = true := by simp
          go_wp2_with fail
          apply Facts.wp_region [.val _, .val _, .val _, .val _, .val _, .val _, .val _, .val _, .val _, .val _, .val _, .val _, .val _, .val _, .val _, .val _, .val _, .val _, .val _, .val _, .val _] (by kernel_rfl) (by kernel_rfl) trivial ?main
          case main =>
            iterate 21 (refine ⟨fun w1 hx hh => ?_, ?_⟩; focus (clear hh; have e0 := hx.cell c0; have e1 := hx.cell c1; go_simp; exact ⟨Ext.refl _, rfl⟩))
            intro w1 hx1 hh
            have hx3 := hx.trans hx1
            clear hh c0 c1
            go_simp
            go_wp2
            go_roundw
            case rel => exact ⟨k + 1, by omega, by omega, by go_num, hx3, by rw [← Hd.out, Hst.out]; simp⟩
            case measure => simp [intOf]; omega
        · have h0' : (x == y) = false := by simpa using h0
          have H0 := Lib.hid h0
          clear h0
          go_wp2_with fail
          apply Facts.wp_region [.val _, .val _, .val _, .val _, .val _, .val _, .val _, .val _, .val _, .val _, .val _, .val _, .val _, .val _, .val _, .val _, .val _, .val _, .val _, .val _, .val _] (by kernel_rfl) (by kernel_rfl) trivial ?main
          case main =>
            iterate 21 (refine ⟨fun w1 hx hh => ?_, ?_⟩; focus (clear hh; have e0 := hx.cell c0; have e1 := hx.cell c1; go_simp; exact ⟨Ext.refl _, rfl⟩))
            intro w1 hx1 hh
            have hx3 := hx.trans hx1
            have c2 := hx1.cell c0
            have c3 := hx1.cell c1
            clear hh c0 c1
            go_simp
            go_wp2_with fail
            apply Facts.wp_region [.val _, .val _, .val _, .val _, .val _, .val _, .val _, .val _, .val _, .val _, .val _, .val _, .val _, .val _, .val _, .val _] (by kernel_rfl) (by kernel_rfl) trivial ?main
            case main =>
              iterate 16 (refine ⟨fun w1 hx hh => ?_, ?_⟩; focus (clear hh; have e0 := hx.cell c2; have e1 := hx.cell c3; go_simp; exact ⟨Ext.refl _, rfl⟩))
              intro w2 hx2 hh
              have hx4 := hx3.trans hx2
              clear hh c2 c3
              go_simp
              go_wp2
              go_ret
              exact ⟨ret_bool (by rw [← Hd.out, Hst.out, if_neg H0.out]), hx4⟩
      · obtain rfl : k = m.length := by omega
        have k2 : ¬ (m.length : Int) < (m.length : Int) := by omega
        go_wp2_with fail
        apply Facts.wp_region [.val _, .val _, .val _, .val _, .val _, .val _, .val _, .val _, .val _, .val _, .val _, .val _, .val _, .val _, .val _, .val _, .val _, .val _, .val _, .val _, .val _] (by kernel_rfl) (by kernel_rfl) trivial ?main
        case main =>
          iterate 21 (refine ⟨fun w1 hx hh => ?_, ?_⟩; focus (clear hh; skip; go_simp; exact ⟨Ext.refl _, rfl⟩))
          intro w1 hx1 hh
          have hx3 := hx.trans hx1
          clear hh
          go_simp
          go_wp2
          go_ret
          exact ⟨ret_bool (by rw [← Hd.out, List.drop_eq_getElem_cons h1, List.drop_eq_nil_of_le (Nat.le_refl _)]; rfl), hx3⟩
    · obtain rfl : k = l.length := by omega
      have k1 : ¬ (l.length : Int) < (l.length : Int) := by omega
      by_cases h2 : ((l.length : Int) == (m.length : Int)) = true
      · go_wp2_with fail
        apply Facts.wp_region [.val _, .val _, .val _, .val _, .val _, .val _, .val _, .val _, .val _, .val _, .val _, .val _, .val _, .val _, .val _, .val _, .val _, .val _, .val _, .val _, .val _] (by kernel_rfl) (by kernel_rfl) trivial ?main
        case main =>
          iterate 21 (refine ⟨fun w1 hx hh => ?_, ?_⟩; focus (clear hh; skip; go_simp; exact ⟨Ext.refl _, rfl⟩))
          intro w1 hx1 hh
          have hx3 := hx.trans hx1
          clear hh
          go_simp
          go_wp2
          go_ret
          exact ⟨ret_bool (by rw [← Hd.out, List.drop_eq_nil_of_le (Nat.le_refl _), List.drop_eq_nil_of_le (by simp at h2; omega)]; rfl), hx3⟩
      · have h2' : ((l.length : Int) == (m.length : Int)) = false := by simpa using h2
        have h3 : l.length < m.length := by simp at h2; omega
        clear h2
        go_wp2_with fail
        apply Facts.wp_region [.val _, .val _, .val _, .val _, .val _, .val _, .val _, .val _, .val _, .val _, .val _, .val _, .val _, .val _, .val _, .val _, .val _, .val _, .val _, .val _, .val _] (by kernel_rfl) (by kernel_rfl) trivial ?main
        case main =>
          iterate 21 (refine ⟨fun w1 hx hh => ?_, ?_⟩; focus (clear hh; skip; go_simp; exact ⟨Ext.refl _, rfl⟩))
          intro w1 hx1 hh
          have hx3 := hx.trans hx1
          clear hh
          go_simp
          go_wp2_with fail
          apply Facts.wp_region [.val _, .val _, .val _, .val _, .val _, .val _, .val _, .val _, .val _, .val _, .val _, .val _, .val _, .val _, .val _, .val _] (by kernel_rfl) (by kernel_rfl) trivial ?main
          case main =>
            iterate 16 (refine ⟨fun w1 hx hh => ?_, ?_⟩; focus (clear hh; skip; go_simp; exact ⟨Ext.refl _, rfl⟩))
            intro w2 hx2 hh
            have hx4 := hx3.trans hx2
            clear hh
            go_simp
            go_wp2
            go_ret
            exact ⟨ret_bool (by rw [← Hd.out, List.drop_eq_nil_of_le (Nat.le_refl _), List.drop_eq_getElem_cons h3]; rfl), hx4⟩
end Go.Proofs.YtcamegaimleomaaGreat

namespace Go.Proofs.YtcamegaimleomaaGreat
set_option linter.unusedSimpArgs false
set_option linter.unusedVariables false
open Go.RowKit

theorem lessM_self (l : List Int) : lessM l l = false := by
  induction l with
  | nil => rfl
  | cons x l ih => simp [lessM, ih]
theorem lessM_total : ∀ l m : List Int, lessM l m = false → lessM m l = false → l = m
  | [], [] => fun _ _ => rfl
  | [], _ :: _ => fun h _ => by simp [lessM] at h
  | _ :: _, [] => fun _ h => by simp [lessM] at h
  | x :: l, y :: m => fun h h' => by
    by_cases e : x = y
    · subst e
      simp only [lessM, if_true] at h h'
      rw [lessM_total l m h h']
    · simp only [lessM, e, Ne.symm e, if_false, decide_eq_false_iff_not] at h h'
      omega
set_option maxHeartbeats 1000000 in
set_option maxRecDepth 100000 in
theorem ints_any (v u : Value) (l m : List Int) (w : World) (hl : IntsAt w v l) (hm : IntsAt w u m) :
    Calls Tryz.prog 10 #[v, u] w fun r w' => r = .returned (.bool (decide (l = m))) ∧ Ext w w' := by
  have hsl := hl.shape
  have hsm := hm.shape
  obtain ⟨a, cap, rfl, hlc, hcm⟩ := hsl
  obtain ⟨a', cap', rfl, hlc', hcm'⟩ := hsm
  by_cases h : ((l.length : Int) == (m.length : Int)) = true
  · go_enter Tryz.func10, Tryz.ntmps10
    go_wp2_with fail
    refine (less_any _ _ l m w hl hm).mono ?_
    rintro e w1 ⟨rfl, hx1⟩
    cases h1 : lessM l m
    · have H1 := Lib.hid h1; clear h1
      go_wp2_with fail
      refine (less_any _ _ m l w1 (hm.ext hx1) (hl.ext hx1)).mono ?_
      rintro e w2 ⟨rfl, hx2⟩
      have hx3 := hx1.trans hx2
      cases h2 : lessM m l
      all_goals
        have H2 := Lib.hid h2; clear h2
        go_wp2
        go_ret
        first
          | exact ⟨ret_bool (by rw [decide_eq_true (lessM_total l m H1.out H2.out)]), hx3⟩
          | exact ⟨ret_bool (by rw [eq_comm, decide_eq_false_iff_not]; intro e; subst e; have := H2.out; rw [lessM_self] at this; cases this), hx3⟩
    · have H1 := Lib.hid h1; clear h1
      go_wp2
      go_ret
      exact ⟨ret_bool (by rw [eq_comm, decide_eq_false_iff_not]; intro e; subst e; have := H1.out; rw [lessM_self] at this; cases this), hx1⟩
  · have h' : ((l.length : Int) == (m.length : Int)) = false := by simpa using h
    have hn : ¬ l = m := fun e => by subst e; simp at h'
    have Hn := Lib.hid hn
    clear h hn
    go_enter Tryz.func10, Tryz.ntmps10
    go_wp2
    go_ret
    exact ⟨ret_bool (by rw [decide_eq_false Hn.out]), Ext.refl _⟩

def fewerM (l m : List Int) : Bool := if l.length = m.length then lessM l m else decide (l.length < m.length)
end Go.Proofs.YtcamegaimleomaaGreat

namespace Go.Proofs.YtcamegaimleomaaGreat
set_option linter.unusedSimpArgs false
set_option linter.unusedVariables false
open Go.RowKit

theorem mem_take_step (l : List Int) (k : Nat) (n x : Int) (h : k < l.length) (hx : l[k] = x) : decide (n ∈ l.take (k + 1)) = (decide (n ∈ l.take k) || (x == n)) := by
  rw [List.take_succ_eq_append_getElem h, hx]
  by_cases h1 : n ∈ l.take k <;> by_cases h2 : x = n
  · simp [h1, h2]
  · simp [h1]
  · simp [h1, h2]
  · simp [h1, h2, Ne.symm h2]
set_option maxHeartbeats 1000000 in
set_option maxRecDepth 100000 in
theorem has_any (v : Value) (n : Int) (l : List Int) (w : World) (hl : IntsAt w v l) :
    Calls Tryz.prog 30 #[v, .int .i64 n] w fun r w' => r = .returned (.bool (decide (n ∈ l))) ∧ Ext w w' := by
  obtain ⟨a, cap, rfl, hlc, hcm⟩ := hl.shape
  go_enter Tryz.func30, Tryz.ntmps30
  go_wp2
  go_loopw [5, 6] (fun m i wr => ∃ k : Nat, ∃ met : Bool, k ≤ l.length ∧ m = .bool met ∧ i = .int .i64 k ∧ Ext w wr ∧ decide (n ∈ l.take k) = met) (fun _ i _ => l.length - (intOf i).toNat)
  case atStart => exact ⟨0, false, Nat.zero_le _, rfl, rfl, Ext.refl _, by simp⟩
  case round =>
    obtain ⟨k, met, hk, rfl, rfl, hx, hd⟩ := hrel
    have Hd := Lib.hid hd; clear hd
    by_cases h1 : k < l.length
    · have k1 : (k : Int) < (l.length : Int) := by omega
      obtain ⟨_, _, he, -, -, hh⟩ := hl.ext hx
      obtain ⟨b, off, rfl, c0, -⟩ := hh k h1
      cases he
      clear hh
      generalize hx' : l[k] = x at *
      have hst := mem_take_step l k n x h1 hx'
      have Hst := Lib.hid hst
      clear hx' hst
      simp only [Nat.mul_one] at c0
      cases met
      · cases h0 : x == n
        all_goals
          have H0 := Lib.hid h0
          go_wp2
          go_roundw
          case rel => exact ⟨k + 1, _, by omega, rfl, by go_num, hx, by rw [Hst.out, Hd.out, H0.out]; rfl⟩
          case measure => simp [intOf]; omega
      · go_wp2
        go_roundw
        case rel => exact ⟨k + 1, true, by omega, rfl, by go_num, hx, by rw [Hst.out, Hd.out]; rfl⟩
        case measure => simp [intOf]; omega
    · go_wp2
      go_ret
      have := Hd.out
      rw [List.take_of_length_le (by omega)] at this
      exact ⟨ret_bool this.symm, hx⟩

def risingM (below : Int) : Int → List Int → Bool
  | _, [] => true
  | last, x :: l => decide (last < x) && decide (x < below) && risingM below x l
set_option maxRecDepth 100000 in
theorem all_any (n : Nat) (h : n ≤ 4) (w : World) : Calls Tryz.prog 119 #[.int .i64 n] w fun r w' => r = .returned (.int .i64 (2 ^ n - 1)) ∧ w = w' := by
  go_enter Tryz.func119, Tryz.ntmps119
  go_wp2
  go_loop [3, 4] (fun m i => ∃ k : Nat, k ≤ n ∧ m = .int .i64 (2 ^ k - 1) ∧ i = .int .i64 k) (fun _ i => n - (intOf i).toNat)
  case atStart => exact ⟨0, Nat.zero_le _, rfl, rfl⟩
  case round =>
    obtain ⟨k, hk, rfl, rfl⟩ := hrel
    by_cases h1 : k < n
    · have hk4 : k = 0 ∨ k = 1 ∨ k = 2 ∨ k = 3 := by omega
      rcases hk4 with rfl | rfl | rfl | rfl
      all_goals
        have h1' : _ := Int.ofNat_lt.2 h1
        go_wp2
        go_round
        case rel => exact ⟨_, h1, rfl, rfl⟩
        case measure => simp [intOf]; omega
    · obtain rfl : k = n := by omega
      go_wp2
      go_ret
      exact ⟨rfl, rfl⟩
end Go.Proofs.YtcamegaimleomaaGreat

namespace Go.Proofs.YtcamegaimleomaaGreat
set_option linter.unusedSimpArgs false
set_option linter.unusedVariables false
open Go.RowKit

def bitM : Nat → Int → Bool
  | 0, c => c.tmod 2 == 1
  | n + 1, c => bitM n (c.tdiv 2)
theorem tdiv2_in (c : Int) (h : I64 c) : I64 (c.tdiv 2) := by
  unfold I64 at *
  rcases Int.le_total 0 c with h0 | h0
  · rw [Int.tdiv_eq_ediv_of_nonneg h0]; omega
  · have e : c.tdiv 2 = -((-c) / 2) := by
      rw [← Int.tdiv_eq_ediv_of_nonneg (by omega), Int.neg_tdiv, Int.neg_neg]
    rw [e]; omega
def whereM (s : ByteArray) : List ByteArray → Nat → Int
  | [], _ => -1
  | x :: l, k => if (x.toList == s.toList) = true then k else whereM s l (k + 1)
theorem whereM_step (s : ByteArray) (l : List ByteArray) (k : Nat) (h : k < l.length) (x : ByteArray) (hx : l[k] = x) : whereM s (l.drop k) k = if (x.toList == s.toList) = true then (k : Int) else whereM s (l.drop (k + 1)) (k + 1) := by
  rw [List.drop_eq_getElem_cons h, hx, whereM]
theorem whereM_ge (s : ByteArray) (l : List ByteArray) : ∀ k : Nat, decide (0 ≤ whereM s l k) = l.any fun y => y.toList == s.toList := by
  induction l with
  | nil => intro k; simp [whereM]
  | cons x l ih =>
    intro k
    rw [whereM, List.any_cons]
    cases h : x.toList == s.toList
    · simp only [Bool.false_eq_true, if_false, Bool.false_or]; exact ih _
    · simp only [if_true, Bool.true_or, decide_eq_true_eq]; exact Int.natCast_nonneg k
set_option maxHeartbeats 1000000 in
set_option maxRecDepth 100000 in
theorem where_any (v : Value) (s : ByteArray) (l : List ByteArray) (w : World) (hl : StrsAt w v l) :
    Calls Tryz.prog 117 #[v, .string s] w fun r w' => r = .returned (.int .i64 (whereM s l 0)) ∧ w = w' := by
  obtain ⟨a, cap, rfl, hlc, hcm, hc⟩ := hl
  go_enter Tryz.func117, Tryz.ntmps117
  go_wp2
  go_loop [5] (fun i => ∃ k : Nat, k ≤ l.length ∧ i = .int .i64 k ∧ whereM s (l.drop k) k = whereM s l 0) (fun i => l.length - (intOf i).toNat)
  case atStart => exact ⟨0, Nat.zero_le _, rfl, rfl⟩
  case round =>
    obtain ⟨k, hk, rfl, hd⟩ := hrel
    have Hd := Lib.hid hd; clear hd
    by_cases h1 : k < l.length
    · have k1 : (k : Int) < (l.length : Int) := by omega
      have n1 : ((k : Int) == (l.length : Int)) = false := by simp; omega
      obtain ⟨b, off, rfl, c0, -⟩ := hc k h1
      clear hc
      have hst := fun x hx => whereM_step s l k h1 x hx
      generalize hx : l[k] = x at *
      have Hst := Lib.hid (hst x rfl)
      clear hx hst
      simp only [Nat.mul_one] at c0
      cases h2 : x.toList == s.toList
      all_goals
        have H2 := Lib.hid h2
        go_wp2
        first
          | (go_ret
             exact ⟨ret_int (by rw [← Hd.out, Hst.out, if_pos H2.out]), rfl⟩)
          | (go_round
             case rel => exact ⟨k + 1, by omega, by go_num, by rw [← Hd.out, Hst.out, if_neg (by rw [H2.out]; decide)]⟩
             case measure => simp [intOf]; omega)
    · obtain rfl : k = l.length := by omega
      go_wp2
      go_ret
      have := Hd.out
      rw [List.drop_eq_nil_of_le (Nat.le_refl _)] at this
      exact ⟨ret_int this, rfl⟩
end Go.Proofs.YtcamegaimleomaaGreat

namespace Go.Proofs.YtcamegaimleomaaGreat
set_option linter.unusedSimpArgs false
set_option linter.unusedVariables false
open Go.RowKit

def nameTo (s : ByteArray) (k : Nat) : Bool := inM s.size 1 16 && (List.range k).all fun k => okByte k (byteAt s k)
theorem nameTo_step (s : ByteArray) (k : Nat) : nameTo s (k + 1) = (nameTo s k && okByte k (byteAt s k)) := by
  simp [nameTo, List.range_succ, Bool.and_assoc]

set_option maxHeartbeats 1000000 in
set_option maxRecDepth 100000 in
theorem refName_any (s : ByteArray) (w : World) (hs : s.size ≤ 9223372036854775807) :
    Calls Tryz.prog 118 #[.string s] w fun e w' => e = .returned (.bool (nameM s)) ∧ w = w' := by
  go_enter Tryz.func118, Tryz.ntmps118
  go_wp2_with (go_at_call 69; refine (In_any _ _ _ _).mono ?_; rintro e w' ⟨rfl, rfl⟩)
  go_loop [3, 4, 5] (fun f i _ => ∃ k : Nat, ∃ fine : Bool, k ≤ s.size ∧ f = .bool fine ∧ i = .int .i64 k ∧ nameTo s k = fine) (fun _ i _ => s.size - (intOf i).toNat)
  case atStart => exact ⟨0, _, Nat.zero_le _, rfl, rfl, by simp [nameTo]⟩
  case round =>
    obtain ⟨k, fine, hk, rfl, rfl, hd⟩ := hrel
    have Hd := Lib.hid hd; clear hd
    by_cases h1 : k < s.size
    · have k1 : (k : Int) < (s.size : Int) := by omega
      have Hst : Hid (nameTo s (k + 1) = (nameTo s k && okByte k ((s[k]'h1).toNat : Int))) := Lib.hid (by rw [nameTo_step, byteAt_eq s k h1])
      by_cases i2 : ((s[k]'h1).toNat : Int) = 46
      · have I2 := Lib.hid i2
        have i1 : inM 46 97 122 = false := by decide
        cases fine
        all_goals
          by_cases hk0 : k = 0
          · subst hk0
            go_wp2_with (go_at_call 69; refine (In_any _ _ _ _).mono ?_; rintro e w' ⟨rfl, rfl⟩)
            go_round
            case rel => exact ⟨1, _, by omega, rfl, by go_num, by rw [Hst.out, Hd.out, I2.out]; rfl⟩
            case measure => simp [intOf]; omega
          · have k0 : (0 : Int) < (k : Int) := by omega
            have K0 := Lib.hid hk0
            go_wp2_with (go_at_call 69; refine (In_any _ _ _ _).mono ?_; rintro e w' ⟨rfl, rfl⟩)
            go_round
            case rel => exact ⟨k + 1, _, by omega, rfl, by go_num, by
              rw [Hst.out, Hd.out, I2.out]
              first
                | rfl
                | (simp [okByte, K0.out]; done)⟩
            case measure => simp [intOf]; omega
      · have I2 := Lib.hid i2
        have wc : IntKind.i64.wrap ((s[k]'h1).toNat : Int) = ((s[k]'h1).toNat : Int) := IntWalk.i64_in _ (by have := (s[k]'h1).toNat_lt; omega)
        cases i1 : inM ((s[k]'h1).toNat : Int) 97 122
        all_goals
          have I1 := Lib.hid i1
          cases fine
          all_goals
            by_cases hk0 : k = 0
            · subst hk0
              go_wp2_with (go_at_call 69; refine (In_any _ _ _ _).mono ?_; rintro e w' ⟨rfl, rfl⟩)
              go_round
              case rel => exact ⟨1, _, by omega, rfl, by go_num, by rw [Hst.out, Hd.out]; first | rfl | (rw [okByte, I1.out]; rfl)⟩
              case measure => simp [intOf]; omega
            · have k0 : (0 : Int) < (k : Int) := by omega
              have K0 := Lib.hid hk0
              go_wp2_with (go_at_call 69; refine (In_any _ _ _ _).mono ?_; rintro e w' ⟨rfl, rfl⟩)
              go_round
              case rel => exact ⟨k + 1, _, by omega, rfl, by go_num, by
                rw [Hst.out, Hd.out]
                first
                  | rfl
                  | (rw [okByte, I1.out]; rfl)
                  | (rw [okByte, I1.out]; simp [K0.out]; exact Bool.or_comm _ _)⟩
              case measure => simp [intOf]; omega
    · obtain rfl : k = s.size := by omega
      go_wp2
      go_ret
      exact ⟨ret_bool Hd.out.symm, rfl⟩

def freshM (s : ByteArray) (l : List ByteArray) : Int := if nameM s = false then 6 else if (l.any fun y => y.toList == s.toList) = true then 5 else 0
theorem fresh_any (v : Value) (s : ByteArray) (l : List ByteArray) (w : World) (hs : s.size ≤ 9223372036854775807) (hl : StrsAt w v l) :
    Calls Tryz.prog 70 #[.string s, v] w fun r w' => r = .returned (.int .i64 (freshM s l)) ∧ w = w' := by
  obtain ⟨a, cap, rfl, hlc, hcm⟩ := hl.shape
  have hw := whereM_ge s l 0
  generalize hm : whereM s l 0 = m at *
  have HM := Lib.hid hm; clear hm
  have HW := Lib.hid hw; clear hw
  by_cases h0 : 0 ≤ m
  all_goals
    have H0 := Lib.hid h0
    cases hn : nameM s
    all_goals
      have HN := Lib.hid hn
      go_enter Tryz.func70, Tryz.ntmps70
      go_wp2_with (first | (go_at_call 117; refine (where_any _ s l _ hl).mono ?_; rintro e w' ⟨rfl, rfl⟩; rw [HM.out]) | (go_at_call 118; refine (refName_any s _ hs).mono ?_; rintro e w' ⟨rfl, rfl⟩))
      go_ret
      first
        | exact ⟨ret_int (by rw [freshM, if_pos HN.out]), rfl⟩
        | exact ⟨ret_int (by rw [freshM, if_neg (by rw [HN.out]; decide), if_pos (by rw [← HW.out]; exact decide_eq_true H0.out)]), rfl⟩
        | exact ⟨ret_int (by rw [freshM, if_neg (by rw [HN.out]; decide), if_neg (by rw [← HW.out, decide_eq_true_eq]; have := H0.out; omega)]), rfl⟩
end Go.Proofs.YtcamegaimleomaaGreat

namespace Go.Proofs.YtcamegaimleomaaGreat
set_option linter.unusedSimpArgs false
set_option linter.unusedVariables false
open Go.RowKit
set_option linter.unusedVariables false

theorem refRoomy_any (a : Option Addr) (n cap : Nat) (lo hi : Int) (w : World) :
    Calls Tryz.prog 28 #[.agg #[.slice a n cap, .int .i64 lo, .int .i64 hi]] w fun e w' => e = .returned (.bool ((n : Int) == 0)) ∧ Ext w w' := by
  go_enter Tryz.func28, Tryz.ntmps28
  go_wp2
  go_ret
  exact ⟨by simp, (by first | (with_reducible exact Ext.refl _) | (with_reducible assumption) | (show Below _ _ _; go_grown; done))⟩
theorem span_fields : ∃ f g, (Tryz.prog.fieldsOf 57).toList = [f, g] ∧ f.type = 3 ∧ f.offset = 0 ∧ g.type = 3 ∧ g.offset = 1 ∧ f.name = "Lo" ∧ g.name = "Hi" := by
  have hf : ((Tryz.prog.fieldsOf 57).toList.map fun f => (f.name, f.type, f.offset)) = [("Lo", 3, 0), ("Hi", 3, 1)] := by kernel_rfl
  generalize (Tryz.prog.fieldsOf 57).toList = fs at *
  obtain ⟨f, g, rfl⟩ : ∃ f g, fs = [f, g] := by
    rcases fs with _ | ⟨f, _ | ⟨g, _ | ⟨h, r⟩⟩⟩
    · simp at hf
    · simp at hf
    · exact ⟨f, g, rfl⟩
    · simp at hf
  simp only [List.map_cons, List.map_nil, List.cons.injEq, Prod.mk.injEq, and_true] at hf
  obtain ⟨⟨h1, h2, h3⟩, h4, h5, h6⟩ := hf
  exact ⟨f, g, rfl, h2, h3, h5, h6, h1, h4⟩
theorem equal_span (a b c d : Int) (w : World) : (Op.equal 57 (.agg #[.int .i64 a, .int .i64 b]) (.agg #[.int .i64 c, .int .i64 d])).run Tryz.prog w = .ok (decide (a = c ∧ b = d)) w := by
  have hop : ∀ x y : Value, Op.equal 57 x y = Op.equalIn Op.maxDepth 57 x y := fun _ _ => rfl
  obtain ⟨m0, hd⟩ : ∃ m0, Op.maxDepth = m0 + 2 := ⟨9998, by decide⟩
  have ha : ∀ w, (isAgg 3).run Tryz.prog w = .ok false w := fun _ => by kernel_rfl
  rw [hop, hd]
  rw [run_equalIn_struct _ _ _ _ _ (by kernel_rfl) (by kernel_rfl)]
  obtain ⟨f, g, hfs, h2, h3, h5, h6, n1, n2⟩ := span_fields
  rw [hfs]
  simp [Op.eqFields, h2, h3, h5, h6, n1, n2, part, ha, go_sem]
  by_cases e1 : a = c <;> by_cases e2 : b = d <;> simp [e1, e2]
theorem neq_span (a b c d : Int) (w : World) : (binOp .neq 57 (.agg #[.int .i64 a, .int .i64 b]) (.agg #[.int .i64 c, .int .i64 d])).run Tryz.prog w = .ok (.bool (!decide (a = c ∧ b = d))) w := by
  have h := equal_span a b c d w
  have hop : Op.equal 57 (.agg #[.int .i64 a, .int .i64 b]) (.agg #[.int .i64 c, .int .i64 d]) = Op.equalIn 10000 57 (.agg #[.int .i64 a, .int .i64 b]) (.agg #[.int .i64 c, .int .i64 d]) := rfl
  rw [hop] at h
  rw [run_neq_struct, h]
  rfl
set_option maxRecDepth 100000 in
set_option maxHeartbeats 2000000 in
theorem refPart_any (v : Value) (p : Part) (w : World) (hp : PartV w v p) :
    Calls Tryz.prog 101 #[v] w fun e w' => e = .returned (.int .i64 (partErrM p)) ∧ Ext w w' := by
  obtain ⟨u, rfl, hs, hlo, hhi⟩ := hp
  obtain ⟨a, cap, rfl, hlc, hcm⟩ := hs.shape
  unfold partErrM
  by_cases h3 : 3 < p.words.length
  · rw [if_pos h3]
    have k1 : (3 : Int) < (p.words.length : Int) := by omega
    go_enter Tryz.func101, Tryz.ntmps101
    go_wp2
    go_ret
    exact ⟨rfl, (by first | (with_reducible exact Ext.refl _) | (with_reducible assumption) | (show Below _ _ _; go_grown; done))⟩
  rw [if_neg h3]
  have k1 : ¬ (3 : Int) < (p.words.length : Int) := by omega
  have xB : Ext w (w.alloc (.cells #[.slice a p.words.length cap, .int .i64 p.lo, .int .i64 p.hi] 59)) := ext_alloc _ _
  have hw := refWords_any _ p.words _ (hs.ext xB)
  have b0 : ((w.alloc (.cells #[.slice a p.words.length cap, .int .i64 p.lo, .int .i64 p.hi] 59))).cell? ⟨w.heap.size, 0, none⟩ = some (.slice a p.words.length cap) := by simp [go_sem]
  have b1 : ((w.alloc (.cells #[.slice a p.words.length cap, .int .i64 p.lo, .int .i64 p.hi] 59))).cell? ⟨w.heap.size, 1, none⟩ = some (.int .i64 p.lo) := by simp [go_sem]
  have b2 : ((w.alloc (.cells #[.slice a p.words.length cap, .int .i64 p.lo, .int .i64 p.hi] 59))).cell? ⟨w.heap.size, 2, none⟩ = some (.int .i64 p.hi) := by simp [go_sem]
  have B0 := Lib.hid b0
  have B1 := Lib.hid b1
  have B2 := Lib.hid b2
  clear b0 b1 b2
  cases hb : wordsM p.words
  · rw [if_pos rfl]
    rw [hb] at hw
    clear hb
    go_enter Tryz.func101, Tryz.ntmps101
    go_wp2_with fail
    refine hw.mono ?_
    rintro e w1 ⟨rfl, hx⟩
    go_wp2
    go_ret
    exact ⟨rfl, hx.of_alloc⟩
  rw [if_neg (by decide)]
  rw [hb] at hw
  clear hb
  have hnq := fun w => neq_span p.lo p.hi 0 0 w
  by_cases h0 : p.words.length = 0
  · rw [if_neg (by omega)]
    have e0 : ((p.words.length : Int) == 0) = true := by simp [h0]
    have hcase : (inM p.lo 0 3 = false ∨ inM p.hi 0 3 = false ∨ p.hi = 0) ↔ (inM p.lo 0 3 = false ∨ inM p.hi 1 3 = false) := by
      have : (inM p.hi 1 3 = false) ↔ (inM p.hi 0 3 = false ∨ p.hi = 0) := by simp [inM]; omega
      rw [this]
    have Hc := Lib.hid hcase
    clear hcase hnq h0
    obtain ⟨er, her⟩ : ∃ er : Int, (if inM p.lo 0 3 = false ∨ inM p.hi 0 3 = false ∨ p.hi = 0 then 7 else if p.hi < p.lo then 2 else 0) = er := ⟨_, rfl⟩
    rw [her]
    have Her := Lib.hid her
    clear her
    go_enter Tryz.func101, Tryz.ntmps101
    go_wp2_with fail
    refine hw.mono ?_
    rintro e w1 ⟨rfl, hx⟩
    have c0 := hx.cell B0.out
    have c1 := hx.cell B1.out
    have c2 := hx.cell B2.out
    have x1 : Ext w w1 := hx.of_alloc
    have z1 : w.heap.size < w1.heap.size := cell_lt c0
    clear hw hx B0 B1 B2 xB hs
    go_wp2_with fail
    refine (refRoomy_any a _ cap p.lo p.hi w1).mono ?_
    rintro e w2 ⟨rfl, hx⟩
    replace c0 := hx.cell c0
    replace c1 := hx.cell c1
    replace c2 := hx.cell c2
    replace x1 := x1.trans hx
    replace z1 : w.heap.size < w2.heap.size := cell_lt c0
    clear hx
    rw [e0]
    clear e0
    go_wp2_with fail
    (refine (In_any _ _ _ _).mono ?_; rintro e w' ⟨rfl, rfl⟩)
    cases h1 : inM p.lo 0 3
    · have H1 := Lib.hid h1
      clear h1
      go_wp2
      go_ret
      exact ⟨ret_int (by rw [← Her.out, if_pos (Hc.out.2 (.inl H1.out))]), x1⟩
    have H1 := Lib.hid h1
    clear h1
    go_wp2_with fail
    (refine (In_any _ _ _ _).mono ?_; rintro e w' ⟨rfl, rfl⟩)
    cases h2 : inM p.hi 1 3
    · have H2 := Lib.hid h2
      clear h2
      go_wp2
      go_ret
      exact ⟨ret_int (by rw [← Her.out, if_pos (Hc.out.2 (.inr H2.out))]), x1⟩
    have H2 := Lib.hid h2
    clear h2
    have hno : ¬ (inM p.lo 0 3 = false ∨ inM p.hi 0 3 = false ∨ p.hi = 0) := fun h => by
      rcases Hc.out.1 h with h | h
      · rw [H1.out] at h; cases h
      · rw [H2.out] at h; cases h
    have Hno := Lib.hid hno
    clear hno Hc
    by_cases h5 : p.hi < p.lo
    · have H5 := Lib.hid h5
      go_wp2
      go_ret
      exact ⟨ret_int (by rw [← Her.out, if_neg Hno.out, if_pos H5.out]), x1⟩
    · have H5 := Lib.hid h5
      go_wp2
      go_ret
      exact ⟨ret_int (by rw [← Her.out, if_neg Hno.out, if_neg (by have := H5.out; omega)]), x1⟩
  · rw [if_pos h0]
    have e0 : ((p.words.length : Int) == 0) = false := by simp [h0]
    clear h0
    by_cases h1 : p.lo = 0 ∧ p.hi = 0
    all_goals
      first | rw [if_pos h1] | rw [if_neg h1]
      first | rw [decide_eq_true h1] at hnq | rw [decide_eq_false h1] at hnq
      clear h1
      go_enter Tryz.func101, Tryz.ntmps101
      go_wp2_with fail
      refine hw.mono ?_
      rintro e w1 ⟨rfl, hx⟩
      have c0 := hx.cell B0.out
      have c1 := hx.cell B1.out
      have c2 := hx.cell B2.out
      have x1 : Ext w w1 := hx.of_alloc
      have z1 : w.heap.size < w1.heap.size := cell_lt c0
      clear hw hx B0 B1 B2 xB hs
      go_wp2_with fail
      refine (refRoomy_any a _ cap p.lo p.hi w1).mono ?_
      rintro e w2 ⟨rfl, hx⟩
      replace c0 := hx.cell c0
      replace c1 := hx.cell c1
      replace c2 := hx.cell c2
      replace x1 := x1.trans hx
      replace z1 : w.heap.size < w2.heap.size := cell_lt c0
      clear hx
      rw [e0]
      clear e0
      go_wp2
      go_ret
      exact ⟨rfl, x1⟩
theorem formErr_fresh (before : List Form) (f : Form) : formErrM before f = if freshM f.name (before.map (·.name)) ≠ 0 then freshM f.name (before.map (·.name)) else if 5 < f.parts.length then 3 else (firstErr (fun _ => partErrM) f.parts).2 := by
  rw [formErr_name]
  rfl
/-- the first error of some parts, if there is none before -/
theorem parts_step (ps : List Part) (k : Nat) (h : k < ps.length) (e : Int) (he : (firstErrFrom (fun _ => partErrM) (ps.take k) (ps.drop k)).2 = e) : partErrM ps[k] = 0 → (firstErrFrom (fun _ => partErrM) (ps.take (k + 1)) (ps.drop (k + 1))).2 = e := fun h0 => by
  rw [← he, ← firstErrFrom_step (fun _ => partErrM) ps k h _ rfl h0]
/-- the error of a form, behind what its name has -/
def behindE (e0 : Int) (f : Form) : Int := if e0 ≠ 0 then e0 else (firstErr (fun _ => partErrM) f.parts).2
def ChkB2 (e0 : Int) (f : Form) (R : World) (v : Value) (wc : World) : Prop := v = .int .i64 (behindE e0 f) ∧ Ext R wc
set_option maxRecDepth 100000 in
set_option maxHeartbeats 2000000 in
theorem refCheck_b2 {u0 u1 u2 u3 u4 u5 u6 u10 u11 u12 u13 u14 u15 u16 u17 u18 u19 u20 u21 u22 u23 u24 u25 u26 u27 u28 u29 u30 u31 u32 u33 u34 u35 u36 u37 u38 u39 u40 u41 u42 u43 u44 u45 u46 u47 u48 u49 u50 u51 u52 u53 u54 u55 u56 u57 u58 u59 u60 u61 u62 u63 u64 u65 u66 u67 : Value} {fb : Nat} {e0 : Int} {pa : Option Addr} {pc : Nat} {f : Form} {R : World} (c1 : R.cell? ⟨fb, 1, none⟩ = some (.slice pa f.parts.length pc)) (hp : PartsAt R (.slice pa f.parts.length pc) f.parts) (Q : Exit → Act → World → Prop)
    (hQ : ∀ (v8 v9 v47 v48 v49 v50 v51 v52 v53 v54 v55 v56 v57 v58 v59 v60 v61 v62 v63 : Value) (wc : World), ChkB2 e0 f R v8 wc → Q .normal ⟨#[u0, u1, u2, u3, u4, u5, u6, .pointer (some ⟨fb, 0, none⟩), v8, v9, u10, u11, u12, u13, u14, u15, u16, u17, u18, u19, u20, u21, u22, u23, u24, u25, u26, u27, u28, u29, u30, u31, u32, u33, u34, u35, u36, u37, u38, u39, u40, u41, u42, u43, u44, u45, u46, v47, v48, v49, v50, v51, v52, v53, v54, v55, v56, v57, v58, v59, v60, v61, v62, v63, u64, u65, u66, u67], []⟩ wc) :
    Code.wp Tryz.prog (blockOf Tryz.f44 2) Q ⟨#[u0, u1, u2, u3, u4, u5, u6, .pointer (some ⟨fb, 0, none⟩), .int .i64 e0, .int .i64 0, u10, u11, u12, u13, u14, u15, u16, u17, u18, u19, u20, u21, u22, u23, u24, u25, u26, u27, u28, u29, u30, u31, u32, u33, u34, u35, u36, u37, u38, u39, u40, u41, u42, u43, u44, u45, u46, u47, u48, u49, u50, u51, u52, u53, u54, u55, u56, u57, u58, u59, u60, u61, u62, u63, u64, u65, u66, u67], []⟩ R := by
  conv => arg 2; whnf
  obtain ⟨-, hl1, hl2⟩ := hp.len
  obtain ⟨FE, hFE⟩ : ∃ FE, behindE e0 f = FE := ⟨_, rfl⟩
  have HFE := Lib.hid hFE
  unfold ChkB2 at hQ
  rw [hFE] at hQ
  have HQ := Lib.hid hQ
  clear hFE hQ
  go_wp2_with fail
  go_loopw [8, 9] (fun ev q wr => ∃ (k : Nat) (e : Int), k ≤ f.parts.length ∧ q = .int .i64 k ∧ ev = .int .i64 e ∧ Ext R wr ∧ (e = 0 → e0 = 0 ∧ (firstErrFrom (fun _ => partErrM) (f.parts.take k) (f.parts.drop k)).2 = FE) ∧ (e ≠ 0 → e = FE)) (fun _ q _ => f.parts.length - (intOf q).toNat)
  case atStart =>
    refine ⟨0, e0, Nat.zero_le _, rfl, rfl, Ext.refl _, fun h => ⟨h, ?_⟩, fun h => ?_⟩
    · have := HFE.out
      unfold behindE at this
      rw [if_neg (by simpa using h)] at this
      exact this
    · have := HFE.out
      unfold behindE at this
      rw [if_pos h] at this
      exact this
  case round =>
    obtain ⟨k, e, hk, rfl, rfl, hx, hz, hn⟩ := hrel
    have r1 := hx.cell c1
    have zr := cell_lt r1
    by_cases hlt : k < f.parts.length
    · have k1 : (k : Int) < (f.parts.length : Int) := by omega
      by_cases h0 : e = 0
      · subst h0
        obtain ⟨h00, hf1⟩ := hz rfl
        obtain ⟨b, o, rfl, ⟨u, p0, hs⟩, p1, p2, i1, i2⟩ := (hp.ext hx).get hlt
        have hstep := firstErrFrom_step (fun _ => partErrM) f.parts k hlt _ rfl
        have hhit := firstErrFrom_hit (fun _ => partErrM) f.parts k hlt _ rfl
        generalize f.parts[k] = p at *
        obtain ⟨ua, uc, rfl, -⟩ := hs.shape
        have hpv : PartV wr (.agg #[.slice ua p.words.length uc, .int .i64 p.lo, .int .i64 p.hi]) p := ⟨_, rfl, hs, i1, i2⟩
        have Hstep := Lib.hid hstep
        have Hhit := Lib.hid hhit
        have Hf1 := Lib.hid hf1
        have H00 := Lib.hid h00
        clear hstep hhit hz hn hs hf1 h00
        go_wp2_with fail
        refine (refPart_any _ p _ hpv).mono ?_
        rintro e w2 ⟨rfl, hx2⟩
        obtain ⟨pe, hpe⟩ : ∃ pe, partErrM p = pe := ⟨_, rfl⟩
        rw [hpe]
        have Hpe := Lib.hid hpe
        clear hpe
        go_wp2
        go_roundw
        case rel =>
          refine ⟨k + 1, pe, by omega, by go_num, rfl, hx.trans hx2, fun h => ⟨H00.out, ?_⟩, fun h => ?_⟩
          · rw [Hstep.out (by rw [Hpe.out]; exact h)]; exact Hf1.out
          · rw [← Hf1.out, Hhit.out (by rw [Hpe.out]; exact h)]; exact Hpe.out.symm
        case measure => simp [intOf]; omega
      · have h0' : (e == 0) = false := by simpa using h0
        have he := hn h0
        subst he
        clear hz hn h0
        go_wp2
        exact HQ.out _ _ _ _ _ _ _ _ _ _ _ _ _ _ _ _ _ _ _ _ ⟨rfl, hx⟩
    · obtain rfl : k = f.parts.length := by omega
      have he : e = FE := by
        by_cases h0 : e = 0
        · obtain ⟨-, h1⟩ := hz h0
          rw [firstErrFrom_end _ _ _ (Nat.le_refl _)] at h1
          rw [h0]; exact h1
        · exact hn h0
      subst he
      clear hz hn
      go_wp2
      exact HQ.out _ _ _ _ _ _ _ _ _ _ _ _ _ _ _ _ _ _ _ _ ⟨rfl, hx⟩
set_option maxRecDepth 100000 in
set_option maxHeartbeats 4000000 in
theorem refCheckS_any (sv : Value) (s : Shelf) (w : World) (hs : ShelfAt w sv s) :
    Calls Tryz.prog 44 #[sv] w fun e w' => e = .returned (.tuple #[.int .i64 (checkS s).1, .int .i64 (checkS s).2.1, .int .i64 (checkS s).2.2]) ∧ Ext w w' := by
  obtain ⟨a, c, rfl, hw, hc1, hc2, hf⟩ := hs.open
  obtain ⟨i0, hi, hz0, hz1, hz2⟩ := info_parts infoString
  have q0 : (w.alloc (.cells #[.int .i64 s.width, .slice a s.forms.length c] 24)).cell? ⟨w.heap.size, 0, none⟩ = some (.int .i64 s.width) := by simp [go_sem]
  have q1 : (w.alloc (.cells #[.int .i64 s.width, .slice a s.forms.length c] 24)).cell? ⟨w.heap.size, 1, none⟩ = some (.slice a s.forms.length c) := by simp [go_sem]
  obtain ⟨W, hW⟩ : ∃ W, W = w.alloc (.cells #[.int .i64 s.width, .slice a s.forms.length c] 24) := ⟨_, rfl⟩
  have xW : Ext w W := by rw [hW]; exact ext_alloc _ _
  have zW : W.heap.size = w.heap.size + 1 := by rw [hW]; simp
  rw [← hW] at q0 q1
  have HW := Lib.hid hW
  clear hW
  have hfW := hf.ext xW
  go_enter Tryz.func44, Tryz.ntmps44
  go_wp2_with fail
  rw [← HW.out]
  refine (In_any _ _ _ _).mono ?_
  rintro e w' ⟨rfl, rfl⟩
  cases h1 : inM s.width 8 30
  · have H1 := Lib.hid h1; clear h1
    go_wp2_with fail
    go_ret3
    exact ⟨ret_three (by rw [checkS, if_pos H1.out]), xW⟩
  have H1 := Lib.hid h1; clear h1
  by_cases h4 : 4 < s.forms.length
  · have H4 := Lib.hid h4
    have k4 : (4 : Int) < (s.forms.length : Int) := by omega
    clear h4
    go_wp2_with fail
    go_ret3
    exact ⟨ret_three (by rw [checkS, if_neg (by rw [H1.out]; decide), if_pos H4.out]), xW⟩
  have H4 := Lib.hid h4
  have k4 : ¬ (4 : Int) < (s.forms.length : Int) := by omega
  clear h4
  go_wp2_with fail
  go_loopw [5, 6] (fun u i wr => ∃ k : Nat, k ≤ s.forms.length ∧ i = .int .i64 k ∧ Ext W wr ∧ RowW W.heap.size ((s.forms.take k).map (·.name)) u wr ∧ firstErrFrom formErrM (s.forms.take k) (s.forms.drop k) = firstErr formErrM s.forms) (fun _ i _ => s.forms.length - (intOf i).toNat)
  case atStart => exact ⟨0, Nat.zero_le _, rfl, Ext.refl _, RowW.nil, rfl⟩
  case round =>
    obtain ⟨k, hk, rfl, hxr, hown, hfe⟩ := hrel
    have r0 := hxr.cell q0
    have r1 := hxr.cell q1
    have zr := cell_lt r0
    have hszr := hxr.size
    have Hfe := Lib.hid hfe
    clear hfe
    by_cases hlt : k < s.forms.length
    · have k1 : (k : Int) < (s.forms.length : Int) := by omega
      obtain ⟨b, o, rfl, f0, fsz, pu, f1, hps⟩ := hfW.get hlt
      replace f0 := hxr.cell f0
      replace f1 := hxr.cell f1
      obtain ⟨pa, pc, rfl, hpc, hpm⟩ := hps.shape
      have hstep := firstErrFrom_step formErrM s.forms k hlt _ rfl
      have hhit := firstErrFrom_hit formErrM s.forms k hlt _ rfl
      have hnm : (s.forms.take (k + 1)).map (·.name) = (s.forms.take k).map (·.name) ++ [s.forms[k].name] := by
        rw [List.take_succ_eq_append_getElem hlt, List.map_append]; rfl
      have hfr := formErr_fresh (s.forms.take k) s.forms[k]
      have hsz : ∀ x ∈ (s.forms.take k).map (·.name), x.size ≤ 9223372036854775807 := fun x hx => by
        obtain ⟨f, hf1, rfl⟩ := List.mem_map.1 hx
        obtain ⟨i, hi', rfl⟩ := List.getElem_of_mem (List.mem_of_mem_take hf1)
        obtain ⟨_, _, -, -, g, -⟩ := hfW.get hi'
        exact g
      have hnl : ((s.forms.take k).map (·.name)).length = k := by simp; omega
      generalize s.forms[k] = f at *
      generalize (s.forms.take k).map (·.name) = nms at *
      have Hstep := Lib.hid hstep
      have Hhit := Lib.hid hhit
      have Hnm := Lib.hid hnm
      have Hfr := Lib.hid hfr
      have hat := hown.at_ hsz
      clear hstep hhit hnm hfr hsz
      go_wp2_with fail
      refine (fresh_any _ f.name nms _ fsz (hat.ext (ext_alloc _ _))).mono ?_
      rintro e w2 ⟨rfl, rfl⟩
      obtain ⟨fr, hfr⟩ : ∃ fr, freshM f.name nms = fr := ⟨_, rfl⟩
      rw [hfr]
      have Hf2 := Lib.hid hfr
      clear hfr hat
      have hone := StrsAt.oneAt (w := wr.alloc (.cells #[.string f.name, .slice pa f.parts.length pc] 55)) (s := f.name) (t := 9) (B := wr.heap.size + 1) (by simp) fsz
      have own1 := RowW.ext hown ((ext_alloc wr (.cells #[.string f.name, .slice pa f.parts.length pc] 55)).trans (ext_alloc _ (.cells #[.string f.name] 9)))
      have hownlt := fun k hk => World.ownsRow.lt hown k hk
      have Hps := Lib.hid hps
      clear hown hps
      have hcases : (fr ≠ 0 ∧ (fr == 0) = false ∧ formErrM (s.forms.take k) f = behindE fr f) ∨ (fr = 0 ∧ ((5 : Int) < (f.parts.length : Int)) ∧ formErrM (s.forms.take k) f = behindE 3 f) ∨ (fr = 0 ∧ ¬ ((5 : Int) < (f.parts.length : Int)) ∧ formErrM (s.forms.take k) f = behindE 0 f) := by
        have h1 := Hfr.out
        rw [Hf2.out] at h1
        by_cases h0 : fr = 0
        · rw [if_neg (by simpa using h0)] at h1
          by_cases h5 : 5 < f.parts.length
          · rw [if_pos h5] at h1
            exact .inr (.inl ⟨h0, by omega, by rw [h1]; rfl⟩)
          · rw [if_neg h5] at h1
            exact .inr (.inr ⟨h0, by omega, by rw [h1]; rfl⟩)
        · rw [if_pos h0] at h1
          exact .inl ⟨h0, by simpa using h0, by rw [h1, behindE, if_pos h0]⟩
      clear Hfr Hf2
      rcases hcases with ⟨g1, g2, g3⟩ | ⟨rfl, g2, g3⟩ | ⟨rfl, g2, g3⟩
      all_goals
        have G3 := Lib.hid g3
        clear g3
        try clear g1
        go_upto_block 2 with (at_builtin; go_loud (refine wpList_append_strs rfl _ _ 25 rfl W.heap.size i0 Tryz.underlying25 hi hz0 hz1 hz2 u5 _ rfl own1 (.slice (some ⟨wr.heap.size + 1, 0, none⟩) 1 1) rfl [f.name] hone (by simp only [List.length_cons, List.length_nil]; omega) (by simp; omega) ?_; intro v' w2 hown' hgrow _; have g1' : w2.cell? ⟨wr.heap.size, 1, none⟩ = some (.slice pa f.parts.length pc) := hgrow.cell (by simp [go_sem]) (fun e => absurd (hownlt wr.heap.size e.symm).2 (Nat.lt_irrefl _)); have z2 := cell_lt g1'))
        have xW2 : Ext W w2 := Ext.grown ((hxr.alloc _).alloc _) hgrow (fun k hk => (hownlt k hk).1)
        have xr2 : ∀ k, u5.ownBlock = some k → k < wr.heap.size := fun k hk => (hownlt k hk).2
        refine refCheck_b2 (f := f) (pa := pa) (pc := pc) g1' (Hps.out.ext xW2) _ ?_
        intro v8 v9 v47 v48 v49 v50 v51 v52 v53 v54 v55 v56 v57 v58 v59 v60 v61 v62 v63 wc ⟨e8, hxc⟩
        subst e8
        rw [← G3.out]
        obtain ⟨FE, hFE⟩ : ∃ FE, formErrM (s.forms.take k) f = FE := ⟨_, rfl⟩
        rw [hFE]
        have HFE := Lib.hid hFE
        clear hFE G3
        have xwc := xW2.trans hxc
        by_cases h0 : FE = 0
        · subst h0
          go_wp2
          go_roundw
          case rel => exact ⟨k + 1, by omega, by go_num, xwc, by rw [Hnm.out]; exact hown'.ext hxc, (Hstep.out HFE.out).trans Hfe.out⟩
          case measure => simp [intOf]; omega
        · have h0' : (FE != 0) = true := by simpa using h0
          have hfirst : firstErr formErrM s.forms = ((k : Int), FE) := by rw [← Hfe.out, Hhit.out (by rw [HFE.out]; exact h0), HFE.out]
          have Hfirst := Lib.hid hfirst
          have H0 := Lib.hid h0
          clear h0 hfirst
          go_wp2
          go_ret3
          exact ⟨ret_three (by rw [checkS, if_neg (by rw [H1.out]; decide), if_neg H4.out, Hfirst.out, if_pos H0.out]), xW.trans xwc⟩
    · obtain rfl : k = s.forms.length := by omega
      have hfirst : firstErr formErrM s.forms = (0, 0) := by rw [← Hfe.out, firstErrFrom_end _ _ _ (Nat.le_refl _)]
      have Hfirst := Lib.hid hfirst
      clear hfirst
      go_wp2
      go_ret3
      exact ⟨ret_three (by rw [checkS, if_neg (by rw [H1.out]; decide), if_neg H4.out, Hfirst.out, if_neg (fun h => h rfl)]), xW.trans hxr⟩
end Go.Proofs.YtcamegaimleomaaGreat

namespace Go.Proofs.YtcamegaimleomaaGreat
set_option linter.unusedSimpArgs false
set_option linter.unusedVariables false
open Go.RowKit
set_option linter.unusedVariables false

theorem refBehind_any (v : Value) (l : List ByteArray) (er : Int) (w : World) (hl : StrsAt w v l) :
    Calls Tryz.prog 45 #[v, .int .i64 er] w fun e w' => e = .returned (.int .i64 (if er ≠ 0 then er else letterErrL l)) ∧ Ext w w' := by
  by_cases h : er = 0
  · rw [if_neg (by simpa using h)]
    subst h
    go_enter Tryz.func45, Tryz.ntmps45
    go_wp2_with fail
    refine (refLett_any _ l _ hl).mono ?_
    rintro e w1 ⟨rfl, hx⟩
    go_wp2
    go_ret
    exact ⟨rfl, hx⟩
  · rw [if_pos h]
    have h' : (er == 0) = false := by simpa using h
    clear h
    go_enter Tryz.func45, Tryz.ntmps45
    go_wp2
    go_ret
    exact ⟨rfl, Ext.refl _⟩
set_option maxRecDepth 100000 in
theorem refForm_any (sv : Value) (s : Shelf) (n : Int) (hn : I64 n) (w : World) (hs : ShelfAt w sv s) :
    Calls Tryz.prog 50 #[sv, .int .i64 n] w fun e w' => e = .returned (.int .i64 (openErrM s n)) ∧ Ext w w' := by
  have hs0 := hs
  obtain ⟨a, c, rfl, hw, hc1, hc2, hf⟩ := hs.open
  clear hf
  obtain ⟨er, her⟩ : ∃ er, openErrM s n = er := ⟨_, rfl⟩
  rw [her]
  have Her := Lib.hid her
  clear her
  go_enter Tryz.func50, Tryz.ntmps50
  go_wp2_with fail
  refine (refCheckS_any _ s _ (hs0.ext (by first | (with_reducible exact Ext.refl _) | (with_reducible assumption) | (show Below _ _ _; go_grown; done)))).mono ?_
  rintro e w1 ⟨rfl, hx⟩
  have q1 : w1.cell? ⟨w.heap.size, 1, none⟩ = some (.slice a s.forms.length c) := hx.cell (by simp [go_sem])
  have z1 := cell_lt q1
  have x1 : Ext w w1 := hx.of_alloc
  have hE : (checkS s).2.2 = errS s := rfl
  rw [hE]
  generalize (checkS s).2.1 = at1
  generalize (checkS s).1 = part1
  obtain ⟨e0, he0⟩ : ∃ e0, errS s = e0 := ⟨_, rfl⟩
  rw [he0]
  have He0 := Lib.hid he0
  have wl : IntKind.i64.wrap ((s.forms.length : Int) - 1) = (s.forms.length : Int) - 1 := IntWalk.i64_in _ (by omega)
  clear he0 hE hx
  by_cases h : e0 = 0
  · subst h
    go_wp2_with fail
    refine (In_any _ _ _ _).mono ?_
    rintro e w' ⟨rfl, rfl⟩
    cases hi : inM n 0 ((s.forms.length : Int) - 1)
    · have Hi := Lib.hid hi
      clear hi
      go_wp2
      go_ret
      exact ⟨ret_int (by rw [← Her.out, openErrM, if_neg (by rw [He0.out]; simp), if_pos Hi.out]), x1⟩
    · have Hi := Lib.hid hi
      clear hi
      go_wp2
      go_ret
      exact ⟨ret_int (by rw [← Her.out, openErrM, if_neg (by rw [He0.out]; simp), if_neg (by rw [Hi.out]; simp)]), x1⟩
  · have h' : (e0 == 0) = false := by simpa using h
    have H := Lib.hid h
    clear h
    go_wp2
    go_ret
    exact ⟨ret_int (by rw [← Her.out, openErrM, if_pos (by rw [He0.out]; exact H.out), He0.out]), x1⟩
set_option maxRecDepth 100000 in
theorem validL_any (sv : Value) (s : Shelf) (w : World) (hs : ShelfAt w sv s) :
    Calls Tryz.prog 25 #[sv] w fun e w' => e = .returned (.bool (errS s == 0)) ∧ Ext w w' := by
  have hs0 := hs
  obtain ⟨a, c, rfl, hw, hc1, hc2, hf⟩ := hs.open
  clear hf
  go_enter Tryz.func25, Tryz.ntmps25
  go_wp2_with fail
  refine (refCheckS_any _ s _ (hs0.ext (by first | (with_reducible exact Ext.refl _) | (with_reducible assumption) | (show Below _ _ _; go_grown; done)))).mono ?_
  rintro e w1 ⟨rfl, hx⟩
  have x1 : Ext w w1 := Ext.trans (by first | (with_reducible exact Ext.refl _) | (with_reducible assumption) | (show Below _ _ _; go_grown; done)) hx
  clear hx
  have hE : (checkS s).2.2 = errS s := rfl
  rw [hE]
  generalize (checkS s).2.1 = at1
  generalize (checkS s).1 = part1
  clear hE
  go_wp2
  go_ret
  exact ⟨rfl, x1⟩
end Go.Proofs.YtcamegaimleomaaGreat

namespace Go.Proofs.YtcamegaimleomaaGreat
set_option linter.unusedSimpArgs false
set_option linter.unusedVariables false
open Go.RowKit
set_option linter.unusedVariables false

def spanR (w : World) (b o : Nat) (p : Part) : Prop := w.cell? ⟨b, o, none⟩ = some (.int .i64 p.lo) ∧ w.cell? ⟨b, o + 1, none⟩ = some (.int .i64 p.hi) ∧ I64 p.lo ∧ I64 p.hi
theorem spanR.keeps : Keeps spanR := fun _ _ _ _ _ hx h => ⟨hx.cell h.1, hx.cell h.2.1, h.2.2⟩
/-- the rooms of these parts -/
abbrev SpansAt : World → Value → List Part → Prop := SliceAt 2 spanR
theorem SpansAt.ext {w w' : World} {v : Value} {l : List Part} (h : SpansAt w v l) (hx : Ext w w') : SpansAt w' v l := SliceAt.ext spanR.keeps h hx
def cellsU (l : List Part) : List Value := l.flatMap fun s => [.int .i64 s.lo, .int .i64 s.hi]
theorem cellsU_len (l : List Part) : (cellsU l).length = l.length * 2 := by
  induction l with
  | nil => rfl
  | cons x l ih => simp only [cellsU, List.flatMap_cons, List.length_append, List.length_cons, List.length_nil] at *; omega
theorem cellsU_get (l : List Part) (i : Nat) (h : i < l.length) : (cellsU l)[i * 2]? = some (.int .i64 l[i].lo) ∧ (cellsU l)[i * 2 + 1]? = some (.int .i64 l[i].hi) := by
  induction l generalizing i with
  | nil => simp at h
  | cons x l ih =>
    cases i with
    | zero => simp [cellsU]
    | succ i =>
      have := ih i (by simpa using h)
      have e : (i + 1) * 2 = i * 2 + 2 := by omega
      rw [e]
      simpa [cellsU] using this
theorem cellsU_app (l r : List Part) : cellsU (l ++ r) = cellsU l ++ cellsU r := by simp [cellsU]
def RowU (base : Nat) (l : List Part) (u : Value) (w : World) : Prop := w.ownsRow base 57 2 u l.length (cellsU l)
theorem RowU.ext {base : Nat} {l : List Part} {u : Value} {w w' : World} (h : RowU base l u w) (hx : Ext w w') : RowU base l u w' := Ext.owns h hx
theorem RowU.nil {base : Nat} {w : World} : RowU base [] (.slice none 0 0) w := World.ownsRow_nil _ _ _ _
theorem RowU.at_ {base : Nat} {l : List Part} {u : Value} {w : World} (h : RowU base l u w) (hI : ∀ s ∈ l, I64 s.lo ∧ I64 s.hi) : SpansAt w u l := by
  have hcells := fun g hg => h.cells (g := g) hg
  rcases h.2 with ⟨rfl, hn⟩ | ⟨g, cap, cur, rfl, hb, hg, hnc, hcm, hcs, htake⟩
  · have : l = [] := List.eq_nil_of_length_eq_zero hn
    subst this; exact SliceAt.nil
  · refine ⟨_, _, rfl, hnc, by simpa [maxLen] using hcm, fun i hi => ⟨g, 0, rfl, ?_⟩⟩
    obtain ⟨c0, c1⟩ := cellsU_get l i hi
    have r0 := hcells g rfl _ _ c0
    have r1 := hcells g rfl _ _ c1
    have ea : ∀ j, (⟨g, 0, none⟩ : Addr).add j = ⟨g, 0 + j, none⟩ := fun j => by unfold Addr.add; split <;> simp_all
    rw [ea] at r0 r1
    exact ⟨r0, r1, hI _ (List.getElem_mem hi)⟩
theorem infoSpan : (Tryz.prog.info? 57).map (fun i => (i.zero, i.size, i.bytes)) = some (some (.agg #[.int .i64 0, .int .i64 0]), 2, 16) := by kernel_rfl
theorem cell_two_span (w : World) (a b : Value) (t : TypeId) : ∀ j u, [a, b][j]? = some u → (w.alloc (.cells #[a, b] t)).cell? ((⟨w.heap.size, 0, none⟩ : Addr).add j) = some u := by
  intro j u hj
  match j, hj with
  | 0, hj => simp at hj; subst hj; simp [go_sem, Addr.add]
  | 1, hj => simp at hj; subst hj; simp [go_sem, Addr.add]
set_option maxRecDepth 100000 in
set_option maxHeartbeats 2000000 in
theorem refRooms_any (v : Value) (f : Form) (h5 : f.parts.length ≤ 5) (w : World) (hv : FormV w v f) :
    Calls Tryz.prog 86 #[v] w fun e w' => ∃ u, e = .returned u ∧ SpansAt w' u (roomsM f.parts) ∧ Ext w w' := by
  obtain ⟨pv, rfl, hns, hp⟩ := hv
  obtain ⟨pa, pc, rfl, hpc, hpm⟩ := hp.shape
  obtain ⟨i0, hi, hz0, hz1, hz2⟩ := info_parts infoSpan
  have q1 : (w.alloc (.cells #[.string f.name, .slice pa f.parts.length pc] 55)).cell? ⟨w.heap.size, 1, none⟩ = some (.slice pa f.parts.length pc) := by simp [go_sem]
  obtain ⟨W, hW⟩ : ∃ W, W = w.alloc (.cells #[.string f.name, .slice pa f.parts.length pc] 55) := ⟨_, rfl⟩
  have xW : Ext w W := by rw [hW]; exact ext_alloc _ _
  have zW : W.heap.size = w.heap.size + 1 := by rw [hW]; simp
  rw [← hW] at q1
  have HW := Lib.hid hW
  have hpW := hp.ext xW
  clear hW
  go_enter Tryz.func86, Tryz.ntmps86
  go_wp2_with fail
  rw [← HW.out]
  clear HW
  go_loopw [3, 4] (fun u i wr => ∃ k : Nat, k ≤ f.parts.length ∧ i = .int .i64 k ∧ Ext W wr ∧ RowU W.heap.size (roomsM (f.parts.take k)) u wr) (fun _ i _ => f.parts.length - (intOf i).toNat)
  case atStart => exact ⟨0, Nat.zero_le _, rfl, Ext.refl _, RowU.nil⟩
  case round =>
    obtain ⟨k, hk, rfl, hxr, hown⟩ := hrel
    have r1 := hxr.cell q1
    have zr := cell_lt r1
    have hszr := hxr.size
    by_cases hlt : k < f.parts.length
    · have k1 : (k : Int) < (f.parts.length : Int) := by omega
      obtain ⟨b, o, rfl, ⟨u, p0, hs⟩, p1, p2, i1, i2⟩ := (hpW.ext hxr).get hlt
      obtain ⟨ua, uc, rfl, -⟩ := hs.shape
      have hno := rooms_no f.parts k hlt
      have hyes := rooms_yes f.parts k hlt
      have hlen : (roomsM (f.parts.take k)).length ≤ 5 := by
        have h1 : (roomsM (f.parts.take k)).length ≤ (f.parts.take k).length := List.length_filter_le _ _
        rw [List.length_take] at h1
        omega
      generalize f.parts[k] = p at *
      generalize roomsM (f.parts.take k) = R at *
      cases hr : roomyM p
      · have e0 : ((p.words.length : Int) == 0) = false := by
          unfold roomyM at hr
          simp at hr ⊢
          exact hr
        have Hst := Lib.hid (hno hr)
        clear hno hyes hr
        go_wp2_with fail
        refine (refRoomy_any ua p.words.length uc p.lo p.hi _).mono ?_
        rintro e w2 ⟨rfl, hx2⟩
        rw [e0]
        have own2 := RowU.ext hown hx2
        have x2 := hxr.trans hx2
        clear hown e0
        go_wp2
        go_roundw
        case rel => exact ⟨k + 1, by omega, by go_num, x2, by rw [Hst.out]; exact own2⟩
        case measure => simp [intOf]; omega
      · have e0 : ((p.words.length : Int) == 0) = true := by
          unfold roomyM at hr
          simp at hr ⊢
          exact hr
        have Hst := Lib.hid (hyes hr)
        clear hno hyes hr
        go_wp2_with fail
        refine (refRoomy_any ua p.words.length uc p.lo p.hi _).mono ?_
        rintro e w2 ⟨rfl, hx2⟩
        rw [e0]
        have own2 := RowU.ext hown hx2
        have x2 := hxr.trans hx2
        have r2 := hx2.cell r1
        have z2 := cell_lt r2
        replace p1 := hx2.cell p1
        replace p2 := hx2.cell p2
        replace p0 := hx2.cell p0
        have hsz2 := hx2.size
        have own3 : (w2.alloc (.cells #[.int .i64 p.lo, .int .i64 p.hi] 57)).ownsRow W.heap.size 57 2 u3 R.length (cellsU R) := RowU.ext own2 (ext_alloc _ _)
        have hownlt := fun k hk => (World.ownsRow.lt own3 k hk).1
        clear hown e0 own2
        go_wp2_with ((at_builtin; go_loud (refine wpList_append_own _ rfl _ _ 153 rfl W.heap.size 57 i0 (.agg #[.int .i64 0, .int .i64 0]) 2 16 Tryz.underlying153 hi hz0 hz1 hz2 rfl (by decide) _ _ _ rfl own3 ⟨w2.heap.size, 0, none⟩ 1 1 [.int .i64 p.lo, .int .i64 p.hi] rfl rfl (cell_two_span _ _ _ _) (by simp [Value.oneCell']) (by unfold maxLen; omega) (by omega) (by simp; omega) ?_; intro v' w4 hown' hgrow _)))
        have hx4 : Ext W w4 := Ext.grown (x2.alloc _) hgrow hownlt
        go_roundw
        case rel => exact ⟨k + 1, by omega, by go_num, hx4, by rw [Hst.out]; unfold RowU; rw [cellsU_app, List.length_append]; exact hown'⟩
        case measure => simp [intOf]; omega
    · obtain rfl : k = f.parts.length := by omega
      rw [List.take_length] at hown
      have hat := RowU.at_ hown (fun p hp => by
        obtain ⟨i, hi', rfl⟩ := List.getElem_of_mem (List.mem_filter.1 hp).1
        obtain ⟨_, _, -, -, -, -, i1, i2⟩ := hpW.get hi'
        exact ⟨i1, i2⟩)
      obtain ⟨oa, oc, rfl, -⟩ := hat.shape
      clear hown
      go_wp2
      go_ret
      exact ⟨_, rfl, hat, xW.trans hxr⟩
/-- what is left of the fills behind the first k parts -/
theorem built_left (ps : List Part) (fs : List (List ByteArray)) : ∀ k, k ≤ ps.length → (builtTo ps fs k).2 = fs.drop (roomsM (ps.take k)).length
  | 0, _ => rfl
  | k + 1, hk => by
    have ih := built_left ps fs k (by omega)
    have hc := rooms_count ps k (by omega)
    have hg : ps.getD k ⟨[], 0, 0⟩ = ps[k] := by simp [show k < ps.length from by omega]
    rw [builtTo, stepB, hg, hc]
    cases roomyM ps[k]
    · simp [ih]
    · simp only [if_true]
      rw [ih, List.tail_drop]
set_option maxRecDepth 100000 in
set_option maxHeartbeats 2000000 in
theorem refBuilt_any (fv v : Value) (f : Form) (fs : List (List ByteArray)) (h5 : f.parts.length ≤ 5) (h3 : ∀ p ∈ f.parts, p.words.length ≤ 15) (hf3 : ∀ l ∈ fs, l.length ≤ 15) (hn : (roomsM f.parts).length = fs.length) (w : World) (hf : FormV w fv f) (hfs : FillsAt w v fs) :
    Calls Tryz.prog 143 #[fv, v] w fun e w' => ∃ u, e = .returned u ∧ StrsAt w' u (builtM f.parts fs) ∧ RowW w.heap.size (builtM f.parts fs) u w' ∧ Ext w w' := by
  obtain ⟨pv, rfl, hns, hp⟩ := hf
  obtain ⟨pa, pc, rfl, hpc, hpm⟩ := hp.shape
  obtain ⟨fa, fc, rfl, hfc, hfm⟩ := hfs.shape
  obtain ⟨i0, hi, hz0, hz1, hz2⟩ := info_parts infoString
  have q1 : (w.alloc (.cells #[.string f.name, .slice pa f.parts.length pc] 55)).cell? ⟨w.heap.size, 1, none⟩ = some (.slice pa f.parts.length pc) := by simp [go_sem]
  obtain ⟨W, hW⟩ : ∃ W, W = w.alloc (.cells #[.string f.name, .slice pa f.parts.length pc] 55) := ⟨_, rfl⟩
  have xW : Ext w W := by rw [hW]; exact ext_alloc _ _
  have zW : W.heap.size = w.heap.size + 1 := by rw [hW]; simp
  rw [← hW] at q1
  have HW := Lib.hid hW
  have hpW := hp.ext xW
  have hfW := hfs.ext xW
  clear hW
  have H3 := Lib.hid h3
  have Hf3 := Lib.hid hf3
  have Hn := Lib.hid hn
  clear h3 hf3 hn
  go_enter Tryz.func143, Tryz.ntmps143
  go_wp2_with fail
  rw [← HW.out]
  clear HW
  go_loopw [5, 6, 7] (fun u nv i wr => ∃ k : Nat, k ≤ f.parts.length ∧ i = .int .i64 k ∧ nv = .int .i64 (roomsM (f.parts.take k)).length ∧ Ext W wr ∧ RowW W.heap.size (builtTo f.parts fs k).1 u wr ∧ (builtTo f.parts fs k).1.length ≤ 15 * k ∧ ∀ s ∈ (builtTo f.parts fs k).1, s.size ≤ 9223372036854775807) (fun _ _ i _ => f.parts.length - (intOf i).toNat)
  case atStart => exact ⟨0, Nat.zero_le _, rfl, rfl, Ext.refl _, RowW.nil, by simp [builtTo], by simp [builtTo]⟩
  case round =>
    obtain ⟨k, hk, rfl, rfl, hxr, hown, hlen, hsz⟩ := hrel
    have r1 := hxr.cell q1
    have zr := cell_lt r1
    have hszr := hxr.size
    by_cases hlt : k < f.parts.length
    · have k1 : (k : Int) < (f.parts.length : Int) := by omega
      obtain ⟨b, o, rfl, ⟨u, p0, hs⟩, p1, p2, i1, i2⟩ := (hpW.ext hxr).get hlt
      obtain ⟨ua, uc, rfl, -⟩ := hs.shape
      have hst : builtTo f.parts fs (k + 1) = stepB f.parts k (builtTo f.parts fs k) := rfl
      have hgd : f.parts.getD k ⟨[], 0, 0⟩ = f.parts[k] := by simp [hlt]
      have hlf := built_left f.parts fs k hk
      have hrc := rooms_count f.parts k hlt
      have hle : (roomsM (f.parts.take (k + 1))).length ≤ fs.length := by
        rw [← Hn.out]
        unfold roomsM
        exact List.Sublist.length_le (List.Sublist.filter _ (List.take_sublist _ _))
      have h15 := H3.out f.parts[k] (List.getElem_mem hlt)
      unfold stepB at hst
      rw [hgd] at hst
      generalize f.parts[k] = p at *
      generalize builtTo f.parts fs k = bt at *
      obtain ⟨ws, rs⟩ := bt
      simp only at hown hlen hsz hst hlf
      generalize hnn : (roomsM (f.parts.take k)).length = n at *
      have Hst := Lib.hid hst
      have Hlf := Lib.hid hlf
      have Hrc := Lib.hid hrc
      have Hsz := Lib.hid hsz
      clear hst hlf hgd hsz
      cases hro : roomyM p
      · have e0 : ((p.words.length : Int) == 0) = false := by
          unfold roomyM at hro
          simp at hro ⊢
          exact hro
        have Hs2 : Hid (builtTo f.parts fs (k + 1) = (ws ++ p.words, rs)) := Lib.hid (by rw [Hst.out, hro]; rfl)
        have Hc2 : Hid ((roomsM (f.parts.take (k + 1))).length = n) := Lib.hid (by rw [Hrc.out, hro]; simp)
        have Hpz := Lib.hid hs.sizes
        clear hro hrc hnn hle Hst Hrc
        go_wp2_with fail
        refine (refRoomy_any ua p.words.length uc p.lo p.hi _).mono ?_
        rintro e w2 ⟨rfl, hx2⟩
        rw [e0]
        have own2 := RowW.ext hown hx2
        have x2 := hxr.trans hx2
        have r2 := hx2.cell r1
        have z2 := cell_lt r2
        replace p0 := hx2.cell p0
        have hs2 := hs.ext hx2
        have hsz2 := hx2.size
        have hownlt := fun k hk => (World.ownsRow.lt own2 k hk).1
        clear hown e0 hs
        go_wp2_with ((at_builtin; go_loud (refine wpList_append_strs rfl _ _ 25 rfl W.heap.size i0 Tryz.underlying25 hi hz0 hz1 hz2 u5 _ rfl own2 (.slice ua p.words.length uc) rfl p.words hs2 (by omega) (by omega) ?_; intro v' w4 hown' hgrow _)))
        have hx4 : Ext W w4 := Ext.grown x2 hgrow hownlt
        go_roundw
        case rel => exact ⟨k + 1, by omega, by go_num, by rw [Hc2.out], hx4, by rw [Hs2.out]; exact hown', by rw [Hs2.out]; simp only [List.length_append]; omega, by
          rw [Hs2.out]
          intro s hs
          rcases List.mem_append.1 hs with h | h
          · exact Hsz.out s h
          · exact Hpz.out s h⟩
        case measure => simp [intOf]; omega
      · have e0 : ((p.words.length : Int) == 0) = true := by
          unfold roomyM at hro
          simp at hro ⊢
          exact hro
        have hnl : n < fs.length := by rw [hrc, hro] at hle; simp at hle; omega
        have hhd : rs.headD [] = fs[n] := by rw [Hlf.out, List.drop_eq_getElem_cons hnl]; rfl
        have Hs2 : Hid (builtTo f.parts fs (k + 1) = (ws ++ fs[n], rs.tail)) := Lib.hid (by rw [Hst.out, hro, ← hhd]; rfl)
        have Hc2 : Hid ((roomsM (f.parts.take (k + 1))).length = n + 1) := Lib.hid (by rw [Hrc.out, hro]; simp)
        have k2 : (n : Int) < (fs.length : Int) := by omega
        obtain ⟨fb, fo, rfl, fu, g0, hfu⟩ := (hfW.ext hxr).get hnl
        have hf15 := Hf3.out fs[n] (List.getElem_mem hnl)
        generalize fs[n] = x at *
        obtain ⟨xa, xc, rfl, -⟩ := hfu.shape
        have Hxz := Lib.hid hfu.sizes
        simp only [Nat.mul_one] at g0
        clear hro hrc hnn hle Hst Hrc hhd
        go_wp2_with fail
        refine (refRoomy_any ua p.words.length uc p.lo p.hi _).mono ?_
        rintro e w2 ⟨rfl, hx2⟩
        rw [e0]
        have own2 := RowW.ext hown hx2
        have x2 := hxr.trans hx2
        have r2 := hx2.cell r1
        have z2 := cell_lt r2
        replace g0 := hx2.cell g0
        have hs2 := hfu.ext hx2
        have hsz2 := hx2.size
        have hownlt := fun k hk => (World.ownsRow.lt own2 k hk).1
        clear hown e0 hfu
        go_wp2_with ((at_builtin; go_loud (refine wpList_append_strs rfl _ _ 25 rfl W.heap.size i0 Tryz.underlying25 hi hz0 hz1 hz2 u5 _ rfl own2 (.slice xa x.length xc) rfl x hs2 (by omega) (by omega) ?_; intro v' w4 hown' hgrow _)))
        have hx4 : Ext W w4 := Ext.grown x2 hgrow hownlt
        go_roundw
        case rel => exact ⟨k + 1, by omega, by go_num, by rw [Hc2.out]; go_num, hx4, by rw [Hs2.out]; exact hown', by rw [Hs2.out]; simp only [List.length_append]; omega, by
          rw [Hs2.out]
          intro s hs
          rcases List.mem_append.1 hs with h | h
          · exact Hsz.out s h
          · exact Hxz.out s h⟩
        case measure => simp [intOf]; omega
    · obtain rfl : k = f.parts.length := by omega
      have hat := RowW.at_ hown hsz
      have hbm : (builtTo f.parts fs f.parts.length).1 = builtM f.parts fs := rfl
      rw [hbm] at hat hown
      have hown2 : RowW w.heap.size (builtM f.parts fs) u5 wr := ⟨hown.1, by
        rcases hown.2 with h | ⟨g, cap, cur, e, h1, h2⟩
        · exact .inl h
        · exact .inr ⟨g, cap, cur, e, by omega, h2⟩⟩
      clear hown hsz hlen
      obtain ⟨oa, oc, rfl, -⟩ := hat.shape
      go_wp2
      go_ret
      exact ⟨_, rfl, hat, hown2, xW.trans hxr⟩
end Go.Proofs.YtcamegaimleomaaGreat
