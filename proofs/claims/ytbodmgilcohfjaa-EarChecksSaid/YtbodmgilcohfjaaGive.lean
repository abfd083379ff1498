/-
  WHAT THE ITERATOR OF A SPELLING'S SOUND STRINGS YIELDS: each string of the list, in its order, for whatever body keeps the cells.
-/
import Derived.Test.YtbodmgilcohfjaaCan
import Derived.Test.YtbodmgilcohfjaaPiv
import Derived.RangeFuncWrites
import Derived.RangeFuncLeaves
import Derived.TacticsInMore
import Derived.LoopIn
namespace Go.Proofs.Ytbodmgilcohfjaa
open Go.RowKit

/-- all cells are as they were -/
def CK (w w' : World) : Prop := w.heap.size ≤ w'.heap.size ∧ ∀ p v, w.cell? p = some v → w'.cell? p = some v ∧ w'.frozen? p = w.frozen? p
theorem CK.refl (w : World) : CK w w := ⟨Nat.le_refl _, fun _ _ h => ⟨h, rfl⟩⟩
theorem CK.trans {a b c : World} (h : CK a b) (k : CK b c) : CK a c := ⟨Nat.le_trans h.1 k.1, fun p v hp => by
  obtain ⟨h1, h2⟩ := h.2 p v hp
  obtain ⟨k1, k2⟩ := k.2 p v h1
  exact ⟨k1, k2.trans h2⟩⟩
theorem Ext.ck {w w' : World} (h : Ext w w') : CK w w' := ⟨h.size, fun _ _ hp => ⟨h.cell hp, h.frozen (cell_lt hp)⟩⟩
theorem CK.cell {w w' : World} (h : CK w w') {p : Addr} {v : Value} (hc : w.cell? p = some v) : w'.cell? p = some v := (h.2 p v hc).1
theorem two_ck : Facts.Piv.Two Ext CK := ⟨fun _ _ h => h.ck, fun _ _ _ h k => h.trans k, fun _ _ _ h k => h.trans k, Ext.refl, fun a => ext_drew a⟩
theorem SliceAt.ck {α : Type} {sz : Nat} {R : World → Nat → Nat → α → Prop} (hR : ∀ w w' b o x, CK w w' → R w b o x → R w' b o x) {w w' : World} {v : Value} {l : List α} (h : SliceAt sz R w v l) (hx : CK w w') : SliceAt sz R w' v l := by
  obtain ⟨a, cap, h1, h2, h3, h4⟩ := h
  exact ⟨a, cap, h1, h2, h3, fun i hi => by obtain ⟨b, off, e, r⟩ := h4 i hi; exact ⟨b, off, e, hR _ _ _ _ _ hx r⟩⟩
theorem LettersAt.ck {w w' : World} {v : Value} {l : List Letter} (h : LettersAt w v l) (hx : CK w w') : LettersAt w' v l :=
  SliceAt.ck (fun _ _ _ _ _ hx h => ⟨hx.cell h.1, hx.cell h.2.1, hx.cell h.2.2.1, h.2.2.2⟩) h hx

theorem two_any : Facts.Piv.Two Ext (fun _ _ => True) := ⟨fun _ _ _ => trivial, fun _ _ _ h k => h.trans k, fun _ _ _ _ _ => trivial, Ext.refl, fun a => ext_drew a⟩
/-- a bool that says which of two facts is so -/
def Goes (G X : World → Prop) (b : Bool) (u : Value) (w : World) : Prop := (u = .bool b ∧ G w) ∨ (u = .bool (!b) ∧ X w)
theorem Goes.keeps {G X : World → Prop} {b : Bool} (hG : ∀ A B, Ext A B → G A → G B) (hX : ∀ A B, Ext A B → X A → X B) (u : Value) (w1 w2 : World) (h : Ext w1 w2) (hg : Goes G X b u w1) : Goes G X b u w2 := by
  rcases hg with ⟨e, g⟩ | ⟨e, g⟩
  · exact .inl ⟨e, hG _ _ h g⟩
  · exact .inr ⟨e, hX _ _ h g⟩
theorem Goes.nb {G X : World → Prop} {b : Bool} {u : Value} {w : World} (h : Goes G X b u w) (hn : ∀ x, u ≠ .bool x) : False := by
  rcases h with ⟨e, -⟩ | ⟨e, -⟩
  · exact hn _ e
  · exact hn _ e
theorem Goes.yes {G X : World → Prop} {b : Bool} {w : World} (h : Goes G X b (.bool b) w) : G w := by
  rcases h with ⟨-, g⟩ | ⟨e, -⟩
  · exact g
  · cases b <;> cases e
theorem Goes.no {G X : World → Prop} {b : Bool} {w : World} (h : Goes G X b (.bool (!b)) w) : X w := by
  rcases h with ⟨e, -⟩ | ⟨-, g⟩
  · cases b <;> cases e
  · exact g
theorem yieldsTo_mono (K : Nat) (y : Letter) (ys : List Letter) (s : List Int) (k m : Nat) (h : k ≤ m) : (yieldsTo K y ys s k).length ≤ (yieldsTo K y ys s m).length := by
  obtain ⟨d, rfl⟩ := Nat.exists_eq_add_of_le h
  clear h
  induction d with
  | zero => exact Nat.le_refl _
  | succ d ih =>
    rw [show k + (d + 1) = (k + d) + 1 from by omega]
    cases hg : givesM y (((k + d : Nat) : Int) - 1)
    · rw [yieldsTo_no K y ys s (k + d) hg]; exact ih
    · rw [yieldsTo_yes K y ys s (k + d) hg, List.length_append]; omega
/-- what is yielded keeps the cells; the body says whether it goes on -/
def Body (m l N : Nat) (S : Int) (J Jx : List (List Int) → World → Prop) : Prop :=
  ∀ pre x W1, x.length ≤ 5 → (∀ y ∈ x, 0 ≤ y ∧ y < S) → J pre W1 → pre.length < N → YieldAt Fence.wide m Try.prog l #[ssV x] W1 fun e W' => (e = .returned (.bool true) ∧ J (pre ++ [x]) W' ∧ CK W1 W') ∨ (e = .returned (.bool false) ∧ Jx (pre ++ [x]) W')

/-- the captured variables of the iterator's inner function, as they lie in memory -/
structure Captured (W : World) (l bl bk : Nat) (yb gb : Nat) (lv : Value) (ls : List Letter) (S : Int) : Prop where
  letters : W.cell? ⟨bl, 0, none⟩ = some lv
  at_ : LettersAt W lv ls
  book : W.cell? ⟨bk, 0, none⟩ = some (.int .i64 S)
  yield : W.cell? ⟨yb, 0, none⟩ = some (.func (.yield l) #[] #[])
  give : W.cell? ⟨gb, 0, none⟩ = some (.func (.func 103) #[] #[.pointer (some ⟨bl, 0, none⟩), .pointer (some ⟨yb, 0, none⟩), .pointer (some ⟨bk, 0, none⟩), .pointer (some ⟨gb, 0, none⟩)])
theorem Captured.ck {W W' : World} {l bl bk yb gb : Nat} {lv : Value} {ls : List Letter} {S : Int} (h : Captured W l bl bk yb gb lv ls S) (hx : CK W W') : Captured W' l bl bk yb gb lv ls S :=
  ⟨hx.cell h.letters, h.at_.ck hx, hx.cell h.book, hx.cell h.yield, hx.cell h.give⟩

def GivePost (J Jx : List (List Int) → World → Prop) (all : List (List Int)) (W : World) (e : Ending) (W' : World) : Prop :=
  (e = .returned (.bool true) ∧ J all W' ∧ CK W W') ∨ (e = .returned (.bool false) ∧ ∃ pre, Jx pre W')

theorem good_with {s : List Int} {n S : Int} (h : ∀ y ∈ s, 0 ≤ y ∧ y < S) (hn : -1 ≤ n ∧ n < S) : ∀ y ∈ withS s n, 0 ≤ y ∧ y < S := by
  intro y hy
  unfold withS at hy
  split at hy
  · exact h y hy
  · rcases List.mem_append.1 hy with hy | hy
    · exact h y hy
    · simp at hy; subst hy; omega
theorem with_S (s : List Int) (n : Int) (hs : s.length < 5) (w : World) : Calls Try.prog 104 #[ssV s, .int .i64 n] w fun r w' => r = .returned (ssV (withS s n)) ∧ Ext w w' := by
  by_cases h : n = -1
  · subst h; rw [withS, if_pos rfl]; exact with_none s w
  · rw [withS, if_neg h]; exact with_any s n hs h w
set_option maxRecDepth 100000 in
set_option maxHeartbeats 20000000 in
theorem give_any (m l bl bk yb gb N : Nat) (lv : Value) (ls : List Letter) (S : Int) (hS : 1 ≤ S ∧ S ≤ 4) (h5 : ls.length ≤ 5) (hf : ∀ x ∈ ls, FineL x) (J Jx : List (List Int) → World → Prop)
    (hJ : ∀ s A B, Ext A B → J s A → J s B) (hJx : ∀ s A B, Ext A B → Jx s A → Jx s B) (hY : Body m l N S J Jx) :
    ∀ (rem at_ : Nat) (s : List Int) (pre : List (List Int)) (W : World), at_ + rem = ls.length → s.length ≤ at_ → (∀ y ∈ s, 0 ≤ y ∧ y < S) → Captured W l bl bk yb gb lv ls S → J pre W → pre.length + (yields (S.toNat + 1) (ls.drop at_) s).length ≤ N →
      Calls Try.prog 103 #[.int .i64 at_, ssV s, .pointer (some ⟨bl, 0, none⟩), .pointer (some ⟨yb, 0, none⟩), .pointer (some ⟨bk, 0, none⟩), .pointer (some ⟨gb, 0, none⟩)] W
        (GivePost J Jx (pre ++ yields (S.toNat + 1) (ls.drop at_) s) W) := by
  intro rem
  induction rem with
  | zero =>
    intro at_ s pre W hat hs hgs hc hp hN
    obtain ⟨cl, hl, cb, cy, cg⟩ := hc
    obtain ⟨a, cap, rfl, hlc, hcm⟩ := hl.shape
    have hat' : at_ = ls.length := by omega
    subst hat'
    rw [List.drop_length] at hN ⊢
    simp only [yields, List.length_cons, List.length_nil] at hN ⊢
    obtain ⟨fn, tmps, assign, body, hy, hR⟩ := hY pre s _ (by omega) hgs (hJ _ _ _ (ext_alloc W (.cells #[.int .i64 s.length, .int .i64 (s.getD 0 0), .int .i64 (s.getD 1 0), .int .i64 (s.getD 2 0), .int .i64 (s.getD 3 0), .int .i64 (s.getD 4 0)] 100)) hp) (by omega)
    have z1 := cell_lt cl
    have z2 := cell_lt cy
    unfold ssV ssRaw at *
    generalize s.getD 0 0 = s0 at *
    generalize s.getD 1 0 = s1 at *
    generalize s.getD 2 0 = s2 at *
    generalize s.getD 3 0 = s3 at *
    generalize s.getD 4 0 = s4 at *
    generalize (s.length : Int) = sn at *
    go_enter Try.func103, Try.ntmps103
    refine (wpIn_wide (n := m + 1)).1 ?_
    gi_wp2
    refine hR.mono ?_
    rintro e W3 (⟨rfl, hJ3, hk3⟩ | ⟨rfl, hJx3⟩)
    · gi_wp2
      go_ret
      exact .inl ⟨rfl, hJ3, (ext_alloc _ _).ck.trans hk3⟩
    · gi_wp2
      go_ret
      exact .inr ⟨rfl, _, hJx3⟩
  | succ rem ih =>
    intro at_ s pre W hat hs hgs hc hp hN
    have hlt : at_ < ls.length := by omega
    have hdrop := List.drop_eq_getElem_cons hlt
    rw [hdrop, yields_cons] at hN ⊢
    have hfy : FineL ls[at_] := hf _ (List.getElem_mem hlt)
    obtain ⟨lb, lo, cap, rfl, hlc, hcm, c0, c1, c2, hu8, hu64⟩ : ∃ lb lo cap, lv = .slice (some ⟨lb, lo, none⟩) ls.length cap ∧ ls.length ≤ cap ∧ cap ≤ 9223372036854775807 ∧ letterR W lb (lo + at_ * 3) ls[at_] := by
      obtain ⟨a, cap, e, h1, h2, hh⟩ := hc.at_
      obtain ⟨lb, lo, rfl, hr⟩ := hh at_ hlt
      exact ⟨lb, lo, cap, e, h1, h2, hr⟩
    generalize hyy : ls[at_] = y at *
    obtain ⟨sn, s0, s1, s2, s3, s4, hsv⟩ : ∃ sn s0 s1 s2 s3 s4, ssV s = .agg #[.int .i64 sn, .int .i64 s0, .int .i64 s1, .int .i64 s2, .int .i64 s3, .int .i64 s4] := ⟨_, _, _, _, _, _, rfl⟩
    have hwith : ∀ (n : Int) (w : World), Calls Try.prog 104 #[.agg #[.int .i64 sn, .int .i64 s0, .int .i64 s1, .int .i64 s2, .int .i64 s3, .int .i64 s4], .int .i64 n] w fun r w' => r = .returned (ssV (withS s n)) ∧ Ext w w' := fun n w => by
      have := with_S s n (by omega) w
      rwa [hsv] at this
    have hgives : ∀ (n : Int) (w : World), -1 ≤ n ∧ n ≤ 3 → Calls Try.prog 93 #[.agg #[.int .u8 y.c, .int .i64 y.sounds, .bool y.silent], .int .i64 n] w fun r w' => r = .returned (.bool (givesM y n)) ∧ Ext w w' := fun n w h =>
      gives_any _ y n ⟨rfl, hu8, hu64⟩ hfy h w
    have hih : ∀ (n : Int) (pre : List (List Int)) (w : World), -1 ≤ n ∧ n < S → Captured w l bl bk yb gb (.slice (some ⟨lb, lo, none⟩) ls.length cap) ls S → J pre w → pre.length + (yields (S.toNat + 1) (ls.drop (at_ + 1)) (withS s n)).length ≤ N →
        Calls Try.prog 103 #[.int .i64 ((at_ : Int) + 1), ssV (withS s n), .pointer (some ⟨bl, 0, none⟩), .pointer (some ⟨yb, 0, none⟩), .pointer (some ⟨bk, 0, none⟩), .pointer (some ⟨gb, 0, none⟩)] w
          (GivePost J Jx (pre ++ yields (S.toNat + 1) (ls.drop (at_ + 1)) (withS s n)) w) := fun n pre w h0 h1 h2 h3 => by
      have := ih (at_ + 1) (withS s n) pre w (by omega) (by unfold withS; split <;> (try simp) <;> omega) (good_with hgs h0) h1 h2 h3
      rwa [show ((at_ + 1 : Nat) : Int) = (at_ : Int) + 1 from by omega] at this
    clear ih hdrop
    generalize ls.drop (at_ + 1) = ys at *
    rw [hsv]
    obtain ⟨W1, hW1⟩ : ∃ W1, W1 = W.alloc (.cells #[.int .i64 sn, .int .i64 s0, .int .i64 s1, .int .i64 s2, .int .i64 s3, .int .i64 s4] 100) := ⟨_, rfl⟩
    have hx1 : Ext W W1 := by rw [hW1]; exact ext_alloc _ _
    have q0 : W1.cell? ⟨W.heap.size, 0, none⟩ = some (.int .i64 sn) := by subst hW1; simp [go_sem]
    have q1 : W1.cell? ⟨W.heap.size, 1, none⟩ = some (.int .i64 s0) := by subst hW1; simp [go_sem]
    have q2 : W1.cell? ⟨W.heap.size, 2, none⟩ = some (.int .i64 s1) := by subst hW1; simp [go_sem]
    have q3 : W1.cell? ⟨W.heap.size, 3, none⟩ = some (.int .i64 s2) := by subst hW1; simp [go_sem]
    have q4 : W1.cell? ⟨W.heap.size, 4, none⟩ = some (.int .i64 s3) := by subst hW1; simp [go_sem]
    have q5 : W1.cell? ⟨W.heap.size, 5, none⟩ = some (.int .i64 s4) := by subst hW1; simp [go_sem]
    have hc1 := hc.ck hx1.ck
    have hp1 := hJ _ _ _ hx1 hp
    have cl := hc.letters
    have z1 := cell_lt cl
    have z2 := cell_lt c0
    have k1 : (at_ : Int) < (ls.length : Int) := by omega
    have wat : IntKind.i64.wrap ((at_ : Int) + 1) = (at_ : Int) + 1 := IntWalk.i64_in _ (by omega)
    have HW := Lib.hid hW1
    have Hpost := Lib.hid hN
    clear hN hc hp hW1
    go_enter Try.func103, Try.ntmps103
    go_wp2
    rw [← HW.out]
    go_loopw [10] (fun i wr => ∃ k : Nat, k ≤ S.toNat + 1 ∧ i = .int .i64 ((k : Int) - 1) ∧ CK W1 wr ∧ J (pre ++ yieldsTo (S.toNat + 1) y ys s k) wr) (fun i _ => S.toNat + 1 - (intOf i + 1).toNat)
    case atStart => exact ⟨0, Nat.zero_le _, rfl, CK.refl _, by rw [yieldsTo_zero, List.append_nil]; exact hp1⟩
    case round =>
      obtain ⟨k, hk, rfl, hx, hj⟩ := hrel
      have hcr := hc1.ck hx
      have cb := hcr.book
      have cg := hcr.give
      have p0 := hx.cell q0
      have p1 := hx.cell q1
      have p2 := hx.cell q2
      have p3 := hx.cell q3
      have p4 := hx.cell q4
      have p5 := hx.cell q5
      clear hc1
      by_cases hkS : (k : Int) - 1 < S
      · have hn3 : -1 ≤ (k : Int) - 1 ∧ (k : Int) - 1 ≤ 3 := by omega
        obtain ⟨n, hn⟩ : ∃ n, n = (k : Int) - 1 := ⟨_, rfl⟩
        rw [← hn] at hkS hn3 ⊢
        have Hn := Lib.hid hn
        have wn : IntKind.i64.wrap (n + 1) = n + 1 := IntWalk.i64_in _ (by omega)
        clear hn
        cases hg : givesM y n
        · have hst := yieldsTo_no (S.toNat + 1) y ys s k (by rw [← Hn.out]; exact hg)
          have hgv := fun w => hgives n w hn3
          rw [hg] at hgv
          have Hst := Lib.hid hst
          clear hg hst hgives hwith hih
          go_wp2_with fail
          apply Facts.wp_region [.val _, .val _, .val _, .val _, .val _, .val _, .val _, .val _, .val _, .val _, .val _, .val _, .val _] (by kernel_rfl) (by kernel_rfl) trivial ?main
          case main =>
            iterate 2 (refine ⟨fun w1 hx hh => ?_, ?_⟩; focus (clear hh; skip; go_simp; exact ⟨Ext.refl _, rfl⟩))
            refine ⟨fun w1 hx hh => ?_, ?_⟩
            · clear hh
              go_simp
              refine (hgv _).mono ?_
              rintro e w' ⟨rfl, hx2⟩
              exact ⟨_, rfl, hx2, rfl⟩
            iterate 10 (refine ⟨fun w1 hx hh => ?_, ?_⟩; focus (clear hh; skip; go_simp; exact ⟨Ext.refl _, rfl⟩))
            intro w1 hx1 hh
            clear hh
            go_simp
            go_wp2
            go_roundw
            case rel => exact ⟨k + 1, by have := Hn.out; omega, by rw [show ((k + 1 : Nat) : Int) - 1 = n + 1 from by have := Hn.out; omega], hx.trans hx1.ck, by rw [Hst.out]; exact hJ _ _ _ hx1 hj⟩
            case measure => have := Hn.out; simp [intOf]; omega
        · have hst := yieldsTo_yes (S.toNat + 1) y ys s k (by rw [← Hn.out]; exact hg)
          rw [← Hn.out] at hst
          have hgv := fun w => hgives n w hn3
          rw [hg] at hgv
          have hwv := fun w => hwith n w
          have hle := yieldsTo_mono (S.toNat + 1) y ys s (k + 1) (S.toNat + 1) (by have := Hn.out; omega)
          have hiv := fun w h1 h2 => hih n (pre ++ yieldsTo (S.toNat + 1) y ys s k) w ⟨hn3.1, hkS⟩ h1 h2 (by
            have := Hpost.out
            rw [hst] at hle
            simp only [List.length_append] at hle ⊢
            omega)
          have Hst := Lib.hid hst
          clear hg hst hgives hwith hih hle
          go_wp2_with fail
          obtain ⟨G, hGi, hGo, hGk⟩ : ∃ G : World → Prop, (∀ w, J (pre ++ yieldsTo (S.toNat + 1) y ys s (k + 1)) w → CK wr w → G w) ∧ (∀ w, G w → J (pre ++ yieldsTo (S.toNat + 1) y ys s (k + 1)) w ∧ CK wr w) ∧ ∀ A B, Ext A B → G A → G B :=
            ⟨fun w => J (pre ++ yieldsTo (S.toNat + 1) y ys s (k + 1)) w ∧ CK wr w, fun _ h1 h2 => ⟨h1, h2⟩, fun _ h => h, fun _ _ hx h => ⟨hJ _ _ _ hx h.1, h.2.trans hx.ck⟩⟩
          obtain ⟨X, hXi, hXo, hXk⟩ : ∃ X : World → Prop, (∀ w, (∃ q, Jx q w) → X w) ∧ (∀ w, X w → ∃ q, Jx q w) ∧ ∀ A B, Ext A B → X A → X B :=
            ⟨fun w => ∃ q, Jx q w, fun _ h => h, fun _ h => h, fun _ _ hx ⟨q, h⟩ => ⟨q, hJx _ _ _ hx h⟩⟩
          apply Facts.Piv.wp_region two_any 10 [.val _, .val _, .val _, .val _, .val _, .val _, .val _, .val _, .val _, .val _, .fact (Goes G X true), .fact (Goes G X false), .fact (Goes G X false)] (by kernel_rfl) (by kernel_rfl) (by kernel_rfl) ?keep ?main
          case keep =>
            exact ⟨Goes.keeps hGk hXk, fun h => absurd h (Bool.eq_false_iff.1 (by kernel_rfl)), Goes.keeps hGk hXk, fun h => absurd h (Bool.eq_false_iff.1 (by kernel_rfl)), Goes.keeps hGk hXk, fun h => absurd h (Bool.eq_false_iff.1 (by kernel_rfl)), trivial⟩
          case main =>
            iterate 2 (refine ⟨fun w1 hE hx hh => ?_, ?_⟩; focus (clear hh hx; replace hE := hE (by kernel_rfl); skip; go_simp; exact ⟨Ext.refl _, rfl⟩))
            refine ⟨fun w1 hE hx hh => ?_, ?_⟩
            · clear hh hx
              replace hE := hE (by kernel_rfl)
              go_simp
              refine (hgv _).mono ?_
              rintro e w' ⟨rfl, hx2⟩
              exact ⟨_, rfl, hx2, rfl⟩
            iterate 1 (refine ⟨fun w1 hE hx hh => ?_, ?_⟩; focus (clear hh hx; replace hE := hE (by kernel_rfl); skip; go_simp; exact ⟨Ext.refl _, rfl⟩))
            iterate 1 (refine ⟨fun w1 hE hx hh => ?_, ?_⟩; focus (clear hh hx; replace hE := hE (by kernel_rfl); have e1 := hE.cell cg; go_simp; exact ⟨Ext.refl _, rfl⟩))
            iterate 2 (refine ⟨fun w1 hE hx hh => ?_, ?_⟩; focus (clear hh hx; replace hE := hE (by kernel_rfl); skip; go_simp; exact ⟨Ext.refl _, rfl⟩))
            iterate 1 (refine ⟨fun w1 hE hx hh => ?_, ?_⟩; focus (clear hh hx; replace hE := hE (by kernel_rfl); (have e0 := hE.cell p0; have e1 := hE.cell p1; have e2 := hE.cell p2; have e3 := hE.cell p3; have e4 := hE.cell p4; have e5 := hE.cell p5); go_simp; exact ⟨Ext.refl _, rfl⟩))
            iterate 1 (refine ⟨fun w1 hE hx hh => ?_, ?_⟩; focus (clear hh hx; replace hE := hE (by kernel_rfl); skip; go_simp; exact ⟨Ext.refl _, rfl⟩))
            refine ⟨fun w1 hE hx hh => ?_, ?_⟩
            · clear hh hx
              replace hE := hE (by kernel_rfl)
              go_simp
              refine (hwv _).mono ?_
              rintro e w' ⟨rfl, hx2⟩
              exact ⟨_, rfl, hx2, rfl⟩
            refine ⟨fun w1 hE hx hh => ?_, ?_⟩
            · clear hh hx
              replace hE := hE (by kernel_rfl)
              go_simp
              refine (hiv _ (hcr.ck hE.ck) (hJ _ _ _ hE hj)).mono ?_
              rintro e w' (⟨rfl, hj2, hk2⟩ | ⟨rfl, hq⟩)
              · exact ⟨_, rfl, .inl ⟨rfl, hGi _ (by rw [Hst.out, ← List.append_assoc]; exact hj2) (hE.ck.trans hk2)⟩⟩
              · exact ⟨_, rfl, .inr ⟨rfl, hXi _ hq⟩⟩
            intro u10
            refine ⟨fun w1 hE hx hh => ?_, ?_⟩
            · have h10 : Goes G X true u10 w1 := hh 10 _ List.mem_cons_self (by kernel_rfl)
              clear hh hE hx
              cases u10
              case bool x =>
                cases x
                · have h1 := Goes.no (b := true) h10
                  go_simp; exact ⟨Ext.refl _, .inr ⟨rfl, h1⟩⟩
                · have h1 := Goes.yes h10
                  go_simp; exact ⟨Ext.refl _, .inl ⟨rfl, h1⟩⟩
              all_goals (exfalso; exact h10.nb (fun x h => by cases h))
            intro u11
            refine ⟨fun w1 hE hx hh => ?_, ?_⟩
            · have h10 : Goes G X false u11 w1 := hh 11 _ List.mem_cons_self (by kernel_rfl)
              clear hh hE hx
              cases u11
              case bool x =>
                cases x
                · have h1 := Goes.yes h10
                  go_simp; first | exact Ext.refl _ | exact ⟨Ext.refl _, .inl ⟨rfl, h1⟩⟩
                · have h1 := Goes.no (b := false) h10
                  go_simp; first | exact Ext.refl _ | exact ⟨Ext.refl _, .inr ⟨rfl, h1⟩⟩
              all_goals (exfalso; exact h10.nb (fun x h => by cases h))
            intro u12 w1 hx1 hh
            have h12 : Goes G X false u12 w1 := hh 12 _ List.mem_cons_self
            clear hh hx1
            cases u12
            case bool x =>
              cases x
              · obtain ⟨hj2, hk2⟩ := hGo _ (Goes.yes h12)
                clear hGi hGo hGk hXi hXo hXk
                go_simp
                go_wp2
                go_roundw
                case rel => exact ⟨k + 1, by have := Hn.out; omega, by rw [show ((k + 1 : Nat) : Int) - 1 = n + 1 from by have := Hn.out; omega], hx.trans hk2, hj2⟩
                case measure => have := Hn.out; simp [intOf]; omega
              · have hq := hXo _ (Goes.no (b := false) h12)
                clear hGi hGo hGk hXi hXo hXk
                go_simp
                go_wp2
                go_ret
                exact .inr ⟨rfl, hq⟩
            all_goals (exfalso; exact h12.nb (fun x h => by cases h))
      · have hke : k = S.toNat + 1 := by omega
        subst hke
        go_wp2
        go_ret
        exact .inl ⟨rfl, hj, hx1.ck.trans hx⟩
end Go.Proofs.Ytbodmgilcohfjaa
