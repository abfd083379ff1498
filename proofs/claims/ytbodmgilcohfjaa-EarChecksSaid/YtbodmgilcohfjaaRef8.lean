/-
  WHAT Check OF THE REFERENCE RETURNS: the same as that of ear. For any book.
-/
import Derived.Test.YtbodmgilcohfjaaRef7
import Derived.Test.YtbodmgilcohfjaaLetters
namespace Go.Proofs.Ytbodmgilcohfjaa
open Go.RowKit

theorem StrsAt.of_own {w : World} {B : Nat} {e : TypeId} {v : Value} {l : List ByteArray} (h : w.ownsRow B e 1 v l.length (l.map Value.string)) (hI : ∀ x ∈ l, x.size ≤ 9223372036854775807) : StrsAt w v l := by
  rcases h.2 with ⟨rfl, hn⟩ | ⟨g, cap, cur, rfl, hb, hg, hnc, hcm, hcs, htake⟩
  · have : l = [] := List.eq_nil_of_length_eq_zero hn
    subst this; exact SliceAt.nil
  · refine ⟨_, _, rfl, hnc, by simpa [maxLen] using hcm, fun i hi => ⟨g, 0, rfl, ?_, hI _ (List.getElem_mem hi)⟩⟩
    have := h.cells (g := g) rfl i (.string l[i]) (by simp [hi])
    have e : (⟨g, 0, none⟩ : Addr).add i = ⟨g, 0 + i * 1, none⟩ := by unfold Addr.add; split <;> simp_all
    rw [e] at this; exact this
def namesTo (al : List Alphabet) (k : Nat) : List ByteArray := (al.take k).map Alphabet.name
theorem namesTo_succ (al : List Alphabet) (k : Nat) (h : k < al.length) (y : Alphabet) (hy : al[k] = y) : namesTo al (k + 1) = namesTo al k ++ [y.name] := by
  rw [namesTo, List.take_succ_eq_append_getElem h, hy, List.map_append]; rfl
theorem namesTo_len (al : List Alphabet) (k : Nat) (h : k ≤ al.length) : (namesTo al k).length = k := by simp [namesTo]; omega
theorem AlphabetsAt.names {w : World} {v : Value} {al : List Alphabet} (h : AlphabetsAt w v al) (k : Nat) : ∀ x ∈ namesTo al k, x.size ≤ 9223372036854775807 := by
  obtain ⟨_, _, -, -, -, hh⟩ := h
  intro x hx
  obtain ⟨y, hy, rfl⟩ := List.mem_map.1 hx
  obtain ⟨i, hi, rfl⟩ := List.getElem_of_mem (List.mem_of_mem_take hy)
  obtain ⟨_, _, -, hr⟩ := hh i hi
  exact hr.2.1
theorem snoc_names {w : World} {B : Nat} {e : TypeId} {v : Value} {al : List Alphabet} {k m : Nat} {y : Alphabet} (hb : namesTo al (k + 1) = namesTo al k ++ [y.name]) (hm : m = (namesTo al k).length + 1)
    (h : w.ownsRow B e 1 v m ((namesTo al k).map Value.string ++ [.string y.name])) : w.ownsRow B e 1 v (namesTo al (k + 1)).length ((namesTo al (k + 1)).map Value.string) := by
  subst hm
  rw [hb]
  simpa using h
theorem infoStr : (Try.prog.info? 9).map (fun i => (i.zero, i.size, i.bytes)) = some (some (.string ByteArray.empty), 1, 16) := by kernel_rfl
theorem alphabetErr_eq (S : Int) (l : List Alphabet) (x : Alphabet) : alphabetErrM S l x = if freshM x.name (l.map Alphabet.name) = 0 then lettersErrM S x.letters else freshM x.name (l.map Alphabet.name) := by
  unfold alphabetErrM freshM lettersErrM
  rw [List.any_map]
  have e : ((fun y : ByteArray => y.toList == x.name.toList) ∘ Alphabet.name) = fun y : Alphabet => y.name.toList == x.name.toList := rfl
  rw [e]
  cases nameM x.name
  · simp
  · cases (l.any fun y : Alphabet => y.name.toList == x.name.toList) <;> simp

set_option maxHeartbeats 2000000 in
set_option maxRecDepth 100000 in
theorem refCheck_any (bv : Value) (b : Book) (w : World) (hb : BookAt w bv b) :
    Calls Try.prog 18 #[bv] w fun e w' => e = .returned (.tuple #[.int .i64 (checkM b).1, .int .i64 (checkM b).2.1, .int .i64 (checkM b).2.2]) ∧ Ext w w' := by
  obtain ⟨ba, bc, bs, bd, rfl, hbi, hbl, hbc, hsl, hsc, -, hal, hsp⟩ := hb.open
  have hbi' : -9223372036854775808 ≤ b.sounds ∧ b.sounds ≤ 9223372036854775807 := hbi
  cases h1 : inM b.sounds 1 4
  · have H1 := Lib.hid h1
    go_enter Try.func18, Try.ntmps18
    go_wp2_with (go_at_call 49; refine (In_any _ _ _ _).mono ?_; rintro e w' ⟨rfl, rfl⟩)
    go_ret3
    exact ⟨ret_three (by rw [checkM, if_pos H1.out]), (by first | (with_reducible exact Ext.refl _) | (with_reducible assumption) | (show Below _ _ _; go_grown; done))⟩
  have hS : 1 ≤ b.sounds ∧ b.sounds ≤ 4 := by simpa [inM] using h1
  have H1 := Lib.hid h1
  cases h2 : inM b.alphabets.length 1 3
  · have H2 := Lib.hid h2
    go_enter Try.func18, Try.ntmps18
    go_wp2_with (go_at_call 49; refine (In_any _ _ _ _).mono ?_; rintro e w' ⟨rfl, rfl⟩)
    go_ret3
    exact ⟨ret_three (by rw [checkM, if_neg (by rw [H1.out]; decide), if_pos H2.out]), (by first | (with_reducible exact Ext.refl _) | (with_reducible assumption) | (show Below _ _ _; go_grown; done))⟩
  have hL : b.alphabets.length ≤ 3 := by simp [inM] at h2; omega
  have H2 := Lib.hid h2
  obtain ⟨i0, hi, hz0, hz1, hz2⟩ := info_parts infoStr
  go_enter Try.func18, Try.ntmps18
  go_wp2_with (go_at_call 49; refine (In_any _ _ _ _).mono ?_; rintro e w' ⟨rfl, rfl⟩)
  clear h1 h2
  go_loopw [5, 6] (fun v i wr => ∃ k : Nat, k ≤ b.alphabets.length ∧ i = .int .i64 k ∧ Ext w wr ∧ (wr.cell? ⟨w.heap.size, 0, none⟩ = some (.int .i64 b.sounds) ∧ wr.cell? ⟨w.heap.size, 1, none⟩ = some (.slice ba b.alphabets.length bc) ∧ wr.cell? ⟨w.heap.size, 2, none⟩ = some (.slice bs b.spellings.length bd)) ∧
    wr.ownsRow (w.heap.size + 1) 9 1 v (namesTo b.alphabets k).length ((namesTo b.alphabets k).map Value.string) ∧
    firstErrFrom (alphabetErrM b.sounds) (b.alphabets.take k) (b.alphabets.drop k) = alphErr b) (fun _ i _ => b.alphabets.length - (intOf i).toNat)
  case atStart => exact ⟨0, Nat.zero_le _, rfl, (by first | (with_reducible exact Ext.refl _) | (with_reducible assumption) | (show Below _ _ _; go_grown; done)), ⟨by simp [go_sem], by simp [go_sem], by simp [go_sem]⟩, World.ownsRow_nil _ _ _ _, rfl⟩
  case round =>
    obtain ⟨k, hk, rfl, hx, ⟨q0, q1, q2⟩, hown, hd⟩ := hrel
    have Hd := Lib.hid hd; clear hd
    by_cases hlt : k < b.alphabets.length
    · have hlen := namesTo_len b.alphabets k hk
      have hnm := hal.names k
      obtain ⟨_, _, he, -, -, hh⟩ := hal.ext hx
      obtain ⟨bb, off, rfl, c0, hns, lv, c1, hlv⟩ := hh k hlt
      cases he
      have hsucc := fun y hy => namesTo_succ b.alphabets k hlt y hy
      generalize hy : b.alphabets[k] = y at *
      have Hsucc := Lib.hid (hsucc y rfl)
      have Hy := Lib.hid hy
      clear hy hh hsucc
      obtain ⟨la, lc, rfl, -⟩ := hlv.shape
      have Hlen := Lib.hid hlen; clear hlen
      have hst := StrsAt.of_own hown hnm
      have z3 := cell_lt c0
      have z4 := cell_lt q0
      have hml : (namesTo b.alphabets k).length ≤ 5 := by rw [Hlen.out]; omega
      go_wp2_with fail
      refine (fresh_any _ y.name (namesTo b.alphabets k) wr hns hst).mono ?_
      rintro e w' ⟨rfl, rfl⟩
      clear hst
      generalize hf : freshM y.name (namesTo b.alphabets k) = f at *
      have heq : alphabetErrM b.sounds (b.alphabets.take k) y = if f = 0 then lettersErrM b.sounds y.letters else f := by rw [alphabetErr_eq, ← hf]; rfl
      have Heq := Lib.hid heq
      clear heq hf
      by_cases h0 : f = 0
      · subst h0
        have Heq0 : Hid (alphabetErrM b.sounds (b.alphabets.take k) y = lettersErrM b.sounds y.letters) := Lib.hid (by rw [Heq.out, if_pos rfl])
        clear Heq
        go_wp2_with ((at_builtin; refine wpList_append_own _ rfl _ _ 82 rfl (w.heap.size + 1) 9 i0 (.string ByteArray.empty) 1 16 Try.underlying82 hi hz0 hz1 hz2 rfl (by decide) _ _ _ rfl (hown.alloc _) ⟨wr.heap.size, 0, none⟩ 1 1 [.string y.name] rfl rfl (cell_one_new _ _ _) (by simp [Value.oneCell']) (by unfold maxLen; omega) (by omega) (by simp; omega) ?_; intro v' w2 hown' hgrow _))
        have hx3 : Ext w w2 := Ext.grown (hx.alloc _) hgrow fun k hk => Nat.le_trans (by omega) (hown.lt k hk).1
        have r0 : w2.cell? ⟨w.heap.size, 0, none⟩ = some (.int .i64 b.sounds) := hgrow.cell (by simpa [go_sem, z4] using q0) (fun e => by
          have := (hown.lt w.heap.size e.symm).1
          omega)
        have r1 : w2.cell? ⟨w.heap.size, 1, none⟩ = some (.slice (some ⟨bb, off, none⟩) b.alphabets.length bc) := hgrow.cell (by simpa [go_sem, z4] using q1) (fun e => by
          have := (hown.lt w.heap.size e.symm).1
          omega)
        have r2 : w2.cell? ⟨w.heap.size, 2, none⟩ = some (.slice bs b.spellings.length bd) := hgrow.cell (by simpa [go_sem, z4] using q2) (fun e => by
          have := (hown.lt w.heap.size e.symm).1
          omega)
        obtain ⟨_, _, he, -, -, hh⟩ := hal.ext hx3
        obtain ⟨bb', off', he', d0, -, lv', d1, hlv'⟩ := hh k hlt
        cases he
        cases he'
        rw [Hy.out] at d0 hlv'
        clear hh c0 c1 hlv q0 q1 q2 hown hgrow
        have k1 : (k : Int) < (b.alphabets.length : Int) := by omega
        apply Facts.wp_region [.val _, .val _, .val _, .val _, .val _, .val _, .val _, .val (.int .i64 (lettersErrM b.sounds y.letters)), .val _] (by kernel_rfl) (by kernel_rfl) trivial ?main
        case main =>
          iterate 7 (refine ⟨fun w1 hx hh => ?_, ?_⟩; focus (clear hh; have e0 := hx.cell r0; have e1 := hx.cell r1; have e2 := hx.cell r2; have e3 := hx.cell d1; go_simp; exact ⟨Ext.refl _, rfl⟩))
          refine ⟨fun w1 hx hh => ?_, ?_⟩
          · clear hh
            go_simp
            refine (refLetters_any _ _ b hS y.letters w1 ((hb.ext hx3).ext hx) (hlv'.ext hx)).mono ?_
            rintro e w' ⟨rfl, hx2⟩
            exact ⟨_, rfl, hx2, rfl⟩
          iterate 1 (refine ⟨fun w1 hx hh => ?_, ?_⟩; focus (clear hh; skip; go_simp; exact ⟨Ext.refl _, rfl⟩))
          intro w3 hx4 hh
          have hx5 := hx3.trans hx4
          have cs := And.intro (hx4.cell r0) (And.intro (hx4.cell r1) (hx4.cell r2))
          have hown3 := Ext.owns hown' hx4
          clear hh r0 r1 r2 d0 d1 hlv' hown'
          generalize lettersErrM b.sounds y.letters = g at *
          go_simp
          by_cases hg : (g != 0) = true
          · have Hg := Lib.hid hg
            go_wp2
            go_ret3
            have e1 : alphErr b = ((k : Int), alphabetErrM b.sounds (b.alphabets.take k) y) := by
              rw [← Hd.out]; exact firstErrFrom_hit _ _ k hlt y Hy.out (by rw [Heq0.out]; simpa using Hg.out)
            exact ⟨ret_three (by rw [checkM, if_neg (by rw [H1.out]; decide), if_neg (by rw [H2.out]; decide), e1, Heq0.out, if_pos (by simpa using Hg.out)]), hx5⟩
          · have hg' : (g != 0) = false := by simpa using hg
            have Hg := Lib.hid hg'
            clear hg
            go_wp2
            go_roundw
            case rel => exact ⟨k + 1, by omega, by go_num, hx5, cs, snoc_names Hsucc.out rfl hown3, (firstErrFrom_step _ _ k hlt y Hy.out (by rw [Heq0.out]; simpa using Hg.out)).trans Hd.out⟩
            case measure => simp [intOf]; omega
      · have h0' : (f == 0) = false := by simpa using h0
        have h0'' : (f != 0) = true := by simpa using h0
        have H0 := Lib.hid h0
        clear h0
        go_wp2_with ((at_builtin; refine wpList_append_own _ rfl _ _ 82 rfl (w.heap.size + 1) 9 i0 (.string ByteArray.empty) 1 16 Try.underlying82 hi hz0 hz1 hz2 rfl (by decide) _ _ _ rfl (hown.alloc _) ⟨wr.heap.size, 0, none⟩ 1 1 [.string y.name] rfl rfl (cell_one_new _ _ _) (by simp [Value.oneCell']) (by unfold maxLen; omega) (by omega) (by simp; omega) ?_; intro v' w2 hown' hgrow _))
        have hx3 : Ext w w2 := Ext.grown (hx.alloc _) hgrow fun k hk => Nat.le_trans (by omega) (hown.lt k hk).1
        go_ret3
        have e1 : alphErr b = ((k : Int), alphabetErrM b.sounds (b.alphabets.take k) y) := by
          rw [← Hd.out]; exact firstErrFrom_hit _ _ k hlt y Hy.out (by rw [Heq.out, if_neg H0.out]; exact H0.out)
        exact ⟨ret_three (by rw [checkM, if_neg (by rw [H1.out]; decide), if_neg (by rw [H2.out]; decide), e1, Heq.out, if_neg H0.out, if_pos H0.out]), hx3⟩
    · have e1 : alphErr b = (0, 0) := by rw [← Hd.out]; exact firstErrFrom_end _ _ _ (by omega)
      have E1 := Lib.hid e1
      clear e1
      by_cases h4 : (5 : Int) < b.spellings.length
      · go_wp2
        go_ret3
        exact ⟨ret_three (by rw [checkM, if_neg (by rw [H1.out]; decide), if_neg (by rw [H2.out]; decide), E1.out, if_neg (fun h => h rfl), if_pos (by omega)]), hx⟩
      go_wp2
      go_loopw [8] (fun i wq => ∃ m : Nat, m ≤ b.spellings.length ∧ i = .int .i64 m ∧ Ext w wq ∧ (wq.cell? ⟨w.heap.size, 0, none⟩ = some (.int .i64 b.sounds) ∧ wq.cell? ⟨w.heap.size, 1, none⟩ = some (.slice ba b.alphabets.length bc) ∧ wq.cell? ⟨w.heap.size, 2, none⟩ = some (.slice bs b.spellings.length bd)) ∧
        firstErrFrom (fun _ y => spellingErrM b.alphabets y) (b.spellings.take m) (b.spellings.drop m) = spelErr b) (fun i _ => b.spellings.length - (intOf i).toNat)
      case atStart => exact ⟨0, Nat.zero_le _, rfl, hx, ⟨q0, q1, q2⟩, rfl⟩
      case round =>
        clear hx q0 q1 q2
        obtain ⟨m, hm, rfl, hx, ⟨q0, q1, q2⟩, hd⟩ := hrel
        have Hd2 := Lib.hid hd; clear hd
        by_cases hmt : m < b.spellings.length
        · have m1 : (m : Int) < (b.spellings.length : Int) := by omega
          obtain ⟨_, _, he, -, -, hh⟩ := hsp.ext hx
          obtain ⟨sb, so, rfl, s0, s1, hai, hts⟩ := hh m hmt
          cases he
          generalize hz : b.spellings[m] = z at *
          have Hz := Lib.hid hz; clear hz hh
          go_wp2_with fail
          apply Facts.wp_region [.val _, .val _, .val _, .val _, .val _, .val _, .val (.int .i64 (spellingErrM b.alphabets z)), .val _] (by kernel_rfl) (by kernel_rfl) trivial ?main
          case main =>
            iterate 6 (refine ⟨fun w1 hx hh => ?_, ?_⟩; focus (clear hh; have e0 := hx.cell q0; have e1 := hx.cell q1; have e2 := hx.cell q2; have e3 := hx.cell s0; have e4 := hx.cell s1; go_simp; exact ⟨Ext.refl _, rfl⟩))
            refine ⟨fun w1 hxx hh => ?_, ?_⟩
            · clear hh
              go_simp
              refine (refSpelling_any _ _ b z w1 ((hb.ext hx).ext hxx) ⟨rfl, hai, hts⟩).mono ?_
              rintro e w' ⟨rfl, hx2⟩
              exact ⟨_, rfl, hx2, rfl⟩
            iterate 1 (refine ⟨fun w1 hx hh => ?_, ?_⟩; focus (clear hh; skip; go_simp; exact ⟨Ext.refl _, rfl⟩))
            intro w3 hx4 hh
            have hx5 := hx.trans hx4
            have cs := And.intro (hx4.cell q0) (And.intro (hx4.cell q1) (hx4.cell q2))
            clear hh q0 q1 q2 s0 s1
            generalize hgg : spellingErrM b.alphabets z = g at *
            have Hgg := Lib.hid hgg; clear hgg
            go_simp
            by_cases hg : (g != 0) = true
            · have Hg := Lib.hid hg
              go_wp2
              go_ret3
              have e1 : spelErr b = ((m : Int), spellingErrM b.alphabets z) := by
                rw [← Hd2.out]; exact firstErrFrom_hit _ _ m hmt z Hz.out (by rw [Hgg.out]; simpa using Hg.out)
              exact ⟨ret_three (by rw [checkM, if_neg (by rw [H1.out]; decide), if_neg (by rw [H2.out]; decide), E1.out, if_neg (fun h => h rfl), if_neg (by omega), e1, Hgg.out, if_pos (by simpa using Hg.out)]), hx5⟩
            · have hg' : (g != 0) = false := by simpa using hg
              have Hg := Lib.hid hg'
              clear hg
              go_wp2
              go_roundw
              case rel => exact ⟨m + 1, by omega, by go_num, hx5, cs, (firstErrFrom_step _ _ m hmt z Hz.out (by rw [Hgg.out]; simpa using Hg.out)).trans Hd2.out⟩
              case measure => simp [intOf]; omega
        · have e1 : spelErr b = (0, 0) := by rw [← Hd2.out]; exact firstErrFrom_end _ _ _ (by omega)
          go_wp2
          go_ret3
          exact ⟨ret_three (by rw [checkM, if_neg (by rw [H1.out]; decide), if_neg (by rw [H2.out]; decide), E1.out, if_neg (fun h => h rfl), if_neg (by omega), e1, if_neg (fun h => h rfl)]), hx⟩
end Go.Proofs.Ytbodmgilcohfjaa
