/-
  WHAT firstOf RETURNS: the first string that all of some spellings can be, and whether there is one.
-/
import Derived.Test.YtbodmgilcohfjaaLeast
import Derived.Test.YtbodmgilcohfjaaHeard
namespace Go.Proofs.Ytbodmgilcohfjaa
open Go.RowKit
set_option linter.unusedVariables false

set_option maxRecDepth 100000 in
set_option maxHeartbeats 4000000 in
theorem firstOf_any (B : Nat) (M : Tally) (K : Nat) (hM : FineT K M) (hK : (K : Int) ≤ 5) (n : Nat) (hn : n < 32) (w : World) (hmap : MapIs w B M) :
    Calls Try.prog 67 #[.map (some B), .int .i64 n] w fun e w' => ∃ k f, e = .returned (.tuple #[ssV k, .bool f]) ∧ FirstIs M (fun _ => True) n k f ∧ Ext w w' := by
  go_enter Try.func67, Try.ntmps67
  go_wp2_with (at_range; refine wpList_range_ss _ rfl _ rfl B M rfl ((hmap.kept (Below.block (ext_alloc _ _) _ hmap.lt)).kept (Below.block (ext_alloc _ _) _ (by have := hmap.lt; simp; omega))) (w.heap.size + 1 + 1) (by simp) ?_; intro w0 hit0 hx0 hs0)
  go_frame
  have hm0 : MapIs w0 B M := ((hmap.kept (Below.block (ext_alloc _ _) _ hmap.lt)).kept (Below.block (ext_alloc _ _) _ (by have := hmap.lt; simp; omega))).kept (Below.block hx0 _ (by have := hmap.lt; simp; omega))
  have hBlt := hmap.lt
  have xw : Ext w w0 := ((ext_alloc _ _).alloc _).trans hx0
  have hz0 : SixAt w0 (w.heap.size + 1) [] := ⟨hx0.cell (by simp [go_sem]), hx0.cell (by simp [go_sem]), hx0.cell (by simp [go_sem]), hx0.cell (by simp [go_sem]), hx0.cell (by simp [go_sem]), hx0.cell (by simp [go_sem])⟩
  have hr0 : SixAt w0 w.heap.size [] := ⟨hx0.cell (by simp [go_sem]), hx0.cell (by simp [go_sem]), hx0.cell (by simp [go_sem]), hx0.cell (by simp [go_sem]), hx0.cell (by simp [go_sem]), hx0.cell (by simp [go_sem])⟩
  have hf0 : ∀ o, w0.frozen? ⟨w.heap.size + 1, o, none⟩ = false := fun o => by rw [hx0.frozen (by first | (simp; done) | (simp; omega))]; simp [go_sem]
  have hg0 : ∀ o, w0.frozen? ⟨w.heap.size, o, none⟩ = false := fun o => by rw [hx0.frozen (by first | (simp; done) | (simp; omega))]; simp [go_sem]
  go_loopw [7] (fun fv wr => ∃ (seen : Array Nat) (k : List Int) (f : Bool), fv = .bool f ∧ FirstIs M (fun i => seen.contains i = true) n k f ∧ Range w (w.heap.size + 1 + 1) B M.length (w.heap.size + 1) w.heap.size seen M k wr ∧ k.length ≤ 5 ∧ (∀ x ∈ k, I64 x)) (fun _ wr => leftW M.length (w.heap.size + 1 + 1) wr)
  case atStart => exact ⟨#[], [], false, rfl, FirstIs.start M n, ⟨hit0, hm0, hz0, hf0, hr0, hg0, xw⟩, by simp, by simp⟩
  case round =>
    obtain ⟨seen, k, f, rfl, hF, hR, hk5, hkI⟩ := hrel
    have hR0 := hR
    obtain ⟨hit, hm, hz, hf, hr, hg, hx⟩ := hR0
    obtain ⟨r0, r1, r2, r3, r4, r5⟩ := hr
    simp only [List.length_nil, List.getD_nil] at r0 r1 r2 r3 r4 r5
    obtain ⟨sn, s0, s1, s2, s3, s4, hsv, hsn, hs0, hs1, hs2, hs3, hs4⟩ : ∃ sn s0 s1 s2 s3 s4, ssV k = .agg #[.int .i64 sn, .int .i64 s0, .int .i64 s1, .int .i64 s2, .int .i64 s3, .int .i64 s4] ∧ (k.length : Int) = sn ∧ k.getD 0 0 = s0 ∧ k.getD 1 0 = s1 ∧ k.getD 2 0 = s2 ∧ k.getD 3 0 = s3 ∧ k.getD 4 0 = s4 :=
      ⟨_, _, _, _, _, _, rfl, rfl, rfl, rfl, rfl, rfl, rfl⟩
    obtain ⟨z0, z1, z2, z3, z4, z5⟩ := hz
    rw [hsn] at z0; rw [hs0] at z1; rw [hs1] at z2; rw [hs2] at z3; rw [hs3] at z4; rw [hs4] at z5
    clear hsn hs0 hs1 hs2 hs3 hs4
    have y0 : w.heap.size + 1 < wr.heap.size := cell_lt z0
    go_wp2_with (at_next; refine wpList_next_ss _ rfl _ rfl B (w.heap.size + 1 + 1) M seen rfl hit hm ?_ ?_)
    · intro hall
      have Hall := Lib.hid hall
      clear hall
      obtain ⟨t0, t1, t2, t3, t4, t5⟩ := six_set r0 r1 r2 r3 r4 r5 (.int .i64 sn) (.int .i64 s0) (.int .i64 s1) (.int .i64 s2) (.int .i64 s3) (.int .i64 s4)
      go_wp2
      refine bodyPost_ret (v := .tuple #[.agg #[.int .i64 sn, .int .i64 s0, .int .i64 s1, .int .i64 s2, .int .i64 s3, .int .i64 s4], .bool f]) (by simp [results, Try.results67, go_sem, t0, t1, t2, t3, t4, t5]) rfl ?_
      refine ⟨k, f, by rw [hsv], ⟨fun h => ⟨(hF.no h).1, fun i hi _ => (hF.no h).2 i hi (by simpa using Hall.out i hi)⟩, fun h => ⟨(hF.yes h).1, fun i hi _ => (hF.yes h).2 i hi (by simpa using Hall.out i hi)⟩⟩, ?_⟩
      exact (((((hx.setCell (by simp) _).setCell (by simp) _).setCell (by simp) _).setCell (by simp) _).setCell (by simp) _).setCell (by simp) _
    · intro i hi w' hse hit' hgr hsz hent
      have hse' : seen.contains i = false := by simpa using hse
      have hR' := hR.next hgr hit' (by omega) (by omega) (by omega) (by omega)
      have hlN : leftN M.length (seen.push i) < leftN M.length seen := leftN_push hi hse'
      have hlR := leftW_eq hit
      have kp := hM.keys _ (List.getElem_mem hi)
      have vl := hM.vals _ (List.getElem_mem hi)
      have hand := and_small ⟨(M[i]).2, vl⟩ ⟨n, hn⟩
      simp only at hand
      have hskip := fun hs => hF.skip hi hs
      have htake := fun hb hs => hF.take hi hb hs
      have hkI' : ∀ x ∈ (M[i]).1, I64 x := fun x hx => by have := kp.2 x hx; unfold I64; omega
      have hcmp := fun w => compare_any (M[i]).1 k kp.1 hkI' hkI w
      have htook := fun W (h : Range w (w.heap.size + 1 + 1) B M.length (w.heap.size + 1) w.heap.size (seen.push i) M k W) => h.took (by omega) (by omega) (by omega) (by omega) (M[i]).1
      generalize hq : (M[i]).1 = q at *
      obtain ⟨p0, p1, p2, p3, p4, p5, hpv, hpn, hp0, hp1, hp2, hp3, hp4⟩ : ∃ p0 p1 p2 p3 p4 p5, ssV q = .agg #[.int .i64 p0, .int .i64 p1, .int .i64 p2, .int .i64 p3, .int .i64 p4, .int .i64 p5] ∧ (q.length : Int) = p0 ∧ q.getD 0 0 = p1 ∧ q.getD 1 0 = p2 ∧ q.getD 2 0 = p3 ∧ q.getD 3 0 = p4 ∧ q.getD 4 0 = p5 :=
        ⟨_, _, _, _, _, _, rfl, rfl, rfl, rfl, rfl, rfl, rfl⟩
      rw [hpv] at hent hcmp ⊢
      rw [hsv] at hcmp
      rw [hpn, hp0, hp1, hp2, hp3, hp4] at htook
      clear hpn hp0 hp1 hp2 hp3 hp4
      obtain ⟨z0', z1', z2', z3', z4', z5'⟩ : w'.cell? ⟨w.heap.size + 1, 0, none⟩ = some (.int .i64 sn) ∧ w'.cell? ⟨w.heap.size + 1, 1, none⟩ = some (.int .i64 s0) ∧ w'.cell? ⟨w.heap.size + 1, 2, none⟩ = some (.int .i64 s1) ∧ w'.cell? ⟨w.heap.size + 1, 3, none⟩ = some (.int .i64 s2) ∧ w'.cell? ⟨w.heap.size + 1, 4, none⟩ = some (.int .i64 s3) ∧ w'.cell? ⟨w.heap.size + 1, 5, none⟩ = some (.int .i64 s4) :=
        ⟨hgr.cell z0 (by simp), hgr.cell z1 (by simp), hgr.cell z2 (by simp), hgr.cell z3 (by simp), hgr.cell z4 (by simp), hgr.cell z5 (by simp)⟩
      have y0' : w.heap.size + 1 < w'.heap.size := cell_lt z0'
      have hfr' := hR'.fr
      clear z0 z1 z2 z3 z4 z5 r0 r1 r2 r3 r4 r5 hf hg hit hm hx hz0 hf0 hr0 hg0 hit0 hm0 hx0 hgr
      generalize (M[i]).2 = v at *
      by_cases hb : v &&& n = n
      · rw [hb] at hand
        have Hb := Lib.hid hb
        cases f
        · have hres := (htook _ hR').later (ext_alloc _ (.cells #[.int .i64 p0, .int .i64 p1, .int .i64 p2, .int .i64 p3, .int .i64 p4, .int .i64 p5] 100))
          have Hres := Lib.hid hres
          clear hres htook
          go_wp2
          go_roundw
          case rel => exact ⟨_, q, true, rfl, htake Hb.out (.inl rfl), Hres.out, kp.1, hkI'⟩
          case measure => rw [leftW_eq Hres.out.it, hlR]; exact hlN
        · go_wp2_with fail
          refine (hcmp _).mono ?_
          rintro e w2 ⟨rfl, hx2⟩
          have g2 := (hR'.later (ext_alloc _ _)).later hx2
          have o0 : w2.cell? ⟨w'.heap.size, 0, none⟩ = some (.int .i64 p0) := hx2.cell (by simp [go_sem])
          have o1 : w2.cell? ⟨w'.heap.size, 1, none⟩ = some (.int .i64 p1) := hx2.cell (by simp [go_sem])
          have o2 : w2.cell? ⟨w'.heap.size, 2, none⟩ = some (.int .i64 p2) := hx2.cell (by simp [go_sem])
          have o3 : w2.cell? ⟨w'.heap.size, 3, none⟩ = some (.int .i64 p3) := hx2.cell (by simp [go_sem])
          have o4 : w2.cell? ⟨w'.heap.size, 4, none⟩ = some (.int .i64 p4) := hx2.cell (by simp [go_sem])
          have o5 : w2.cell? ⟨w'.heap.size, 5, none⟩ = some (.int .i64 p5) := hx2.cell (by simp [go_sem])
          rw [hsz] at o0 o1 o2 o3 o4 o5
          have hfq := g2.fr
          obtain ⟨b0, b1, b2, b3, b4, b5⟩ := g2.six
          clear hcmp hx2
          by_cases hlt : cmpSS q k < 0
          · have Hlt := Lib.hid hlt
            have hres := htook _ g2
            have Hres := Lib.hid hres
            clear hres htook
            generalize cmpSS q k = cc at *
            go_wp2
            go_roundw
            case rel => exact ⟨_, q, true, rfl, htake Hb.out (.inr Hlt.out), Hres.out, kp.1, hkI'⟩
            case measure => rw [leftW_eq Hres.out.it, hlR]; exact hlN
          · have Hlt := Lib.hid hlt
            generalize cmpSS q k = cc at *
            go_wp2
            go_roundw
            case rel => exact ⟨_, k, true, rfl, hskip (.inr (by have := Hlt.out; simp; omega)), g2, hk5, hkI⟩
            case measure => rw [leftW_eq g2.it, hlR]; exact hlN
      · have hne : (((v &&& n : Nat) : Int) == (n : Int)) = false := by
          rw [beq_eq_false_iff_ne]; exact fun e => hb (by exact_mod_cast e)
        have Hb := Lib.hid hb
        clear hb
        generalize v &&& n = x at *
        go_wp2
        go_roundw
        case rel => exact ⟨_, k, f, rfl, hskip (.inl Hb.out), hR'.later (ext_alloc _ _), hk5, hkI⟩
        case measure => rw [leftW_eq (hR'.later (ext_alloc _ _)).it, hlR]; exact hlN
end Go.Proofs.Ytbodmgilcohfjaa
