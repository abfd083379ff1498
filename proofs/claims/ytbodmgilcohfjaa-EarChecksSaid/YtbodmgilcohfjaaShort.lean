/-
  WHAT shortest RETURNS: for each sound the first letter that gives it.
-/
import Derived.Test.YtbodmgilcohfjaaLetters
import Derived.Laws.IdiomStrings
namespace Go.Proofs.Ytbodmgilcohfjaa
open Go.RowKit
set_option linter.unusedSimpArgs false

def wantedM (heard : List Int) : List Int := if heard = [] then [-1] else heard
def giver (ls : List Letter) (s : Int) : Option Letter := ls.find? fun x => givesM x s
def shortM (ls : List Letter) : List Int → Option (List Int)
  | [] => some []
  | s :: r => match giver ls s, shortM ls r with
    | some x, some l => some (x.c :: l)
    | _, _ => none
/-- the text of the first sounds -/
def textTo (ls : List Letter) (l : List Int) (k : Nat) : List Int := (l.take k).filterMap fun s => (giver ls s).map (·.c)

theorem infoByte : (Try.prog.info? 5).map (fun i => (i.zero, i.size, i.bytes)) = some (some (.int .u8 0), 1, 1) := by kernel_rfl
def bytesOf (l : List Int) : List Value := l.map (Value.int .u8)

theorem textTo_succ (ls : List Letter) (l : List Int) (k : Nat) (hk : k < l.length) (x : Letter) (h : giver ls l[k] = some x) : textTo ls l (k + 1) = textTo ls l k ++ [x.c] := by
  unfold textTo
  rw [List.take_succ_eq_append_getElem hk, List.filterMap_append]
  simp [h]
theorem textTo_len (ls : List Letter) (l : List Int) (k : Nat) : (textTo ls l k).length ≤ k := by
  unfold textTo
  have h1 := List.length_filterMap_le (fun s => (giver ls s).map (·.c)) (l.take k)
  have h2 := List.length_take_le k l
  omega
theorem giver_at (ls : List Letter) (s : Int) (m : Nat) (hm : m < ls.length) (h : ∀ j (_ : j < m) (hj : j < ls.length), givesM ls[j] s = false) (hy : givesM ls[m] s = true) : giver ls s = some ls[m] := by
  rw [giver, List.find?_eq_some_iff_getElem]
  exact ⟨hy, m, hm, rfl, fun j hj => by simpa using h j hj (by omega)⟩
theorem giver_none (ls : List Letter) (s : Int) (h : ∀ j (hj : j < ls.length), givesM ls[j] s = false) : giver ls s = none := by
  rw [giver, List.find?_eq_none]
  intro x hx
  obtain ⟨j, hj, rfl⟩ := List.getElem_of_mem hx
  simp [h j hj]
def shortE (ls : List Letter) (l : List Int) : Int := if l.all fun s => (giver ls s).isSome then 0 else 9
def shortS (ls : List Letter) (l : List Int) : List Int := if l.all fun s => (giver ls s).isSome then textTo ls l l.length else []
theorem shortE_no (ls : List Letter) (l : List Int) (k : Nat) (hk : k < l.length) (h : giver ls l[k] = none) : shortE ls l = 9 ∧ shortS ls l = [] := by
  have : (l.all fun s => (giver ls s).isSome) = false := by
    rw [List.all_eq_false]
    exact ⟨l[k], List.getElem_mem hk, by simp [h]⟩
  simp [shortE, shortS, this]
theorem shortE_yes (ls : List Letter) (l : List Int) (h : ∀ j (hj : j < l.length), (giver ls l[j]).isSome = true) : shortE ls l = 0 ∧ shortS ls l = textTo ls l l.length := by
  have : (l.all fun s => (giver ls s).isSome) = true := by
    rw [List.all_eq_true]
    intro x hx
    obtain ⟨j, hj, rfl⟩ := List.getElem_of_mem hx
    exact h j hj
  simp [shortE, shortS, this]
def strOf (l : List Int) : ByteArray := ⟨(l.map fun n => UInt8.ofNat n.toNat).toArray⟩
theorem textTo_full (ls : List Letter) (l : List Int) (k : Nat) (hk : k ≤ l.length) (h : ∀ j (_ : j < k) (hj : j < l.length), (giver ls l[j]).isSome = true) : (textTo ls l k).length = k := by
  induction k with
  | zero => simp [textTo]
  | succ k ih =>
    obtain ⟨x, hx⟩ := Option.isSome_iff_exists.1 (h k (by omega) (by omega))
    rw [textTo_succ ls l k (by omega) x hx, List.length_append, ih (by omega) fun j hj hl => h j (by omega) hl]; rfl
theorem textTo_U8 (ls : List Letter) (l : List Int) (k : Nat) (h : ∀ x ∈ ls, U8 x.c) : ∀ n ∈ textTo ls l k, U8 n := by
  intro n hn
  simp only [textTo, List.mem_filterMap, Option.map_eq_some_iff] at hn
  obtain ⟨s, -, x, hx, rfl⟩ := hn
  exact h x (List.mem_of_find?_eq_some hx)
theorem byte_back (n : Int) (h : U8 n) : ((UInt8.ofNat n.toNat).toNat : Int) = n := by
  obtain ⟨h0, h1⟩ := h
  rw [UInt8.toNat_ofNat', Nat.mod_eq_of_lt (by omega)]; omega
/-- bytes that are owned, as a string -/
theorem convert_own {w : World} {B : Nat} {v : Value} {l : List Int} (hl : l ≠ []) (hU : ∀ n ∈ l, U8 n) (h : w.ownsRow B 5 1 v l.length (bytesOf l)) :
    (convert 51 9 v).run Try.prog w = .ok (.string (strOf l)) w := by
  rcases h.2 with ⟨rfl, hn⟩ | ⟨g, cap, cur, rfl, hb, hg, hnc, hcm, hcs, htake⟩
  · exact absurd (List.eq_nil_of_length_eq_zero hn) hl
  · have := run_convert_bytes_back (P := Try.prog) w 51 9 5 ⟨g, 0, none⟩ cap (l.map fun n => UInt8.ofNat n.toNat) Try.underlying51 Try.underlying5 Try.underlying9 (fun j hj => by
      have hj' : j < l.length := by simpa using hj
      rw [h.cells (g := g) rfl j (.int .u8 l[j]) (by simp [bytesOf, hj'])]
      rw [List.getElem_map, byte_back _ (hU _ (List.getElem_mem hj'))])
    rw [List.length_map] at this
    exact this
theorem ret_strInt {a b : ByteArray} {c d : Int} (h : a = b) (h2 : c = d) : Ending.returned (.tuple #[.string a, .int .i64 c]) = .returned (.tuple #[.string b, .int .i64 d]) := by rw [h, h2]
theorem snoc_bytes {w : World} {B : Nat} {e : TypeId} {v : Value} {l l' : List Int} {x : Int} (hb : l' = l ++ [x]) (h : w.ownsRow B e 1 v (l.length + 1) (bytesOf l ++ [.int .u8 x])) :
    w.ownsRow B e 1 v l'.length (bytesOf l') := by
  subst hb
  simpa [bytesOf] using h

set_option maxRecDepth 100000 in
set_option maxHeartbeats 1000000 in
theorem shortest_any (bv hv : Value) (b : Book) (n : Nat) (hn : n < b.alphabets.length) (heard : List Int) (hS : ∀ s ∈ heard, 0 ≤ s ∧ s ≤ 3) (h5 : heard.length ≤ 5) (hf : ∀ x ∈ (b.alphabets[n]).letters, FineL x) (w : World) (hb : BookAt w bv b) (hh : IntsAt w hv heard) :
    Calls Try.prog 76 #[bv, .int .i64 n, hv] w
      fun e w' => e = .returned (.tuple #[.string (strOf (shortS (b.alphabets[n]).letters (wantedM heard))), .int .i64 (shortE (b.alphabets[n]).letters (wantedM heard))]) ∧ Ext w w' := by
  obtain ⟨ba, bc, bs, bd, rfl, -, hbl, hbc, hsl, hsc, -, hA, hP⟩ := hb.open
  obtain ⟨_, _, he, -, -, hq⟩ := hA
  obtain ⟨ab, ao, rfl, -, -, lv, a1, hlv⟩ := hq n hn
  cases he
  clear hq
  generalize (b.alphabets[n]).letters = ls at *
  obtain ⟨la, lc, rfl, hllc, hlcm⟩ := hlv.shape
  obtain ⟨ha, hc, rfl, hhc, hhm⟩ := hh.shape
  have z1 := cell_lt a1
  have HU : Hid (∀ x ∈ ls, U8 x.c) := Lib.hid fun x hx => (hlv.fine x hx).1
  have Hf := Lib.hid hf
  have HS := Lib.hid hS
  clear hf hS
  obtain ⟨i0, hi, hz0, hz1, hz2⟩ := info_parts infoByte
  by_cases hnil : heard.length = 0
  · have h0 : heard = [] := List.eq_nil_of_length_eq_zero hnil
    subst h0
    obtain ⟨wl, hwl⟩ : ∃ wl : List Int, wl = [-1] := ⟨_, rfl⟩
    have Hlen : Hid (wl.length = 1) := Lib.hid (by rw [hwl]; rfl)
    have Hwm : Hid (wantedM [] = wl) := Lib.hid (by rw [hwl]; rfl)
    have Hrange : Hid (∀ x ∈ wl, -1 ≤ x ∧ x ≤ 3) := Lib.hid (fun x hx => by rw [hwl] at hx; simp at hx; omega)
    have Hwant : Hid (IntsAt ((w.alloc (.cells #[.int .i64 b.sounds, .slice (some ⟨ab, ao, none⟩) b.alphabets.length bc, .slice bs b.spellings.length bd] 75)).alloc (.cells #[.int .i64 (-1)] 3)) (.slice (some ⟨w.heap.size + 1, 0, none⟩) 1 1) wl) := Lib.hid (by rw [hwl]; exact IntsAt.oneAt (by simp) (by omega))
    clear hwl
    go_enter Try.func76, Try.ntmps76
    go_wp2
    go_step3
    go_wp2
    go_step3
    go_wp2
    have hx0 : Ext w ((w.alloc (.cells #[.int .i64 b.sounds, .slice (some ⟨ab, ao, none⟩) b.alphabets.length bc, .slice bs b.spellings.length bd] 75)).alloc (.cells #[.int .i64 (-1)] 3)) := (by first | (with_reducible exact Ext.refl _) | (with_reducible assumption) | (show Below _ _ _; go_grown; done))
    have hbx : ((w.alloc (.cells #[.int .i64 b.sounds, .slice (some ⟨ab, ao, none⟩) b.alphabets.length bc, .slice bs b.spellings.length bd] 75)).alloc (.cells #[.int .i64 (-1)] 3)).cell? ⟨w.heap.size, 1, none⟩ = some (.slice (some ⟨ab, ao, none⟩) b.alphabets.length bc) := by simp [go_sem]
    go_loopw [9, 21] (fun t i wr => ∃ k : Nat, k ≤ 1 ∧ i = .int .i64 k ∧ Ext ((w.alloc (.cells #[.int .i64 b.sounds, .slice (some ⟨ab, ao, none⟩) b.alphabets.length bc, .slice bs b.spellings.length bd] 75)).alloc (.cells #[.int .i64 (-1)] 3)) wr ∧
      wr.ownsRow (w.heap.size + 2) 5 1 t (textTo ls (wl) k).length (bytesOf (textTo ls (wl) k)) ∧ ∀ j (_ : j < k) (hj : j < wl.length), (giver ls (wl)[j]).isSome = true) (fun _ i _ => 1 - (intOf i).toNat)
    case atStart => exact ⟨0, Nat.zero_le _, rfl, Ext.refl _, World.ownsRow_nil _ _ _ _, fun j hj => absurd hj (Nat.not_lt_zero _)⟩
    case round =>
      obtain ⟨k, hk, rfl, hx, hown, hall⟩ := hrel
      have Hall := Lib.hid hall
      clear hall
      have hx1 := hx0.trans hx
      have hbx1 := hx.cell hbx
      have a11 := hx1.cell a1
      have z2 := cell_lt hbx1
      by_cases hkt : k < 1
      · have hkl : k < wl.length := by rw [Hlen.out]; exact hkt
        obtain rfl : k = 0 := by omega
        obtain ⟨_, _, he, -, -, hq⟩ := Hwant.out.ext hx
        obtain ⟨wb, wo, ew, w1, ws⟩ := hq 0 hkl
        rw [ew] at he
        simp only [Value.slice.injEq, Option.some.injEq, Addr.mk.injEq, and_true] at he
        obtain ⟨⟨rfl, rfl⟩, -, -⟩ := he
        clear hq
        have hsr : -1 ≤ (wl)[0] ∧ (wl)[0] ≤ 3 := Hrange.out _ (List.getElem_mem hkl)
        generalize hs : (wl)[0] = s at *
        have Hs := Lib.hid hs
        clear hs
        simp only [Nat.zero_mul, Nat.add_zero] at w1
        go_wp2
        go_step3
        go_wp2
        go_step3
        go_wp2
        obtain ⟨wo, hwo⟩ : ∃ wo : World, wo = wr := ⟨_, rfl⟩
        subst hwo
        obtain ⟨tv, htv⟩ : ∃ tv : Value, tv = u9 := ⟨_, rfl⟩
        rw [← htv] at hown
        go_loopw [9, 33] (fun t j wq => ∃ m : Nat, m ≤ ls.length ∧ t = tv ∧ j = .int .i64 m ∧ Ext wo wq ∧ ∀ j (_ : j < m) (hj : j < ls.length), givesM ls[j] s = false) (fun _ j _ => ls.length - (intOf j).toNat)
        case atStart => exact ⟨0, Nat.zero_le _, htv.symm, rfl, Ext.refl _, fun j hj => absurd hj (Nat.not_lt_zero _)⟩
        case round =>
          clear htv
          obtain ⟨m, hm, rfl, rfl, hxq, hno⟩ := hrel
          have Hno := Lib.hid hno
          clear hno
          by_cases hmt : m < ls.length
          · obtain ⟨_, _, he, -, -, hq⟩ := (hlv.ext hx1).ext hxq
            obtain ⟨lb, lo, rfl, c0, c1, c2, hu, hI⟩ := hq m hmt
            cases he
            clear hq
            have hfy := Hf.out _ (List.getElem_mem hmt)
            generalize hy : ls[m] = y at *
            have Hy := Lib.hid hy
            have HI := Lib.hid hI
            clear hy hI
            go_wp2_with fail
            refine (gives_any _ y s ⟨rfl, hu, HI.out⟩ hfy hsr _).mono ?_
            rintro e w2 ⟨rfl, hg⟩
            have hxg : Ext wo w2 := hxq.trans hg.of_alloc
            have hwq := cell_lt c0
            have p0 : w2.cell? ⟨wr.heap.size, 0, none⟩ = some (.int .u8 y.c) := hg.cell (by simp [go_sem])
            cases hgv : givesM y s
            · have Hgv := Lib.hid hgv
              clear hgv
              go_wp2_with fail
              go_roundw
              case rel => exact ⟨m + 1, by omega, rfl, by go_num, hxg, fun j hj hl => by
                rcases Nat.lt_or_ge j m with hjm | hjm
                · exact Hno.out j hjm hl
                · obtain rfl : j = m := by omega
                  rw [Hy.out]; exact Hgv.out⟩
              case measure => simp [intOf]; omega
            · have Hgv := Lib.hid hgv
              clear hgv
              have hown2 := Ext.owns hown hxg
              have hml : (textTo ls wl 0).length ≤ 5 := by have := textTo_len ls wl 0; omega
              have hsz2 := hxg.size
              go_wp2_with ((at_builtin; refine wpList_append_own _ rfl _ _ 51 rfl (w.heap.size + 2) 5 i0 (.int .u8 0) 1 1 Try.underlying51 hi hz0 hz1 hz2 rfl (by decide) _ _ _ rfl (hown2.alloc _) ⟨w2.heap.size, 0, none⟩ 1 1 [.int .u8 y.c] rfl rfl (cell_one_new _ _ _) (by simp [Value.oneCell']) (by unfold maxLen; omega) (by omega) (by simp; omega) ?_; intro v' w3 hown' hgrow _))
              have hx3 : Ext ((w.alloc (.cells #[.int .i64 b.sounds, .slice (some ⟨ab, ao, none⟩) b.alphabets.length bc, .slice bs b.spellings.length bd] 75)).alloc (.cells #[.int .i64 (-1)] 3)) w3 :=
                Ext.grown ((hx.trans hxg).alloc _) hgrow fun k hk => by have := (hown2.lt k hk).1; simpa using this
              have hgs := giver_at ls s m hmt Hno.out (by rw [Hy.out]; exact Hgv.out)
              rw [Hy.out] at hgs
              have Hgs := Lib.hid hgs
              clear hgs
              simp only [Exit.noGoto, Exit.inBlock, if_true]
              go_wp2
              go_roundw
              case rel => exact ⟨1, by omega, rfl, hx3, snoc_bytes (textTo_succ ls wl 0 hkl y (by rw [Hs.out]; exact Hgs.out)) hown', fun j hj hl => by
                rcases Nat.lt_or_ge j 0 with hjk | hjk
                · exact Hall.out j hjk hl
                · obtain rfl : j = 0 := by omega
                  rw [Hs.out, Hgs.out]; rfl⟩
              case measure => simp [intOf]
          · have hgs := giver_none ls s fun j hj => Hno.out j (by omega) hj
            have hsh := shortE_no ls wl 0 hkl (by rw [Hs.out]; exact hgs)
            have Hsh := Lib.hid hsh
            clear hgs hsh
            go_wp2
            simp +zetaDelta only [Exit.noGoto, Exit.inBlock, Exit.then]
            go_ret2
            exact ⟨ret_strInt (by rw [Hwm.out, Hsh.out.2]; rfl) (by rw [Hwm.out, Hsh.out.1]), hx1.trans hxq⟩
      · have hke : k = 1 := by omega
        have hfull := textTo_full ls wl k (by rw [Hlen.out]; exact hk) Hall.out
        have hcv := convert_own (l := textTo ls wl k) (fun e => absurd hfull (by rw [e, hke]; decide)) (textTo_U8 ls wl k HU.out) hown
        have hsh := shortE_yes ls wl fun j hj => Hall.out j (by rw [Hlen.out] at hj; omega) hj
        rw [Hlen.out] at hsh
        have Hsh := Lib.hid hsh
        clear hsh hfull
        go_wp2
        go_ret2
        exact ⟨ret_strInt (by rw [Hwm.out, Hsh.out.2]) (by rw [Hwm.out, Hsh.out.1]), hx1⟩
  · have hne : ((heard.length : Int) == 0) = false := by simpa using hnil
    have Hwm : Hid (wantedM heard = heard) := Lib.hid (by rw [wantedM, if_neg (fun e => hnil (by rw [e]; rfl))])
    have Hrange : Hid (∀ x ∈ heard, -1 ≤ x ∧ x ≤ 3) := Lib.hid (fun x hx => by have := HS.out x hx; omega)
    have hwant := hh.ext (ext_alloc w (.cells #[.int .i64 b.sounds, .slice (some ⟨ab, ao, none⟩) b.alphabets.length bc, .slice bs b.spellings.length bd] 75))
    go_enter Try.func76, Try.ntmps76
    go_wp2
    go_step3
    go_wp2
    go_step3
    go_wp2
    have hx0 : Ext w (w.alloc (.cells #[.int .i64 b.sounds, .slice (some ⟨ab, ao, none⟩) b.alphabets.length bc, .slice bs b.spellings.length bd] 75)) := (by first | (with_reducible exact Ext.refl _) | (with_reducible assumption) | (show Below _ _ _; go_grown; done))
    have hbx : (w.alloc (.cells #[.int .i64 b.sounds, .slice (some ⟨ab, ao, none⟩) b.alphabets.length bc, .slice bs b.spellings.length bd] 75)).cell? ⟨w.heap.size, 1, none⟩ = some (.slice (some ⟨ab, ao, none⟩) b.alphabets.length bc) := by simp [go_sem]
    go_loopw [9, 21] (fun t i wr => ∃ k : Nat, k ≤ (heard).length ∧ i = .int .i64 k ∧ Ext (w.alloc (.cells #[.int .i64 b.sounds, .slice (some ⟨ab, ao, none⟩) b.alphabets.length bc, .slice bs b.spellings.length bd] 75)) wr ∧
      wr.ownsRow (w.heap.size + 1) 5 1 t (textTo ls (heard) k).length (bytesOf (textTo ls (heard) k)) ∧ ∀ j (_ : j < k) (hj : j < (heard).length), (giver ls (heard)[j]).isSome = true) (fun _ i _ => (heard).length - (intOf i).toNat)
    case atStart => exact ⟨0, Nat.zero_le _, rfl, Ext.refl _, World.ownsRow_nil _ _ _ _, fun j hj => absurd hj (Nat.not_lt_zero _)⟩
    case round =>
      obtain ⟨k, hk, rfl, hx, hown, hall⟩ := hrel
      have Hall := Lib.hid hall
      clear hall
      have hx1 := hx0.trans hx
      have hbx1 := hx.cell hbx
      have a11 := hx1.cell a1
      have z2 := cell_lt hbx1
      by_cases hkt : k < (heard).length
      · obtain ⟨_, _, he, -, -, hq⟩ := hwant.ext hx
        obtain ⟨wb, wo, rfl, w1, ws⟩ := hq k hkt
        cases he
        clear hq
        have hsr : -1 ≤ (heard)[k] ∧ (heard)[k] ≤ 3 := Hrange.out _ (List.getElem_mem hkt)
        generalize hs : (heard)[k] = s at *
        have Hs := Lib.hid hs
        clear hs
        simp only [Nat.mul_one] at w1
        go_wp2
        go_step3
        go_wp2
        go_step3
        go_wp2
        obtain ⟨wo, hwo⟩ : ∃ wo : World, wo = wr := ⟨_, rfl⟩
        subst hwo
        obtain ⟨tv, htv⟩ : ∃ tv : Value, tv = u9 := ⟨_, rfl⟩
        rw [← htv] at hown
        go_loopw [9, 33] (fun t j wq => ∃ m : Nat, m ≤ ls.length ∧ t = tv ∧ j = .int .i64 m ∧ Ext wo wq ∧ ∀ j (_ : j < m) (hj : j < ls.length), givesM ls[j] s = false) (fun _ j _ => ls.length - (intOf j).toNat)
        case atStart => exact ⟨0, Nat.zero_le _, htv.symm, rfl, Ext.refl _, fun j hj => absurd hj (Nat.not_lt_zero _)⟩
        case round =>
          clear htv
          obtain ⟨m, hm, rfl, rfl, hxq, hno⟩ := hrel
          have Hno := Lib.hid hno
          clear hno
          by_cases hmt : m < ls.length
          · obtain ⟨_, _, he, -, -, hq⟩ := (hlv.ext hx1).ext hxq
            obtain ⟨lb, lo, rfl, c0, c1, c2, hu, hI⟩ := hq m hmt
            cases he
            clear hq
            have hfy := Hf.out _ (List.getElem_mem hmt)
            generalize hy : ls[m] = y at *
            have Hy := Lib.hid hy
            have HI := Lib.hid hI
            clear hy hI
            go_wp2_with fail
            refine (gives_any _ y s ⟨rfl, hu, HI.out⟩ hfy hsr _).mono ?_
            rintro e w2 ⟨rfl, hg⟩
            have hxg : Ext wo w2 := hxq.trans hg.of_alloc
            have hwq := cell_lt c0
            have p0 : w2.cell? ⟨wr.heap.size, 0, none⟩ = some (.int .u8 y.c) := hg.cell (by simp [go_sem])
            cases hgv : givesM y s
            · have Hgv := Lib.hid hgv
              clear hgv
              go_wp2_with fail
              go_roundw
              case rel => exact ⟨m + 1, by omega, rfl, by go_num, hxg, fun j hj hl => by
                rcases Nat.lt_or_ge j m with hjm | hjm
                · exact Hno.out j hjm hl
                · obtain rfl : j = m := by omega
                  rw [Hy.out]; exact Hgv.out⟩
              case measure => simp [intOf]; omega
            · have Hgv := Lib.hid hgv
              clear hgv
              have hown2 := Ext.owns hown hxg
              have hml : (textTo ls heard k).length ≤ 5 := by have := textTo_len ls heard k; omega
              have hsz2 := hxg.size
              go_wp2_with ((at_builtin; refine wpList_append_own _ rfl _ _ 51 rfl (w.heap.size + 1) 5 i0 (.int .u8 0) 1 1 Try.underlying51 hi hz0 hz1 hz2 rfl (by decide) _ _ _ rfl (hown2.alloc _) ⟨w2.heap.size, 0, none⟩ 1 1 [.int .u8 y.c] rfl rfl (cell_one_new _ _ _) (by simp [Value.oneCell']) (by unfold maxLen; omega) (by omega) (by simp; omega) ?_; intro v' w3 hown' hgrow _))
              have hx3 : Ext (w.alloc (.cells #[.int .i64 b.sounds, .slice (some ⟨ab, ao, none⟩) b.alphabets.length bc, .slice bs b.spellings.length bd] 75)) w3 :=
                Ext.grown ((hx.trans hxg).alloc _) hgrow fun k hk => by have := (hown2.lt k hk).1; simpa using this
              have hgs := giver_at ls s m hmt Hno.out (by rw [Hy.out]; exact Hgv.out)
              rw [Hy.out] at hgs
              have Hgs := Lib.hid hgs
              clear hgs
              simp only [Exit.noGoto, Exit.inBlock, if_true]
              go_wp2
              go_roundw
              case rel => exact ⟨k + 1, by omega, by go_num, hx3, snoc_bytes (textTo_succ ls heard k hkt y (by rw [Hs.out]; exact Hgs.out)) hown', fun j hj hl => by
                rcases Nat.lt_or_ge j k with hjk | hjk
                · exact Hall.out j hjk hl
                · obtain rfl : j = k := by omega
                  rw [Hs.out, Hgs.out]; rfl⟩
              case measure => simp [intOf]; omega
          · have hgs := giver_none ls s fun j hj => Hno.out j (by omega) hj
            have hsh := shortE_no ls heard k hkt (by rw [Hs.out]; exact hgs)
            have Hsh := Lib.hid hsh
            clear hgs hsh
            go_wp2
            simp +zetaDelta only [Exit.noGoto, Exit.inBlock, Exit.then]
            go_ret2
            exact ⟨ret_strInt (by rw [Hwm.out, Hsh.out.2]; rfl) (by rw [Hwm.out, Hsh.out.1]), hx1.trans hxq⟩
      · have hke : k = heard.length := by omega
        have hfull := textTo_full ls heard k hk Hall.out
        have hcv := convert_own (l := textTo ls heard k) (fun e => hnil (by rw [e] at hfull; simp only [List.length_nil] at hfull; omega)) (textTo_U8 ls heard k HU.out) hown
        have hsh := shortE_yes ls heard fun j hj => Hall.out j (by omega) hj
        rw [← hke] at hsh
        have Hsh := Lib.hid hsh
        clear hsh hfull hke
        go_wp2
        go_ret2
        exact ⟨ret_strInt (by rw [Hwm.out, Hsh.out.2]) (by rw [Hwm.out, Hsh.out.1]), hx1⟩
end Go.Proofs.Ytbodmgilcohfjaa
