/-
  WHAT ear.Name RETURNS, for any string: whether it has 1 to 16 bytes, the first one from a to z, each other one such a letter, a digit or a full stop.
-/
import Derived.Test.YtbodmgilcohfjaaFind
namespace Go.Proofs.Ytbodmgilcohfjaa
open Go.RowKit

def okByte (k : Nat) (c : Int) : Bool := inM c 97 122 || (decide (k ≠ 0) && (inM c 48 57 || c == 46))
def byteAt (s : ByteArray) (k : Nat) : Int := ((s.data.toList.getD k 0).toNat : Int)
def nameM (s : ByteArray) : Bool := inM s.size 1 16 && (List.range s.size).all fun k => okByte k (byteAt s k)

theorem nameM_no (s : ByteArray) (k : Nat) (hk : k < s.size) (h : okByte k (byteAt s k) = false) : nameM s = false := by
  unfold nameM
  rw [Bool.and_eq_false_iff]
  right
  rw [List.all_eq_false]
  exact ⟨k, List.mem_range.2 hk, by simp [h]⟩
theorem nameM_yes (s : ByteArray) (h : inM s.size 1 16 = true) (h2 : ∀ j, j < s.size → okByte j (byteAt s j) = true) : nameM s = true := by
  unfold nameM
  rw [h, Bool.true_and, List.all_eq_true]
  exact fun k hk => h2 k (List.mem_range.1 hk)
theorem byteAt_eq (s : ByteArray) (k : Nat) (hk : k < s.size) : byteAt s k = ((s[k]'hk).toNat : Int) := by
  unfold byteAt
  rw [List.getD_eq_getElem?_getD, List.getElem?_eq_getElem (by simpa using hk)]
  rfl

theorem name_step {s : ByteArray} {k : Nat} {c : Int} (h : ∀ j, j < k → okByte j (byteAt s j) = true) (hc : byteAt s k = c) (hb : okByte k c = true) : ∀ j, j < k + 1 → okByte j (byteAt s j) = true := fun j hj => by
  rcases Nat.lt_or_ge j k with hjk | hjk
  · exact h j hjk
  · obtain rfl : j = k := by omega
    rw [hc]; exact hb
theorem Ext.iter {a w : World} (h : Ext a w) (s : ByteArray) (p : Nat) : Ext a (w.iter s p) := h.alloc _

theorem iterPos_alloc (w : World) (o : Obj) (s : ByteArray) (p : Nat) : ((w.alloc o).iter s p).iterPos (w.heap.size + 1) = p := by
  have h := World.iterPos_iter (w.alloc o) s p
  rwa [World.size_alloc] at h
theorem name_any (s : ByteArray) (w : World) (hs : s.size ≤ 9223372036854775807) :
    Calls Try.prog 19 #[.string s] w fun e w' => e = .returned (.bool (nameM s)) ∧ Ext w w' := by
  cases hin : inM s.size 1 16
  · have Hin := Lib.hid hin; clear hin
    have Hn : Hid (nameM s = false) := Lib.hid (by simp [nameM, Hin.out])
    go_enter Try.func19, Try.ntmps19
    go_wp2_with fail
    refine (within_any _ _ _ [(s.size : Int)] _ (IntsAt.one (by omega))).mono ?_
    rintro e w' ⟨rfl, rfl⟩
    rw [withinM_one, Hin.out]
    go_wp2
    go_ret
    exact ⟨ret_bool Hn.out.symm, (by first | (with_reducible exact Ext.refl _) | (with_reducible assumption) | (show Below _ _ _; go_grown; done))⟩
  · have Hin := Lib.hid hin; clear hin
    go_enter Try.func19, Try.ntmps19
    go_wp2_with fail
    refine (within_any _ _ _ [(s.size : Int)] _ (IntsAt.one (by omega))).mono ?_
    rintro e w' ⟨rfl, rfl⟩
    rw [withinM_one, Hin.out]
    go_wp2_with fail
    go_loopw [3] (fun _ wr => ∃ k : Nat, k ≤ s.size ∧ wr = (w.alloc (.cells #[.int .i64 s.size] 3)).iter s k ∧ ∀ j, j < k → okByte j (byteAt s j) = true) (fun _ wr => s.size - wr.iterPos (w.heap.size + 1))
    case atStart => exact ⟨0, Nat.zero_le _, rfl, fun j hj => absurd hj (Nat.not_lt_zero _)⟩
    case round =>
      obtain ⟨k, hk, rfl, hok⟩ := hrel
      have Hok := Lib.hid hok; clear hok
      by_cases hp : k < s.size
      · by_cases ha : (s[k]'hp).toNat < 128
        · have hnx := fun ty => run_next_ascii (P := Try.prog) (w.alloc (.cells #[.int .i64 s.size] 3)) s k ty hp ha
          have hbe := byteAt_eq s k hp
          obtain ⟨c, hc⟩ : ∃ c : Int, ((s[k]'hp).toNat : Int) = c := ⟨_, rfl⟩
          have hc0 : 0 ≤ c ∧ c < 128 := by omega
          rw [hc] at hnx hbe
          simp only [World.size_alloc] at hnx
          have Hbe := Lib.hid hbe
          clear hbe hc ha
          cases i1 : inM c 97 122
          · by_cases hk0 : k = 0
            · subst hk0
              have Hn : Hid (nameM s = false) := Lib.hid (nameM_no s _ hp (by rw [Hbe.out]; simp [okByte, i1]))
              go_wp2_with (first | (go_at_call 53; refine (isLetter_any _ _).mono ?_; rintro e w' ⟨rfl, rfl⟩) | (go_at_call 54; refine (isDigit_any _ _).mono ?_; rintro e w' ⟨rfl, rfl⟩))
              go_ret
              exact ⟨ret_bool Hn.out.symm, (ext_alloc _ _).iter _ _⟩
            · have hk1 : (((k : Int)) == 0) = false := by simp; omega
              cases i2 : inM c 48 57
              · by_cases i3 : (c != 46) = true
                have Hn : Hid (nameM s = false) := Lib.hid (nameM_no s k hp (by rw [Hbe.out]; simp [okByte, i1, i2]; intro _; simpa using i3))
                go_wp2_with (first | (go_at_call 53; refine (isLetter_any _ _).mono ?_; rintro e w' ⟨rfl, rfl⟩) | (go_at_call 54; refine (isDigit_any _ _).mono ?_; rintro e w' ⟨rfl, rfl⟩))
                go_ret
                exact ⟨ret_bool Hn.out.symm, (ext_alloc _ _).iter _ _⟩
                · have i4 : (c != 46) = false := by simpa using i3
                  have i5 : c = 46 := by simpa using i3
                  clear i3
                  have Hb : Hid (okByte k c = true) := Lib.hid (by rw [okByte, i1, i2, i5]; simp [hk0])
                  clear i5
                  go_wp2_with (first | (go_at_call 53; refine (isLetter_any _ _).mono ?_; rintro e w' ⟨rfl, rfl⟩) | (go_at_call 54; refine (isDigit_any _ _).mono ?_; rintro e w' ⟨rfl, rfl⟩))
                  go_roundw
                  case rel => exact ⟨k + 1, by omega, rfl, name_step Hok.out Hbe.out Hb.out⟩
                  case measure => simp only [iterPos_alloc]; omega
              ·
                have Hb : Hid (okByte k c = true) := Lib.hid (by simp [okByte, i1, i2, hk0])
                go_wp2_with (first | (go_at_call 53; refine (isLetter_any _ _).mono ?_; rintro e w' ⟨rfl, rfl⟩) | (go_at_call 54; refine (isDigit_any _ _).mono ?_; rintro e w' ⟨rfl, rfl⟩))
                go_roundw
                case rel => exact ⟨k + 1, by omega, rfl, name_step Hok.out Hbe.out Hb.out⟩
                case measure => simp only [iterPos_alloc]; omega
          ·
            have Hb : Hid (okByte k c = true) := Lib.hid (by simp [okByte, i1])
            go_wp2_with (first | (go_at_call 53; refine (isLetter_any _ _).mono ?_; rintro e w' ⟨rfl, rfl⟩) | (go_at_call 54; refine (isDigit_any _ _).mono ?_; rintro e w' ⟨rfl, rfl⟩))
            go_roundw
            case rel => exact ⟨k + 1, by omega, rfl, name_step Hok.out Hbe.out Hb.out⟩
            case measure => simp only [iterPos_alloc]; omega
        · have hnx := fun ty => run_next_any (P := Try.prog) (w.alloc (.cells #[.int .i64 s.size] 3)) s k ty hp
          obtain ⟨c, hc⟩ : ∃ c : Int, ((Utf8.decode s k).1 : Int) = c := ⟨_, rfl⟩
          have hc0 : 128 ≤ c := by have := (decode_high s k hp (by omega)).1; omega
          rw [hc] at hnx
          simp only [World.size_alloc] at hnx
          have hn := nameM_no s k hp (by
            rw [byteAt_eq s k hp]
            have hh : 128 ≤ ((s[k]'hp).toNat : Int) := by omega
            simp [okByte, inM]; omega)
          have Hn := Lib.hid hn; clear hn hc ha
          have i1 : inM c 97 122 = false := by simp [inM]; omega
          have i2 : inM c 48 57 = false := by simp [inM]; omega
          have i3 : (c != 46) = true := by simp; omega
          go_wp2_with (first | (go_at_call 53; refine (isLetter_any _ _).mono ?_; rintro e w' ⟨rfl, rfl⟩) | (go_at_call 54; refine (isDigit_any _ _).mono ?_; rintro e w' ⟨rfl, rfl⟩))
          all_goals (go_ret; exact ⟨ret_bool Hn.out.symm, (ext_alloc _ _).iter _ _⟩)
      · have hnx := fun ty => run_next_end (P := Try.prog) (w.alloc (.cells #[.int .i64 s.size] 3)) s k ty hp
        simp only [World.size_alloc] at hnx
        go_wp2
        go_ret
        exact ⟨ret_bool (nameM_yes s Hin.out fun j hj => Hok.out j (by omega)).symm, (ext_alloc _ _).iter _ _⟩
end Go.Proofs.Ytbodmgilcohfjaa
