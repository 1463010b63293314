/- IsName and its model return the same at every text. -/
import Derived.Test.YtncapcflhchpmacRows
import Derived.WalkKit
import Derived.WalkLawsBesides
import Derived.Laws.RangeString
import Derived.Laws.RangeAny
import Derived.Test.YtncapcflhchpmacPost
namespace Go.Proofs.Ytncapcflhchpmac.fnExactIsNameW
open Go.RowKit

def letter (c : UInt8) : Bool := decide (97 ≤ c.toNat) && decide (c.toNat ≤ 122)
/-- is a name -/
def nmB (s : ByteArray) : Bool := decide (1 ≤ s.size) && decide (s.size ≤ 8) && s.data.toList.all letter

theorem ret_bool {a b : Bool} (h : a = b) : Ending.returned (.bool a) = .returned (.bool b) := by rw [h]
theorem take_snoc (s : ByteArray) (k : Nat) (h : k < s.size) : s.data.toList.take (k + 1) = s.data.toList.take k ++ [s[k]] := by
  rw [List.take_succ_eq_append_getElem (by simpa using h)]; rfl
theorem take_all (s : ByteArray) (k : Nat) (h : s.size ≤ k) : s.data.toList.take k = s.data.toList := List.take_of_length_le (by simpa using h)
theorem all_step (s : ByteArray) (k : Nat) (h : k < s.size) (ha : (s.data.toList.take k).all letter = true) (hl : letter s[k] = true) : (s.data.toList.take (k + 1)).all letter = true := by
  rw [take_snoc s k h, List.all_append, ha]
  simp [hl]
theorem not_all (s : ByteArray) (k : Nat) (h : k < s.size) (hl : letter s[k] = false) : s.data.toList.all letter = false := by
  rw [List.all_eq_false]
  exact ⟨s[k], by
    have : s[k] = s.data.toList[k]'(by simpa using h) := rfl
    rw [this]; exact List.getElem_mem _, by simp [hl]⟩
theorem nm_not (s : ByteArray) (k : Nat) (h : k < s.size) (hl : letter s[k] = false) : nmB s = false := by
  unfold nmB; rw [not_all s k h hl]; simp
theorem nm_short (s : ByteArray) (h : s.size = 0) : nmB s = false := by unfold nmB; simp [h]
theorem nm_long (s : ByteArray) (h : 8 < s.size) : nmB s = false := by unfold nmB; simp; omega
theorem nm_yes (s : ByteArray) (k : Nat) (h1 : 1 ≤ s.size) (h8 : s.size ≤ 8) (hk : s.size ≤ k) (ha : (s.data.toList.take k).all letter = true) : nmB s = true := by
  rw [take_all s k hk] at ha
  unfold nmB; rw [ha]; simp [h1, h8]

theorem letter_yes {c : UInt8} (h : letter c = true) : 97 ≤ c.toNat ∧ c.toNat ≤ 122 := by
  unfold letter at h; simpa using h
theorem letter_no {c : UInt8} (h : letter c = false) : c.toNat < 97 ∨ 122 < c.toNat := by
  unfold letter at h
  simp at h
  omega

/-- the rune at a byte that is no letter is no letter -/
theorem rune_no (s : ByteArray) (pos : Nat) (h : pos < s.size) (hl : letter s[pos] = false) : (Utf8.decode s pos).1 < 97 ∨ 122 < (Utf8.decode s pos).1 := by
  by_cases ha : s[pos].toNat < 128
  · rw [decode_ascii s pos h ha]
    exact letter_no hl
  · right
    have e : s.get! (pos + 0) = s[pos]'h := by
      show s.get! pos = _
      simp [ByteArray.get!, getElem!_pos, h]
      rfl
    simp only [Utf8.decode, e, ha, if_false]
    repeat' split
    all_goals simp_all [Utf8.runeError]
    all_goals omega

theorem impl_any (s : ByteArray) (hs : s.size ≤ 1048576) (w : World) :
    Calls Try.prog 16 #[.string s] w fun e w' => e = .returned (.bool (nmB s)) ∧ Below w.heap.size w w' := by
  by_cases h0 : s.size = 0
  · rw [nm_short s h0]
    have h0' : s.size < 1 := by omega
    clear h0
    go_enter Try.func16, Try.ntmps16
    go_wp2
    go_ret
    exact ⟨rfl, Below.refl _ _⟩
  by_cases h8 : 8 < s.size
  · rw [nm_long s h8]
    have h0' : 1 ≤ s.size := by omega
    clear h0
    go_enter Try.func16, Try.ntmps16
    go_wp2
    go_ret
    exact ⟨rfl, Below.refl _ _⟩
  have h1 : 1 ≤ s.size := by omega
  have h9 : s.size ≤ 8 := by omega
  clear h0 h8
  go_enter Try.func16, Try.ntmps16
  go_wp2
  go_loopw [] (fun w' => ∃ pos : Nat, w' = w.iter s pos ∧ pos ≤ s.size ∧ Hid ((s.data.toList.take pos).all letter = true)) (fun w' => s.size - w'.iterPos w.heap.size)
  case atStart => exact ⟨0, rfl, Nat.zero_le _, by show _ = true; simp⟩
  case round =>
    obtain ⟨pos, rfl, hpos, ha⟩ := hrel
    by_cases hp : pos < s.size
    · cases hl : letter s[pos] with
      | true =>
        obtain ⟨hl1, hl2⟩ := letter_yes hl
        have hnx : ∀ ty, (Instr.next (.pointer (some ⟨w.heap.size, 0, none⟩)) true ty).run Try.prog (w.iter s pos) = _ := fun ty => run_next_ascii w s pos ty hp (by omega)
        have HA : Hid ((s.data.toList.take (pos + 1)).all letter = true) := all_step s pos hp ha.out hl
        clear hl ha
        generalize s[pos].toNat = c at *
        go_wp2
        go_roundw
        case rel => exact ⟨pos + 1, rfl, by omega, HA⟩
        case measure => simp; omega
      | false =>
        have hr := rune_no s pos hp hl
        have hle := decode_le s pos
        have hnx : ∀ ty, (Instr.next (.pointer (some ⟨w.heap.size, 0, none⟩)) true ty).run Try.prog (w.iter s pos) = _ := fun ty => run_next_any w s pos ty hp
        have HN : Hid (nmB s = false) := nm_not s pos hp hl
        clear hl ha
        generalize (Utf8.decode s pos).1 = c at *
        rcases hr with hr | hr
        · go_wp2
          go_ret
          exact ⟨ret_bool HN.out.symm, (Below.refl _ _).alloc (Nat.le_refl _) _⟩
        · have hr' : ¬ (c : Int) < 97 := by omega
          go_wp2
          go_ret
          exact ⟨ret_bool HN.out.symm, (Below.refl _ _).alloc (Nat.le_refl _) _⟩
    · have hnx : ∀ ty, (Instr.next (.pointer (some ⟨w.heap.size, 0, none⟩)) true ty).run Try.prog (w.iter s pos) = _ := fun ty => run_next_end w s pos ty hp
      have HN : Hid (nmB s = true) := nm_yes s pos h1 h9 (by omega) ha.out
      clear ha
      go_wp2
      go_ret
      exact ⟨ret_bool HN.out.symm, (Below.refl _ _).alloc (Nat.le_refl _) _⟩

theorem spec_any (s : ByteArray) (hs : s.size ≤ 1048576) (w : World) :
    Calls Try.prog 15 #[.string s] w fun e w' => e = .returned (.bool (nmB s)) ∧ w = w' := by
  go_enter Try.func15, Try.ntmps15
  go_wp2
  go_loop [3] (fun i => ∃ k : Nat, k ≤ s.size ∧ i = .int .i64 k ∧ Hid ((s.data.toList.take k).all letter = true)) (fun i => s.size - (intOf i).toNat)
  case atStart => exact ⟨0, Nat.zero_le _, rfl, by show _ = true; simp⟩
  case round =>
    obtain ⟨k, hk, rfl, ha⟩ := hrel
    by_cases hp : k < s.size
    · cases hl : letter s[k] with
      | true =>
        obtain ⟨hl1, hl2⟩ := letter_yes hl
        have HA : Hid ((s.data.toList.take (k + 1)).all letter = true) := all_step s k hp ha.out hl
        clear hl ha
        go_wp2
        go_round
        case rel => exact ⟨k + 1, by omega, by go_num, HA⟩
        case measure => simp [intOf]; omega
      | false =>
        have hr := letter_no hl
        have HN : Hid (nmB s = false) := nm_not s k hp hl
        clear hl ha
        rcases hr with hr | hr
        · go_wp2
          go_ret
          exact ⟨ret_bool HN.out.symm, rfl⟩
        · have hr' : ¬ (s[k].toNat : Int) < 97 := by omega
          go_wp2
          go_ret
          exact ⟨ret_bool HN.out.symm, rfl⟩
    · by_cases h0 : s.size = 0
      · have HN : Hid (nmB s = false) := nm_short s h0
        have h0' : s.size < 1 := by omega
        have d1 : decide ((1 : Int) ≤ (s.size : Int)) = false := by rw [decide_eq_false_iff_not]; omega
        clear ha h0
        go_wp2
        go_ret
        exact ⟨ret_bool (by first | exact HN.out.symm | (rw [HN.out]; simp; omega)), rfl⟩
      · have h1 : 1 ≤ s.size := by omega
        clear h0
        by_cases h8 : 8 < s.size
        · have HN : Hid (nmB s = false) := nm_long s h8
          have d1 : decide ((s.size : Int) ≤ 8) = false := by rw [decide_eq_false_iff_not]; omega
          clear ha
          go_wp2
          go_ret
          exact ⟨ret_bool (by first | exact HN.out.symm | (rw [HN.out]; simp; omega)), rfl⟩
        · have h9 : s.size ≤ 8 := by omega
          have HN : Hid (nmB s = true) := nm_yes s k h1 h9 (by omega) ha.out
          clear ha h8
          go_wp2
          go_ret
          exact ⟨ret_bool (by first | exact HN.out.symm | (rw [HN.out]; simp; omega)), rfl⟩

theorem walk (s : ByteArray) (hm : s.size ≤ maxLen) (w : World) :
    Calls Try.prog 5 #[.string s] w fun e w' => e = .returned (.bool true) ∧ Below w.heap.size w w' := by
  unfold maxLen at hm
  by_cases hs : s.size ≤ 1048576
  · go_enter Try.func5, Try.ntmps5
    go_wp2_with (first | (go_at_call 15; refine (spec_any s hs _).mono ?_; rintro e w' ⟨rfl, rfl⟩) | (go_at_call 16; refine (impl_any s hs _).mono ?_; rintro e w' ⟨rfl, hb⟩))
    go_ret
    exact ⟨rfl, by assumption⟩
  · have hgt : 1048576 < s.size := by omega
    clear hs
    go_enter Try.func5, Try.ntmps5
    go_wp2_with fail
    go_ret
    exact ⟨rfl, Below.refl _ _⟩
end Go.Proofs.Ytncapcflhchpmac.fnExactIsNameW
