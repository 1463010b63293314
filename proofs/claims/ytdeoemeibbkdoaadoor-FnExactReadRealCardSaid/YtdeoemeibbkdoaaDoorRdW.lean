/- The model's reading of a decimal text: the number whose text it is, if there is one that is not too great. -/
import Derived.Test.YtdeoemeibbkdoaaDoorRows
import Derived.WalkKit
import Derived.WalkLawsBesides
import Derived.Deep.Draws
import Derived.Test.YtdeoemeibbkdoaaDoorDecW
import Derived.Test.YtdeoemeibbkdoaaDoorRdP
namespace Go.Proofs.YtdeoemeibbkdoaaDoor.rd
open Go.RowKit Go.Lib Go.Rd Go.Proofs.YtdeoemeibbkdoaaDoor.dec

theorem take_snoc (s : ByteArray) (k : Nat) (h : k < s.size) : s.data.toList.take (k + 1) = s.data.toList.take k ++ [s[k]] := by
  rw [List.take_succ_eq_append_getElem (by simpa using h)]; rfl
theorem take_all (s : ByteArray) (k : Nat) (h : s.size ≤ k) : s.data.toList.take k = s.data.toList := List.take_of_length_le (by simpa using h)

def at_ (s : ByteArray) (k : Nat) : Nat := (s.data.toList.take k).foldl dstep 0
theorem at_dig (s : ByteArray) (k : Nat) (h : k < s.size) (hd : isDig s[k]) : at_ s (k + 1) = 10 * at_ s k + (s[k].toNat - 48) := by
  unfold at_
  rw [take_snoc s k h, List.foldl_append]
  show dstep _ _ = _
  unfold dstep
  rw [if_pos hd]
theorem at_no (s : ByteArray) (k : Nat) (h : k < s.size) (hd : ¬ isDig s[k]) : at_ s (k + 1) = at_ s k := by
  unfold at_
  rw [take_snoc s k h, List.foldl_append]
  show dstep _ _ = _
  unfold dstep
  rw [if_neg hd]
theorem at_lt (s : ByteArray) (k : Nat) (hk : k ≤ 17) : at_ s k < 100000000000000000 := by
  have h := fold_lt (s.data.toList.take k) 0
  have hl : (s.data.toList.take k).length ≤ 17 := by rw [List.length_take]; omega
  have hp : 10 ^ (s.data.toList.take k).length ≤ 10 ^ 17 := Nat.pow_le_pow_right (by omega) hl
  have e : (10 : Nat) ^ 17 = 100000000000000000 := by decide
  unfold at_
  omega
theorem at_all (s : ByteArray) (k : Nat) (h : s.size ≤ k) : at_ s k = fold s.data.toList := by
  unfold at_
  rw [take_all s k h]; rfl

theorem out_short (s : ByteArray) (h : s.size < 1 ∨ 17 < s.size) : Out s.data.toList 0 false := by
  refine .inr ⟨rfl, rfl, fun z h0 h1 e => ?_⟩
  have := itoa_len z h0 h1
  rw [e] at this
  have e2 : s.data.toList.length = s.size := by simp
  omega

theorem head_of (s : ByteArray) (h : 0 < s.size) : s.data.toList.head? = some s[0] := by
  have h' : 0 < s.data.toList.length := by simpa using h
  rw [List.head?_eq_getElem?, List.getElem?_eq_getElem h']
  rfl
theorem zof_neg (s : ByteArray) (h : 0 < s.size) (hn : s[0].toNat = 45) : zof s.data.toList = -(fold s.data.toList : Int) := by
  unfold zof
  have e : s[0] = 45 := UInt8.toNat_inj.1 (by rw [hn]; rfl)
  rw [head_of s h, e, if_pos rfl]
theorem zof_pos (s : ByteArray) (h : 0 < s.size) (hn : ¬ s[0].toNat = 45) : zof s.data.toList = (fold s.data.toList : Int) := by
  unfold zof
  rw [head_of s h, if_neg]
  intro e
  injection e with e
  exact hn (by rw [e]; rfl)

theorem out_far (s : ByteArray) (z : Int) (hz : zof s.data.toList = z) (h : z < -1000000000000000 ∨ 1000000000000000 < z) : Out s.data.toList 0 false := by
  refine .inr ⟨rfl, rfl, fun y h0 h1 e => ?_⟩
  rw [← e, zof_itoa] at hz
  omega
theorem out_yes (s : ByteArray) (z : Int) (h0 : -1000000000000000 ≤ z) (h1 : z ≤ 1000000000000000) (e : (⟨(itoa z).toArray⟩ : ByteArray) = s) : Out s.data.toList z true :=
  .inl ⟨rfl, h0, h1, by rw [← e]⟩
theorem out_no (s : ByteArray) (z : Int) (hz : zof s.data.toList = z) (e : ¬ (⟨(itoa z).toArray⟩ : ByteArray) = s) : Out s.data.toList 0 false := by
  refine .inr ⟨rfl, rfl, fun y h0 h1 e2 => e ?_⟩
  rw [← e2, zof_itoa] at hz
  rw [← hz, e2]

theorem tl_yes (s : ByteArray) (z : Int) (e : (⟨(itoa z).toArray⟩ : ByteArray) = s) : (itoa z == s.toList) = true := by
  rw [ByteArray.toList_eq, ← e]
  simp
theorem tl_no (s : ByteArray) (z : Int) (e : ¬ (⟨(itoa z).toArray⟩ : ByteArray) = s) : (itoa z == s.toList) = false := by
  rw [ByteArray.toList_eq]
  cases h : (itoa z == s.data.toList) with
  | false => rfl
  | true =>
    refine absurd ?_ e
    rw [eq_of_beq h]

/-- an ending that answers so -/
def Ans (s : ByteArray) (e : Ending) : Prop := ∃ v b, e = .returned (.tuple #[.int .i64 v, .bool b]) ∧ Out s.data.toList v b
theorem Ans.mk {s : ByteArray} {v : Int} {b : Bool} (h : Out s.data.toList v b) : Ans s (.returned (.tuple #[.int .i64 v, .bool b])) := ⟨v, b, rfl, h⟩

theorem in_yes (n a b : Int) (h0 : a ≤ n) (h1 : n ≤ b) (w : World) : Calls Tryd.prog 54 #[.int .i64 n, .int .i64 a, .int .i64 b] w fun e w' => e = .returned (.bool true) ∧ w' = w := by
  go_enter Tryd.func54, Tryd.ntmps54
  go_wp2
  go_ret
  exact ⟨by simp [*], rfl⟩
theorem in_no (n a b : Int) (h : n < a ∨ b < n) (w : World) : Calls Tryd.prog 54 #[.int .i64 n, .int .i64 a, .int .i64 b] w fun e w' => e = .returned (.bool false) ∧ w' = w := by
  by_cases h0 : n < a
  · go_enter Tryd.func54, Tryd.ntmps54
    go_wp2
    go_ret
    exact ⟨by simp [*] <;> omega, rfl⟩
  · have h1 : b < n := by omega
    have h2 : a ≤ n := by omega
    clear h h0
    go_enter Tryd.func54, Tryd.ntmps54
    go_wp2
    go_ret
    exact ⟨by simp [*] <;> omega, rfl⟩

set_option maxHeartbeats 1600000 in
theorem value_any (s : ByteArray) (w : World) :
    Calls Tryd.prog 78 #[.string s] w fun e w' => Ans s e ∧ Below w.heap.size w w' := by
  by_cases ha : s.size < 1
  · have HO : Hid (Out s.data.toList 0 false) := out_short s (.inl ha)
    go_enter Tryd.func78, Tryd.ntmps78
    go_wp2
    go_ret2
    exact ⟨.mk HO.out, Below.refl _ _⟩
  by_cases hb : 17 < s.size
  · have HO : Hid (Out s.data.toList 0 false) := out_short s (.inr hb)
    go_enter Tryd.func78, Tryd.ntmps78
    go_wp2
    go_ret2
    exact ⟨.mk HO.out, Below.refl _ _⟩
  have h1 : 1 ≤ s.size := by omega
  have h17 : s.size ≤ 17 := by omega
  clear ha hb
  go_enter Tryd.func78, Tryd.ntmps78
  go_wp2
  go_loop [4, 5] (fun a i => ∃ (k m : Nat), k ≤ s.size ∧ a = .int .i64 m ∧ i = .int .i64 k ∧ Hid (m = at_ s k)) (fun _ i => s.size - (intOf i).toNat)
  case atStart => exact ⟨0, 0, Nat.zero_le _, rfl, rfl, rfl⟩
  case round =>
    obtain ⟨k, m, hk, rfl, rfl, hm⟩ := hrel
    by_cases hp : k < s.size
    · have hm17 : m < 100000000000000000 := by have := at_lt s k (by omega); have := hm.out; omega
      by_cases hd : isDig s[k]
      · have HM : Hid (10 * m + (s[k].toNat - 48) = at_ s (k + 1)) := by show _ = _; rw [at_dig s k hp hd, hm.out]
        unfold isDig at hd
        obtain ⟨hd1, hd2⟩ := hd
        clear hm
        go_wp2
        go_round
        case rel => exact ⟨k + 1, 10 * m + (s[k].toNat - 48), by omega, by go_num, by go_num, HM⟩
        case measure => simp [intOf]; omega
      · have HM : Hid (m = at_ s (k + 1)) := by show _ = _; rw [at_no s k hp hd, hm.out]
        have hd' : s[k].toNat < 48 ∨ (48 ≤ s[k].toNat ∧ 57 < s[k].toNat) := by unfold isDig at hd; omega
        clear hm hd
        rcases hd' with hd1 | ⟨hd1, hd2⟩
        · go_wp2
          go_round
          case rel => exact ⟨k + 1, m, by omega, rfl, by go_num, HM⟩
          case measure => simp [intOf]; omega
        · go_wp2
          go_round
          case rel => exact ⟨k + 1, m, by omega, rfl, by go_num, HM⟩
          case measure => simp [intOf]; omega
    · have hm2 : Hid ((m : Int) = (fold s.data.toList : Int)) := by show _ = _; rw [hm.out, at_all s k (by omega)]
      have hp0 : 0 < s.size := by omega
      have hmb : m < 100000000000000000 := by have := at_lt s k (by omega); have := hm.out; omega
      clear hm
      have key : ∀ z : Int, Hid (zof s.data.toList = z) → -100000000000000000 < z → z < 100000000000000000 → (z < -1000000000000000 ∨ 1000000000000000 < z) ∧ Hid (Out s.data.toList 0 false) ∨ (-1000000000000000 ≤ z ∧ z ≤ 1000000000000000 ∧ (itoa z == s.toList) = true ∧ Hid (Out s.data.toList z true)) ∨ (-1000000000000000 ≤ z ∧ z ≤ 1000000000000000 ∧ (itoa z == s.toList) = false ∧ Hid (Out s.data.toList 0 false)) := by
        intro z hz _ _
        by_cases hfar : z < -1000000000000000 ∨ 1000000000000000 < z
        · exact .inl ⟨hfar, out_far s z hz.out hfar⟩
        · by_cases he : (⟨(itoa z).toArray⟩ : ByteArray) = s
          · exact .inr (.inl ⟨by omega, by omega, tl_yes s z he, out_yes s z (by omega) (by omega) he⟩)
          · exact .inr (.inr ⟨by omega, by omega, tl_no s z he, out_no s z hz.out he⟩)
      by_cases h45 : s[0].toNat = 45
      · have hz : Hid (zof s.data.toList = -(m : Int)) := by show _ = _; rw [zof_neg s hp0 h45, hm2.out]
        clear hm2
        generalize hzz : -(m : Int) = z at hz
        have hzb : -100000000000000000 < z ∧ z ≤ 0 := by omega
        rcases key z hz hzb.1 (by omega) with ⟨hfar, HO⟩ | ⟨hl, hu, hB, HO⟩ | ⟨hl, hu, hB, HO⟩
        · clear key
          go_wp2_with (first | (go_at_call 54; refine (in_no _ _ _ hfar _).mono ?_; rintro e w' ⟨rfl, rfl⟩))
          go_ret2
          exact ⟨.mk HO.out, Below.refl _ _⟩
        · clear key
          go_wp2_with (first | (go_at_call 54; refine (in_yes _ _ _ hl hu _).mono ?_; rintro e w' ⟨rfl, rfl⟩) | (go_at_call 55; refine (l01_any z (by omega) (by omega) _).mono ?_; rintro e w' ⟨rfl, hb⟩))
          go_ret2
          exact ⟨.mk HO.out, by assumption⟩
        · clear key
          go_wp2_with (first | (go_at_call 54; refine (in_yes _ _ _ hl hu _).mono ?_; rintro e w' ⟨rfl, rfl⟩) | (go_at_call 55; refine (l01_any z (by omega) (by omega) _).mono ?_; rintro e w' ⟨rfl, hb⟩))
          go_ret2
          exact ⟨.mk HO.out, by assumption⟩
      · have hz : Hid (zof s.data.toList = (m : Int)) := by show _ = _; rw [zof_pos s hp0 h45, hm2.out]
        have h45' : ((s[0].toNat : Int) == 45) = false := by
          rw [beq_eq_false_iff_ne]; omega
        clear hm2
        generalize hzz : (m : Int) = z at hz
        have hzb : 0 ≤ z ∧ z < 100000000000000000 := by omega
        rcases key z hz (by omega) hzb.2 with ⟨hfar, HO⟩ | ⟨hl, hu, hB, HO⟩ | ⟨hl, hu, hB, HO⟩
        · clear key
          go_wp2_with (first | (go_at_call 54; refine (in_no _ _ _ hfar _).mono ?_; rintro e w' ⟨rfl, rfl⟩))
          go_ret2
          exact ⟨.mk HO.out, Below.refl _ _⟩
        · clear key
          go_wp2_with (first | (go_at_call 54; refine (in_yes _ _ _ hl hu _).mono ?_; rintro e w' ⟨rfl, rfl⟩) | (go_at_call 55; refine (l01_any z (by omega) (by omega) _).mono ?_; rintro e w' ⟨rfl, hb⟩))
          go_ret2
          exact ⟨.mk HO.out, by assumption⟩
        · clear key
          go_wp2_with (first | (go_at_call 54; refine (in_yes _ _ _ hl hu _).mono ?_; rintro e w' ⟨rfl, rfl⟩) | (go_at_call 55; refine (l01_any z (by omega) (by omega) _).mono ?_; rintro e w' ⟨rfl, hb⟩))
          go_ret2
          exact ⟨.mk HO.out, by assumption⟩

end Go.Proofs.YtdeoemeibbkdoaaDoor.rd
