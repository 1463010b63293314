/- CheckOf and its model return the same at every start and text. -/
import Derived.Test.YtdeoemeibbkdoaaDoorRows
import Derived.WalkKit
import Derived.WalkLawsBesides
import Derived.Test.YtdeoemeibbkdoaaDoorPost
namespace Go.Proofs.YtdeoemeibbkdoaaDoor.fnExactCheckOfW
open Go.RowKit

theorem ret2_int {k : IntKind} {a b : Int} {c : Bool} (h : a = b) : Ending.returned (.tuple #[.int k a, .bool c]) = .returned (.tuple #[.int k b, .bool c]) := by rw [h]
theorem ret_int {k : IntKind} {a b : Int} (h : a = b) : Ending.returned (.int k a) = .returned (.int k b) := by rw [h]

def step (n : Int) (c : UInt8) : Int := (911 * n + (c.toNat : Int) + 181) % 65003
/-- the check number of bytes -/
def chk (n : Int) (l : List UInt8) : Int := l.foldl step n
theorem chk_bd (l : List UInt8) : ∀ n : Int, 0 ≤ n → n ≤ 65002 → 0 ≤ chk n l ∧ chk n l ≤ 65002 := by
  induction l with
  | nil => intro n h0 h1; exact ⟨h0, h1⟩
  | cons c l ih =>
    intro n h0 h1
    exact ih (step n c) (by unfold step; omega) (by unfold step; omega)
theorem chk_snoc (n : Int) (l : List UInt8) (c : UInt8) : chk n (l ++ [c]) = (911 * chk n l + (c.toNat : Int) + 181) % 65003 := by
  unfold chk
  rw [List.foldl_append]
  rfl
theorem step_wrap (c : UInt8) {x : Int} (h0 : 0 ≤ x) (h1 : x ≤ 65002) : (wrap64 (wrap64 (911 * x + wrap64 (c.toNat : Int)) + 181)).tmod 65003 = (911 * x + (c.toNat : Int) + 181) % 65003 := by
  have hc := c.toNat_lt
  rw [IntWalk.wrap64_in (c.toNat : Int) ⟨by omega, by omega⟩, IntWalk.wrap64_in (911 * x + (c.toNat : Int)) ⟨by omega, by omega⟩, IntWalk.wrap64_in _ ⟨by omega, by omega⟩]
  exact Int.tmod_eq_emod_of_nonneg (by omega)
theorem take_snoc (s : ByteArray) (k : Nat) (h : k < s.size) : s.data.toList.take (k + 1) = s.data.toList.take k ++ [s[k]] := by
  rw [List.take_succ_eq_append_getElem (by simpa using h)]; rfl
theorem take_all (s : ByteArray) (k : Nat) (h : s.size ≤ k) : s.data.toList.take k = s.data.toList := List.take_of_length_le (by simpa using h)

theorem impl_in (n : Int) (s : ByteArray) (h0 : 0 ≤ n) (h1 : n ≤ 65002) (hs : s.size ≤ 1048576) (w : World) :
    Calls Tryd.prog 67 #[.int .i64 n, .string s] w fun e w' => e = .returned (.tuple #[.int .i64 (chk n s.data.toList), .bool true]) ∧ w = w' := by
  go_enter Tryd.func67, Tryd.ntmps67
  go_wp2
  go_loop [6, 17] (fun c i => ∃ k : Nat, k ≤ s.size ∧ i = .int .i64 k ∧ c = .int .i64 (chk n (s.data.toList.take k))) (fun _ i => s.size - (intOf i).toNat)
  case atStart => exact ⟨0, Nat.zero_le _, rfl, rfl⟩
  case round =>
    obtain ⟨k, hk, rfl, rfl⟩ := hrel
    have hd := chk_bd (s.data.toList.take k) n h0 h1
    by_cases hlt : k < s.size
    · have hsn := chk_snoc n (s.data.toList.take k) s[k]
      have hts := take_snoc s k hlt
      have HS : Hid (chk n (s.data.toList.take (k + 1)) = (911 * chk n (s.data.toList.take k) + (s[k].toNat : Int) + 181) % 65003) := by rw [hts]; exact hsn
      clear hsn hts
      have HBY : Hid ((wrap64 (wrap64 (911 * chk n (s.data.toList.take k) + wrap64 (s[k].toNat : Int)) + 181)).tmod 65003 = (911 * chk n (s.data.toList.take k) + (s[k].toNat : Int) + 181) % 65003) := step_wrap s[k] hd.1 hd.2
      go_wp2
      go_round
      case rel => exact ⟨k + 1, by omega, by go_num, by rw [HS.out]; exact congrArg _ HBY.out⟩
      case measure => simp [intOf]; omega
    · have ht := take_all s k (by omega)
      have HT : Hid (chk n (s.data.toList.take k) = chk n s.data.toList) := by rw [ht]; exact (rfl : chk n _ = _)
      clear ht
      go_wp2
      go_ret2
      exact ⟨ret2_int HT.out, rfl⟩

theorem impl_out (n : Int) (s : ByteArray) (h : n < 0 ∨ 65002 < n) (w : World) :
    Calls Tryd.prog 67 #[.int .i64 n, .string s] w fun e w' => e = .returned (.tuple #[.int .i64 0, .bool false]) ∧ w = w' := by
  rcases h with h | h
  · go_enter Tryd.func67, Tryd.ntmps67
    go_wp2
    go_ret2
    exact ⟨rfl, rfl⟩
  · have h' : 0 ≤ n := by omega
    go_enter Tryd.func67, Tryd.ntmps67
    go_wp2
    go_ret2
    exact ⟨rfl, rfl⟩

theorem l01_in (n : Int) (s : ByteArray) (h0 : 0 ≤ n) (h1 : n ≤ 65002) (hs : s.size ≤ 1048576) (w : World) :
    Calls Tryd.prog 65 #[.int .i64 n, .string s] w fun e w' => e = .returned (.int .i64 (chk n s.data.toList)) ∧ w = w' := by
  go_enter Tryd.func65, Tryd.ntmps65
  go_wp2
  go_loop [0, 5] (fun c i => ∃ k : Nat, k ≤ s.size ∧ i = .int .i64 k ∧ c = .int .i64 (chk n (s.data.toList.take k))) (fun _ i => s.size - (intOf i).toNat)
  case atStart => exact ⟨0, Nat.zero_le _, rfl, rfl⟩
  case round =>
    obtain ⟨k, hk, rfl, rfl⟩ := hrel
    have hd := chk_bd (s.data.toList.take k) n h0 h1
    by_cases hlt : k < s.size
    · have hsn := chk_snoc n (s.data.toList.take k) s[k]
      have hts := take_snoc s k hlt
      have HS : Hid (chk n (s.data.toList.take (k + 1)) = (911 * chk n (s.data.toList.take k) + (s[k].toNat : Int) + 181) % 65003) := by rw [hts]; exact hsn
      clear hsn hts
      have HBY : Hid ((wrap64 (wrap64 (911 * chk n (s.data.toList.take k) + wrap64 (s[k].toNat : Int)) + 181)).tmod 65003 = (911 * chk n (s.data.toList.take k) + (s[k].toNat : Int) + 181) % 65003) := step_wrap s[k] hd.1 hd.2
      go_wp2
      go_round
      case rel => exact ⟨k + 1, by omega, by go_num, by rw [HS.out]; exact congrArg _ HBY.out⟩
      case measure => simp [intOf]; omega
    · have ht := take_all s k (by omega)
      have HT : Hid (chk n (s.data.toList.take k) = chk n s.data.toList) := by rw [ht]; exact (rfl : chk n _ = _)
      clear ht
      go_wp2
      go_ret
      exact ⟨ret_int HT.out, rfl⟩

end Go.Proofs.YtdeoemeibbkdoaaDoor.fnExactCheckOfW
