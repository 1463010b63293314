/- Hexadecimal digits. -/
import Derived.WalkKit
import Derived.Laws.BitsLemmas
namespace Go.Hex
open Go Go.RowKit

abbrev hexs : ByteArray := ⟨#[48, 49, 50, 51, 52, 53, 54, 55, 56, 57, 97, 98, 99, 100, 101, 102]⟩
/-- the digit of a number below 16 -/
def hd (d : Nat) : UInt8 := hexs.data.getD d 0
def dig (N t : Nat) : UInt8 := hd (N / 16 ^ t % 16)
/-- the eight digits of a number -/
def hex (N : Nat) : List UInt8 := (List.range 8).map fun t => dig N (7 - t)
theorem hex_length (N : Nat) : (hex N).length = 8 := by simp [hex]
def bv (b : UInt8) : Value := .int .u8 (b.toNat : Int)

theorem and15 (x : Int) (h0 : 0 ≤ x) (h1 : x < 9223372036854775808) : bits .and .i64 x 15 = x % 16 := by
  have e : (2 : Int) ^ 63 = 9223372036854775808 := by decide
  have e4 : (2 : Int) ^ 4 = 16 := by decide
  have h := bits_mask .i64 63 (by decide) (fun n h0 h1 => by rw [e] at h1; rw [IntKind.wrap_i64]; omega) 4 (by decide) x h0 (by rw [e]; exact h1)
  rw [e4] at h
  exact h
theorem hd_at (d : Nat) (h : d < hexs.size) : hexs[d] = hd d := by
  have h' : d < hexs.data.size := h
  unfold hd
  rw [Array.getD_eq_getD_getElem?, Array.getElem?_eq_getElem h']
  rfl

theorem shr_dig (N j : Nat) (hj : j < 8) : ((N : Int) / 2 ^ (28 - 4 * j)) % 16 = ((N / 16 ^ (7 - j) % 16 : Nat) : Int) := by
  have e : (2 : Int) ^ (28 - 4 * j) = ((16 ^ (7 - j) : Nat) : Int) := by
    have e1 : 28 - 4 * j = 4 * (7 - j) := by omega
    rw [e1, Int.pow_mul]
    rfl
  rw [e]
  rfl

theorem spec_dig (N j : Nat) (hN : N < 4294967296) (hj : j < 8) (D : Nat) (h : D < hexs.size) (e : D = (bits .and .i64 ((N : Int) / 2 ^ (28 - 4 * j)) 15).toNat) : Value.int .u8 ((hexs[D]'h).toNat : Int) = bv (dig N (7 - j)) := by
  have h0 : (0 : Int) ≤ (N : Int) / 2 ^ (28 - 4 * j) := Int.ediv_nonneg (by omega) (Int.le_of_lt (Int.pow_pos (by decide)))
  have h1 : (N : Int) / 2 ^ (28 - 4 * j) < 9223372036854775808 := Int.lt_of_le_of_lt (Int.ediv_le_self _ (by omega)) (by omega)
  rw [and15 _ h0 h1, shr_dig N j hj] at e
  have e2 : D = N / 16 ^ (7 - j) % 16 := by rw [e]; rfl
  rw [hd_at D h, e2]
  rfl

theorem and_lt (N j : Nat) (hN : N < 4294967296) (hj : j < 8) : 0 ≤ bits .and .i64 ((N : Int) / 2 ^ (28 - 4 * j)) 15 ∧ bits .and .i64 ((N : Int) / 2 ^ (28 - 4 * j)) 15 < 16 := by
  have h0 : (0 : Int) ≤ (N : Int) / 2 ^ (28 - 4 * j) := Int.ediv_nonneg (by omega) (Int.le_of_lt (Int.pow_pos (by decide)))
  have h1 : (N : Int) / 2 ^ (28 - 4 * j) < 9223372036854775808 := Int.lt_of_le_of_lt (Int.ediv_le_self _ (by omega)) (by omega)
  rw [and15 _ h0 h1, shr_dig N j hj]
  omega

theorem step (N j : Nat) : N / 16 ^ j / 16 = N / 16 ^ (j + 1) := by rw [Nat.div_div_eq_div_mul, Nat.pow_succ]

/-- the first j digits -/
def pre (N j : Nat) : List UInt8 := (List.range j).map fun t => dig N (7 - t)
theorem pre_succ (N j : Nat) : pre N (j + 1) = pre N j ++ [dig N (7 - j)] := by simp [pre, List.range_succ]
theorem pre_length (N j : Nat) : (pre N j).length = j := by simp [pre]
theorem pre_all (N : Nat) : pre N 8 = hex N := rfl
end Go.Hex
