/- Texts one behind the other, a comma between. -/
import Derived.Lib.Join
namespace Go.Nt
open Go.Lib

/-- the texts 0 to k -/
def tx (g : Nat → List UInt8) (k : Nat) : List UInt8 := g 0 ++ joinTail [44] ((List.range k).map fun j => g (j + 1))
theorem tx_zero (g : Nat → List UInt8) : tx g 0 = g 0 := by simp [tx, joinTail]
theorem tx_succ (g : Nat → List UInt8) (k : Nat) : tx g (k + 1) = tx g k ++ (44 :: g (k + 1)) := by
  simp [tx, joinTail, List.range_succ]
def items (g : Nat → List UInt8) (n : Nat) : List ByteArray := (List.range n).map fun j => ⟨(g j).toArray⟩
theorem items_length (g : Nat → List UInt8) (n : Nat) : (items g n).length = n := by simp [items]
theorem items_succ (g : Nat → List UInt8) (n : Nat) : items g (n + 1) = items g n ++ [⟨(g n).toArray⟩] := by simp [items, List.range_succ]
theorem join_items (g : Nat → List UInt8) (k : Nat) : join ((items g (k + 1)).map (·.data.toList)) [44] = tx g k := by
  unfold items
  rw [List.range_succ_eq_map, List.map_cons, List.map_cons, join_cons]
  unfold tx
  simp [Function.comp_def]
theorem tx_len (g : Nat → List UInt8) (h : ∀ k, (g k).length ≤ 8) : ∀ k, (tx g k).length ≤ 9 * (k + 1)
  | 0 => by rw [tx_zero]; have := h 0; omega
  | k + 1 => by
    have := tx_len g h k
    have := h (k + 1)
    rw [tx_succ, List.length_append, List.length_cons]
    omega
/-- the answer -/
def text (n : Nat) (g : Nat → List UInt8) : ByteArray := if n = 0 then ⟨#[110, 111, 110, 101]⟩ else ⟨(tx g (n - 1)).toArray⟩
def ans (n : Nat) (g : Nat → List UInt8) : ByteArray := if n ≤ 256 then text n g else ⟨#[]⟩
theorem cat (g : Nat → List UInt8) (m : Nat) : ((⟨(tx g m).toArray⟩ : ByteArray) ++ ((⟨#[44]⟩ : ByteArray) ++ (⟨(g (m + 1)).toArray⟩ : ByteArray))) = ⟨(tx g (m + 1)).toArray⟩ := by
  apply ByteArray.ext
  simp [tx_succ, ByteArray.data_append]
end Go.Nt
