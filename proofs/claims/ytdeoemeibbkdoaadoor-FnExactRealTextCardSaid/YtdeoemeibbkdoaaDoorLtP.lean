/- The text of a list of numbers. -/
import Derived.Lib.ItoaNum
import Derived.Lib.Join
import Derived.Test.YtdeoemeibbkdoaaDoorRdP
namespace Go.Lt
open Go.Lib Go.Rd

def inR (z : Int) : Prop := -1000000000000000 ≤ z ∧ z ≤ 1000000000000000
instance (z : Int) : Decidable (inR z) := by unfold inR; infer_instance
/-- few, and none too great -/
def good (n : Nat) (f : Nat → Int) : Bool := decide (n ≤ 64) && (List.range n).all fun k => decide (inR (f k))
theorem good_yes {n : Nat} {f : Nat → Int} (hn : n ≤ 64) (h : ∀ k, k < n → inR (f k)) : good n f = true := by
  unfold good
  rw [decide_eq_true hn, Bool.true_and, List.all_eq_true]
  intro k hk
  exact decide_eq_true (h k (List.mem_range.1 hk))
theorem good_no {n k : Nat} {f : Nat → Int} (hk : k < n) (h : ¬ inR (f k)) : good n f = false := by
  unfold good
  rw [Bool.and_eq_false_iff]
  refine .inr (List.all_eq_false.2 ⟨k, List.mem_range.2 hk, by simpa using h⟩)
theorem good_many {n : Nat} {f : Nat → Int} (hn : ¬ n ≤ 64) : good n f = false := by
  unfold good
  rw [decide_eq_false hn, Bool.false_and]
theorem good_in {n : Nat} {f : Nat → Int} (h : good n f = true) : n ≤ 64 ∧ ∀ k, k < n → inR (f k) := by
  unfold good at h
  rw [Bool.and_eq_true, List.all_eq_true] at h
  exact ⟨of_decide_eq_true h.1, fun k hk => of_decide_eq_true (h.2 k (List.mem_range.2 hk))⟩

/-- the text of the numbers 0 to k -/
def tx (f : Nat → Int) (k : Nat) : List UInt8 := itoa (f 0) ++ joinTail [44] ((List.range k).map fun j => itoa (f (j + 1)))
theorem tx_zero (f : Nat → Int) : tx f 0 = itoa (f 0) := by simp [tx, joinTail]
theorem tx_succ (f : Nat → Int) (k : Nat) : tx f (k + 1) = tx f k ++ (44 :: itoa (f (k + 1))) := by
  simp [tx, joinTail, List.range_succ]
/-- one text each -/
def items (f : Nat → Int) (n : Nat) : List ByteArray := (List.range n).map fun j => ⟨(itoa (f j)).toArray⟩
theorem items_length (f : Nat → Int) (n : Nat) : (items f n).length = n := by simp [items]
theorem items_succ (f : Nat → Int) (n : Nat) : items f (n + 1) = items f n ++ [⟨(itoa (f n)).toArray⟩] := by simp [items, List.range_succ]
theorem join_items (f : Nat → Int) (k : Nat) : join ((items f (k + 1)).map (·.data.toList)) [44] = tx f k := by
  unfold items
  rw [List.range_succ_eq_map, List.map_cons, List.map_cons, join_cons]
  unfold tx
  simp [Function.comp_def]

theorem itoa_in (z : Int) (h : inR z) : (itoa z).length ≤ 17 := (itoa_len z h.1 h.2).2
theorem tx_len (f : Nat → Int) (n : Nat) (h : ∀ k, k < n → inR (f k)) : ∀ k, k < n → (tx f k).length ≤ 18 * (k + 1)
  | 0, hk => by rw [tx_zero]; have := itoa_in _ (h 0 hk); omega
  | k + 1, hk => by
    have := tx_len f n h k (by omega)
    have := itoa_in _ (h (k + 1) hk)
    rw [tx_succ, List.length_append, List.length_cons]
    omega

/-- the answer -/
def text (n : Nat) (f : Nat → Int) : ByteArray := if n = 0 then ⟨#[110, 111, 110, 101]⟩ else ⟨(tx f (n - 1)).toArray⟩
def ans (n : Nat) (f : Nat → Int) : ByteArray := if good n f then text n f else ⟨#[]⟩
end Go.Lt
