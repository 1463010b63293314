/- Values of polynomials at integers, by nested steps: what they are and how great they become. No program is spoken of. -/
import Derived.Test.YtfhcfeafohcjpaaPr
namespace Go.Pl

/-- the value of the highest k terms, nested -/
def hor (L : List Int) (x : Int) : Nat → Int
  | 0 => 0
  | k + 1 => hor L x k * x + at' L (L.length - 1 - k)
theorem hor_zero (L : List Int) (x : Int) : hor L x 0 = 0 := rfl
theorem hor_succ (L : List Int) (x : Int) (k : Nat) : hor L x (k + 1) = hor L x k * x + at' L (L.length - 1 - k) := rfl
theorem pow51 : ∀ k : Nat, k ≤ 9 → (1 : Int) ≤ 51 ^ k ∧ (51 : Int) ^ k ≤ 51 ^ 9 := by decide
theorem mul_ab {A B a b : Int} (ha : -A ≤ a ∧ a ≤ A) (hb : -B ≤ b ∧ b ≤ B) : -(A * B) ≤ a * b ∧ a * b ≤ A * B := by
  have h1 : a.natAbs ≤ A.natAbs := by omega
  have h2 : b.natAbs ≤ B.natAbs := by omega
  have h3 : (a * b).natAbs ≤ A.natAbs * B.natAbs := by rw [Int.natAbs_mul]; exact Nat.mul_le_mul h1 h2
  have h4 : ((A.natAbs * B.natAbs : Nat) : Int) = A * B := by
    rw [Int.natCast_mul, Int.natAbs_of_nonneg (by omega), Int.natAbs_of_nonneg (by omega)]
  omega
theorem hor_bd {L : List Int} (h : ValR L) {x : Int} (hx : -50 ≤ x ∧ x ≤ 50) : ∀ k : Nat, -(1000 * 51 ^ k) ≤ hor L x k ∧ hor L x k ≤ 1000 * 51 ^ k
  | 0 => by rw [hor_zero]; constructor <;> decide
  | k + 1 => by
    have h1 := hor_bd h hx k
    have h2 := h.at (L.length - 1 - k)
    have h3 := mul_ab h1 hx
    have h4 : (1 : Int) ≤ 51 ^ k := Int.pow_pos (by decide)
    have h5 : (51 : Int) ^ (k + 1) = 51 ^ k * 51 := Int.pow_succ _ _
    rw [hor_succ, h5]
    generalize hor L x k * x = P at *
    generalize (51 : Int) ^ k = E at *
    constructor <;> omega
/-- the place of the least value among m + 1 integers from low on -/
def best (f : Int → Int) (low : Int) : Nat → Int
  | 0 => low
  | m + 1 => if f (low + 1 + (m : Int)) < f (best f low m) then low + 1 + (m : Int) else best f low m
theorem best_bd (f : Int → Int) (low : Int) : ∀ m : Nat, low ≤ best f low m ∧ best f low m ≤ low + (m : Int)
  | 0 => by rw [best]; omega
  | m + 1 => by
    have := best_bd f low m
    rw [best]
    split <;> omega
end Go.Pl
