/- Wholes of roots of 1: their terms, by a table, and what both sides make of them. No program is spoken of. -/
import Derived.Test.YtdammgflmkamaaaEqF
import Derived.Test.YtdammgflmkamaaaFnD
namespace Go.Pl
/-- x^n less 1 -/
def xn1 (n : Nat) : List Int := ((List.replicate (n + 1) (0 : Int)).set 0 (-1)).set n 1
def cyt : List (List Int) := [[],
  [-1, 1],
  [1, 1],
  [1, 1, 1],
  [1, 0, 1],
  [1, 1, 1, 1, 1],
  [1, -1, 1],
  [1, 1, 1, 1, 1, 1, 1],
  [1, 0, 0, 0, 1],
  [1, 0, 0, 1, 0, 0, 1],
  [1, -1, 1, -1, 1],
  [1, 1, 1, 1, 1, 1, 1, 1, 1, 1, 1],
  [1, 0, -1, 0, 1],
  [1, 1, 1, 1, 1, 1, 1, 1, 1, 1, 1, 1, 1],
  [1, -1, 1, -1, 1, -1, 1],
  [1, -1, 0, 1, -1, 1, 0, -1, 1],
  [1, 0, 0, 0, 0, 0, 0, 0, 1],
  [1, 1, 1, 1, 1, 1, 1, 1, 1, 1, 1, 1, 1, 1, 1, 1, 1],
  [1, 0, 0, -1, 0, 0, 1],
  [1, 1, 1, 1, 1, 1, 1, 1, 1, 1, 1, 1, 1, 1, 1, 1, 1, 1, 1],
  [1, 0, -1, 0, 1, 0, -1, 0, 1],
  [1, -1, 0, 1, -1, 0, 1, 0, -1, 1, 0, -1, 1],
  [1, -1, 1, -1, 1, -1, 1, -1, 1, -1, 1],
  [1, 1, 1, 1, 1, 1, 1, 1, 1, 1, 1, 1, 1, 1, 1, 1, 1, 1, 1, 1, 1, 1, 1],
  [1, 0, 0, 0, -1, 0, 0, 0, 1],
  [1, 0, 0, 0, 0, 1, 0, 0, 0, 0, 1, 0, 0, 0, 0, 1, 0, 0, 0, 0, 1],
  [1, -1, 1, -1, 1, -1, 1, -1, 1, -1, 1, -1, 1],
  [1, 0, 0, 0, 0, 0, 0, 0, 0, 1, 0, 0, 0, 0, 0, 0, 0, 0, 1],
  [1, 0, -1, 0, 1, 0, -1, 0, 1, 0, -1, 0, 1],
  [1, 1, 1, 1, 1, 1, 1, 1, 1, 1, 1, 1, 1, 1, 1, 1, 1, 1, 1, 1, 1, 1, 1, 1, 1, 1, 1, 1, 1],
  [1, 1, 0, -1, -1, -1, 0, 1, 1]]
def cyc (n : Nat) : List Int := (cyt[n]?).getD []
/-- what is left of x^n less 1 behind the first j divisors -/
def cyi (n : Nat) : Nat → List Int
  | 0 => xn1 n
  | j + 1 => if at' (divs n n) j < n then exq (cyi n j) (cyc (at' (divs n n) j).toNat) else cyi n j
/-- .. behind the numbers to j -/
def cys (n : Nat) : Nat → List Int
  | 0 => xn1 n
  | j + 1 => if n % (j + 1) = 0 then exq (cys n j) (cyc (j + 1)) else cys n j
/-- the exact quotient of both is told -/
def Gq (A B : List Int) : Prop := (1 ≤ A.length ∧ A.length ≤ 40 ∧ 1 ≤ B.length ∧ B.length ≤ 17) ∧ (inR (-1000000) 1000000 A ∧ inR (-1000000) 1000000 B) ∧ at' B (B.length - 1) ≠ 0 ∧ A[A.length - 1]? ≠ some 0 ∧ exok A B = true
instance (A B : List Int) : Decidable (Gq A B) := by unfold Gq; infer_instance
theorem cy_i : ∀ n < 31, 1 ≤ n → cyc n = cyi n (divs n n).length ∧ ∀ j < (divs n n).length, 1 ≤ at' (divs n n) j ∧ at' (divs n n) j ≤ n ∧ (at' (divs n n) j < n → Gq (cyi n j) (cyc (at' (divs n n) j).toNat)) := by decide +kernel
theorem cy_s : ∀ n < 31, 1 ≤ n → cyc n = cys n (n - 1) ∧ ∀ j < n - 1, n % (j + 1) = 0 → Gq (cys n j) (cyc (j + 1)) := by decide +kernel
theorem cy_n : ∀ n < 31, 1 ≤ n → 1 ≤ (cyc n).length ∧ (cyc n).length ≤ 31 ∧ (divs n n).length ≤ 8 := by decide +kernel
end Go.Pl
