/- Of all pairs of eighths from -4 to 4: the power of the sum is nearly the product of the powers, and the logarithm of a power is nearly the eighth. -/
import Derived.Test.YtclogbnecgfndabPwA
namespace Go.Fl
open Ieee Go.Ie

/-- the gap of two numbers, as the law tells it: which is less, and the difference -/
def gap (a b : Nat) : Nat := if double.order a b == some .lt then ar .sub .f64 b a else ar .sub .f64 a b
/-- the gap is told, and less than another number -/
def gapLt (a b c : Nat) : Bool := (double.order a b).isSome && (floatBits .sub .f64 b a).isSome && (floatBits .sub .f64 a b).isSome && (double.order (gap a b) c == some .lt)

/-- one pair -/
def pair (i j : Nat) : Bool :=
  tells .add .f32 (xA (i + 32)) (xA (j + 32)) (xA (i + j)) && (floatBits .mul .f64 (wA (i + 32)) (wA (j + 32))).isSome && gapLt (ar .mul .f64 (wA (i + 32)) (wA (j + 32))) (wA (i + j)) (hA (i + j))

set_option maxRecDepth 100000 in
theorem tab_log : ∀ k : Fin 65, gapLt (mA k.val) (yA k.val) 4562254508917369340 = true := by
  decide +kernel
set_option maxRecDepth 100000 in
theorem tab_pair : ∀ i : Fin 65, ∀ j : Fin 65, pair i.val j.val = true := by
  decide +kernel
end Go.Fl
