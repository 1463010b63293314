/- The rules of families, and the values by them: pure. -/
import Derived.Test.YtfmdbgpalldjoabFlB
import Derived.Lib.Hide
namespace Go.Fa
open Go Go.Fl
/-- a small integer as a 32-bit number -/
def oi (k : Int) : Nat := floatOfInt .f32 k
def ra (k n : Nat) : Nat := match k with
  | 0 => if n = 0 then 1065353216 else 1073741824
  | 1 => 1073741824
  | 2 => ar .quo .f32 (oi (2 * (n : Int) + 1)) (oi ((n : Int) + 1))
  | 3 => 1065353216
  | _ => ar .quo .f32 3212836864 (oi ((n : Int) + 1))
def rb (k n : Nat) : Nat := if k = 4 then ar .quo .f32 (oi (2 * (n : Int) + 1)) (oi ((n : Int) + 1)) else 0
def rc (k n : Nat) : Nat := match k with
  | 0 => 1065353216
  | 1 => 1065353216
  | 2 => ar .quo .f32 (oi (n : Int)) (oi ((n : Int) + 1))
  | 3 => oi (n : Int)
  | _ => ar .quo .f32 (oi (n : Int)) (oi ((n : Int) + 1))
theorem q_odd : ∀ n : Nat, n < 18 → floatBits .quo .f32 (oi (2 * (n : Int) + 1)) (oi ((n : Int) + 1)) = some (ar .quo .f32 (oi (2 * (n : Int) + 1)) (oi ((n : Int) + 1))) := by decide +kernel
theorem q_neg : ∀ n : Nat, n < 18 → floatBits .quo .f32 3212836864 (oi ((n : Int) + 1)) = some (ar .quo .f32 3212836864 (oi ((n : Int) + 1))) := by decide +kernel
theorem q_cnt : ∀ n : Nat, n < 18 → floatBits .quo .f32 (oi (n : Int)) (oi ((n : Int) + 1)) = some (ar .quo .f32 (oi (n : Int)) (oi ((n : Int) + 1))) := by decide +kernel
theorem m_two : ∀ n : Nat, n < 18 → floatBits .mul .f32 1073741824 (oi (n : Int)) = some (oi (2 * (n : Int))) := by decide +kernel
theorem a_odd : ∀ n : Nat, n < 18 → floatBits .add .f32 (oi (2 * (n : Int))) 1065353216 = some (oi (2 * (n : Int) + 1)) := by decide +kernel
theorem a_one : ∀ n : Nat, n < 18 → floatBits .add .f32 (oi (n : Int)) 1065353216 = some (oi ((n : Int) + 1)) := by decide +kernel

/-- the value i, and the one before -/
def fr (k x : Nat) : Nat → Nat × Nat
  | 0 => (1065353216, 0)
  | i + 1 => (ar .sub .f32 (ar .mul .f32 (ar .add .f32 (ar .mul .f32 (ra k i) x) (rb k i)) (fr k x i).1) (ar .mul .f32 (rc k i) (fr k x i).2), (fr k x i).1)
def fv (k x i : Nat) : Nat := (fr k x i).1
theorem fr_two (k x i : Nat) : (fr k x (i + 1)).2 = fv k x i := by unfold fv; rw [fr]
theorem fv_succ (k x i : Nat) : fv k x (i + 1) = ar .sub .f32 (ar .mul .f32 (ar .add .f32 (ar .mul .f32 (ra k i) x) (rb k i)) (fv k x i)) (ar .mul .f32 (rc k i) (fr k x i).2) := by unfold fv; rw [fr]

/-- the sum: u and v when the weights from k on are done -/
def fs (kd x : Nat) (f : Nat → Nat) (n : Nat) : Nat → Nat × Nat
  | 0 => (0, 0)
  | i + 1 => (ar .sub .f32 (ar .add .f32 (f (n - 1 - i)) (ar .mul .f32 (ar .add .f32 (ar .mul .f32 (ra kd (n - 1 - i)) x) (rb kd (n - 1 - i))) (fs kd x f n i).1)) (ar .mul .f32 (rc kd (n - 1 - i + 1)) (fs kd x f n i).2), (fs kd x f n i).1)
end Go.Fa
