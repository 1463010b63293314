/- Nodes and weights: what they are; all of them are finite. -/
import Derived.Test.YtibpahkjjjhapabCosW
import Derived.Test.YtibpahkjjjhapabFaF
namespace Go.Proofs.Ytibpahkjjjhapab.ev
open Go.Fl Go.Fa Go.Proofs.Ytibpahkjjjhapab.cos Go.Proofs.Ytibpahkjjjhapab.fls Go.Proofs.Ytibpahkjjjhapab.fin

/-- the slope of the polynomial n at x -/
def slp (n x : Nat) : Nat := ar .quo .f32 (ar .mul .f32 (oi (n : Int)) (ar .sub .f32 (ar .mul .f32 x (Fa.fr 2 x n).1) (Fa.fr 2 x n).2)) (ar .sub .f32 (ar .mul .f32 x x) 1065353216)
def stp (n x : Nat) : Nat := ar .sub .f32 x (ar .quo .f32 (Fa.fr 2 x n).1 (slp n x))
def itr (n x : Nat) : Nat → Nat
  | 0 => x
  | j + 1 => stp n (itr n x j)
/-- where a node begins -/
def x0 (n k : Nat) : Nat := cz (ar .add .f32 (oi (k : Int)) 1061158912) (oi (2 * (n : Int) + 1))
def wt (n x : Nat) : Nat := ar .quo .f32 1073741824 (ar .mul .f32 (ar .mul .f32 (ar .sub .f32 1065353216 (ar .mul .f32 x x)) (slp n x)) (slp n x))
def N (n k : Nat) : Nat := itr n (x0 n k) 12
def W (n k : Nat) : Nat := wt n (N n k)

theorem fr_congr {k x x' : Nat} (h : Sm .f32 x x') : ∀ i, Fa.fr k x i = Fa.fr k x' i
  | 0 => by rw [Fa.fr, Fa.fr]
  | i + 1 => by rw [Fa.fr, Fa.fr, fr_congr h i, ar_congr (Sm.refl _ _) h]
theorem slp_congr {n x x' : Nat} (h : Sm .f32 x x') : slp n x = slp n x' := by
  unfold slp
  rw [fr_congr h, ar_congr h (Sm.refl _ _), ar_congr (op := .mul) h h]
theorem fr_before (k x i : Nat) (h : 0 < i) : (Fa.fr k x i).2 = fv k x (i - 1) := by
  cases i with
  | zero => omega
  | succ j => rw [fr_two]; rfl

/-- whether the first k nodes and weights are finite, one after another -/
def good (n : Nat) : Nat → Bool
  | 0 => true
  | k + 1 => good n k && (let x := N n k; fin x && fin (wt n x))
theorem good_all {n : Nat} : ∀ {m : Nat}, good n m = true → afin (N n) m = true ∧ afin (W n) m = true
  | 0, _ => ⟨rfl, rfl⟩
  | m + 1, h => by
    unfold good at h
    simp only [Bool.and_eq_true] at h
    obtain ⟨h1, h2, h3⟩ := h
    obtain ⟨h4, h5⟩ := good_all (m := m) h1
    have h3' : fin (W n m) = true := h3
    unfold afin
    rw [h4, h5, h2, h3']
    exact ⟨rfl, rfl⟩
set_option maxRecDepth 1000000
theorem g1 : good 1 1 = true := by decide +kernel
theorem g2 : good 2 2 = true := by decide +kernel
theorem g3 : good 3 3 = true := by decide +kernel
theorem g4 : good 4 4 = true := by decide +kernel
theorem g5 : good 5 5 = true := by decide +kernel
theorem g6 : good 6 6 = true := by decide +kernel
theorem g7 : good 7 7 = true := by decide +kernel
theorem g8 : good 8 8 = true := by decide +kernel
theorem all_good (n : Nat) (h1 : 1 ≤ n) (h8 : n ≤ 8) : afin (N n) n = true ∧ afin (W n) n = true := by
  rcases (show n = 1 ∨ n = 2 ∨ n = 3 ∨ n = 4 ∨ n = 5 ∨ n = 6 ∨ n = 7 ∨ n = 8 by omega) with rfl | rfl | rfl | rfl | rfl | rfl | rfl | rfl
  · exact good_all g1
  · exact good_all g2
  · exact good_all g3
  · exact good_all g4
  · exact good_all g5
  · exact good_all g6
  · exact good_all g7
  · exact good_all g8
end Go.Proofs.Ytibpahkjjjhapab.ev
