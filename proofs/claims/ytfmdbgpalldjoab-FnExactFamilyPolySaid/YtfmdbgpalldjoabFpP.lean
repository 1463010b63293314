/- The terms of families' polynomials: pure. -/
import Derived.Test.YtfmdbgpalldjoabFaP
namespace Go.Fp
open Go Go.Fl Go.Fa
def at0 (l : List Nat) (k : Nat) : Nat := (l[k]?).getD 0
/-- the term k of the next one of two lists -/
def nt (kd i : Nat) (now before : List Nat) (k : Nat) : Nat :=
  ar .sub .f32 (ar .add .f32 (ar .mul .f32 (ra kd i) (if k = 0 then 0 else at0 now (k - 1))) (ar .mul .f32 (rb kd i) (at0 now k))) (ar .mul .f32 (rc kd i) (at0 before k))
/-- the terms of the polynomial i, and those of the one before -/
def tl (kd : Nat) : Nat → List Nat × List Nat
  | 0 => ([1065353216], [])
  | i + 1 => ((List.range (i + 2)).map (nt kd i (tl kd i).1 (tl kd i).2), (tl kd i).1)
theorem tl_len (kd : Nat) : ∀ i, (tl kd i).1.length = i + 1 ∧ (tl kd i).2.length = i
  | 0 => ⟨rfl, rfl⟩
  | i + 1 => by
    have h := (tl_len kd i).1
    rw [tl]
    exact ⟨by simp, h⟩
theorem tl_two (kd i : Nat) : (tl kd (i + 1)).2 = (tl kd i).1 := by rw [tl]
theorem tl_at (kd i k : Nat) (h : k < i + 2) : at0 (tl kd (i + 1)).1 k = nt kd i (tl kd i).1 (tl kd i).2 k := by
  unfold at0
  rw [tl]
  simp only
  rw [List.getElem?_map, List.getElem?_range h]
  rfl
end Go.Fp
