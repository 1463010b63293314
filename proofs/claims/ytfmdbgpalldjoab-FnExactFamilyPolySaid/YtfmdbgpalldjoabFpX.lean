/- The terms of families' polynomials: each operation that makes them has a result that is told. By the kernel. -/
import Derived.Test.YtfmdbgpalldjoabFpQ
namespace Go.Proofs.Ytfmdbgpalldjoab.fp
open Go Go.Fl Go.Fa Go.Fp Go.Proofs.Ytfmdbgpalldjoab.fin
def exk (kd j : Nat) (now before : List Nat) (k : Nat) : Bool :=
  (floatBits .mul .f32 (ra kd j) (if k = 0 then 0 else at0 now (k - 1))).isSome && ((floatBits .mul .f32 (rb kd j) (at0 now k)).isSome && ((floatBits .add .f32 (ar .mul .f32 (ra kd j) (if k = 0 then 0 else at0 now (k - 1))) (ar .mul .f32 (rb kd j) (at0 now k))).isSome && ((floatBits .mul .f32 (rc kd j) (at0 before k)).isSome &&
    (floatBits .sub .f32 (ar .add .f32 (ar .mul .f32 (ra kd j) (if k = 0 then 0 else at0 now (k - 1))) (ar .mul .f32 (rb kd j) (at0 now k))) (ar .mul .f32 (rc kd j) (at0 before k))).isSome)))
def ex (kd j : Nat) : Bool := (List.range (j + 2)).all (exk kd j (tl kd j).1 (tl kd j).2)
set_option maxRecDepth 1000000
theorem ex_0 : ∀ j : Fin 16, ex 0 j.1 = true := by decide +kernel
theorem ex_1 : ∀ j : Fin 16, ex 1 j.1 = true := by decide +kernel
theorem ex_2 : ∀ j : Fin 16, ex 2 j.1 = true := by decide +kernel
theorem ex_3 : ∀ j : Fin 16, ex 3 j.1 = true := by decide +kernel
theorem ex_4 : ∀ j : Fin 16, ex 4 j.1 = true := by decide +kernel
theorem ex_all (kd j : Nat) (hk : kd ≤ 4) (hj : j < 16) : ex kd j = true := by
  rcases (show kd = 0 ∨ kd = 1 ∨ kd = 2 ∨ kd = 3 ∨ kd = 4 by omega) with rfl | rfl | rfl | rfl | rfl
  · exact ex_0 ⟨j, hj⟩
  · exact ex_1 ⟨j, hj⟩
  · exact ex_2 ⟨j, hj⟩
  · exact ex_3 ⟨j, hj⟩
  · exact ex_4 ⟨j, hj⟩
theorem some_ar {op : BinOp} {x y : Nat} (h : (floatBits op .f32 x y).isSome = true) : floatBits op .f32 x y = some (ar op .f32 x y) := by
  unfold ar
  cases e : floatBits op .f32 x y with
  | none => rw [e] at h; cases h
  | some r => rfl
/-- the operations of a term, each with its result -/
theorem ex_ops (kd j k : Nat) (hk : kd ≤ 4) (hj : j < 16) (h : k < j + 2) : ∃ x1 x2 x3 r1 r2 r3 r4 r5 : Nat,
    x1 = (if k = 0 then 0 else at0 (tl kd j).1 (k - 1)) ∧ x2 = at0 (tl kd j).1 k ∧ x3 = at0 (tl kd j).2 k ∧ r5 = at0 (tl kd (j + 1)).1 k ∧
    floatBits .mul .f32 (ra kd j) x1 = some r1 ∧ floatBits .mul .f32 (rb kd j) x2 = some r2 ∧ floatBits .add .f32 r1 r2 = some r3 ∧ floatBits .mul .f32 (rc kd j) x3 = some r4 ∧ floatBits .sub .f32 r3 r4 = some r5 := by
  have h1 := ex_all kd j hk hj
  unfold ex at h1
  rw [List.all_eq_true] at h1
  have h2 := h1 k (List.mem_range.2 h)
  unfold exk at h2
  simp only [Bool.and_eq_true] at h2
  refine ⟨_, _, _, _, _, _, _, _, rfl, rfl, rfl, ?_, some_ar h2.1, some_ar h2.2.1, some_ar h2.2.2.1, some_ar h2.2.2.2.1, some_ar h2.2.2.2.2⟩
  rw [tl_at kd j k h]
  rfl
end Go.Proofs.Ytfmdbgpalldjoab.fp
