/- The terms of families' polynomials: all are finite, the highest is not 0. By the kernel. -/
import Derived.Test.YtfmdbgpalldjoabFpP
import Derived.Test.YtfmdbgpalldjoabFaF
namespace Go.Proofs.Ytfmdbgpalldjoab.fp
open Go Go.Fl Go.Fa Go.Fp Go.Proofs.Ytfmdbgpalldjoab.fin
/-- is 0 -/
def isz (b : Nat) : Bool := FloatKind.f32.format.order b 0 == some .eq
def fp (kd n : Nat) : Bool := (tl kd n).1.all fin && !isz (at0 (tl kd n).1 n)
set_option maxRecDepth 1000000
theorem fp_0 : ∀ n : Fin 17, fp 0 n.1 = true := by decide +kernel
theorem fp_1 : ∀ n : Fin 17, fp 1 n.1 = true := by decide +kernel
theorem fp_2 : ∀ n : Fin 17, fp 2 n.1 = true := by decide +kernel
theorem fp_3 : ∀ n : Fin 17, fp 3 n.1 = true := by decide +kernel
theorem fp_4 : ∀ n : Fin 17, fp 4 n.1 = true := by decide +kernel
theorem fp_all (kd n : Nat) (hk : kd ≤ 4) (hn : n ≤ 16) : fp kd n = true := by
  rcases (show kd = 0 ∨ kd = 1 ∨ kd = 2 ∨ kd = 3 ∨ kd = 4 by omega) with rfl | rfl | rfl | rfl | rfl
  · exact fp_0 ⟨n, by omega⟩
  · exact fp_1 ⟨n, by omega⟩
  · exact fp_2 ⟨n, by omega⟩
  · exact fp_3 ⟨n, by omega⟩
  · exact fp_4 ⟨n, by omega⟩
theorem tl_fin (kd n : Nat) (hk : kd ≤ 4) (hn : n ≤ 16) (k : Nat) (h : k < n + 1) : fin (at0 (tl kd n).1 k) = true := by
  have h1 := fp_all kd n hk hn
  unfold fp at h1
  rw [Bool.and_eq_true, List.all_eq_true] at h1
  have hl := (tl_len kd n).1
  unfold at0
  rw [List.getElem?_eq_getElem (by omega)]
  exact h1.1 _ (List.getElem_mem _)
theorem tl_top (kd n : Nat) (hk : kd ≤ 4) (hn : n ≤ 16) : isz (at0 (tl kd n).1 n) = false := by
  have h1 := fp_all kd n hk hn
  unfold fp at h1
  rw [Bool.and_eq_true] at h1
  simpa using h1.2
/-- what is finite is no not-a-number: the same is equal -/
theorem sm_fin {a b : Nat} (h : Sm .f32 a b) (hb : fin b = true) : a = b := by
  rcases h with h | ⟨_, h⟩
  · exact h
  · obtain ⟨s, m, p, e⟩ := (fin_iff b).1 hb
    have h' : (Ieee.single.read b).isNaN = true := h
    rw [e] at h'
    cases h'
end Go.Proofs.Ytfmdbgpalldjoab.fp
