/- Over primes: which numbers are primes, remainders, wholes over a prime: both sides. -/
import Derived.Test.YtbbdhbamooaloabSt
import Derived.IntWalk
namespace Go.Pl
def isP (p : Int) : Bool := decide (p = 2 ∨ p = 3 ∨ p = 5 ∨ p = 7 ∨ p = 11 ∨ p = 13)
theorem isP_le {p : Int} (h : isP p = true) : 2 ≤ p ∧ p ≤ 13 := by
  unfold isP at h
  rw [decide_eq_true_iff] at h
  omega
/-- a whole over a prime -/
def over (L : List Int) (p : Int) : Bool := isP p && (val L && decide (inR 0 (p - 1) L))
theorem mods_range (L : List Int) {p : Int} (hp : 0 < p) : inR 0 (p - 1) (mods L p) := by
  intro z hz
  obtain ⟨x, _, rfl⟩ := List.mem_map.1 hz
  have := md_range x hp
  omega
theorem trim_le {L : List Int} (h : L ≠ []) : (trim L).length ≤ L.length := by
  rw [trim_len h]
  exact tlen_le L _
theorem mods_ne {L : List Int} {p : Int} (h : L ≠ []) : mods L p ≠ [] := by
  cases L with
  | nil => exact absurd rfl h
  | cons a b => simp [mods]
end Go.Pl
namespace Go.Proofs.Ytbbdhbamooaloab.wh
open Go.RowKit Go.Pl

theorem over_no {L : List Int} {p : Int} (h : ¬ (isP p = true ∧ val L = true ∧ inR 0 (p - 1) L)) : over L p = false := by
  unfold over
  cases h1 : isP p <;> cases h2 : val L <;> by_cases h3 : inR 0 (p - 1) L <;> simp_all
theorem over_yes {L : List Int} {p : Int} (h1 : isP p = true) (h2 : val L = true) (h3 : inR 0 (p - 1) L) : over L p = true := by
  unfold over
  simp [h1, h2, h3]

end Go.Proofs.Ytbbdhbamooaloab.wh
