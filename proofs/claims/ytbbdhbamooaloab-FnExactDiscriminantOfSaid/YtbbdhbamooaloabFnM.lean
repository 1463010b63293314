/- Products over primes: the program's half; what a whole over a prime gives. -/
import Derived.Test.YtbbdhbamooaloabFnO
import Derived.Test.YtbbdhbamooaloabFnP
namespace Go.Pl
theorem over_val {L : List Int} {p : Int} (h : over L p = true) : isP p = true ∧ Val L ∧ inR 0 (p - 1) L := by
  unfold over at h
  simp only [Bool.and_eq_true, decide_eq_true_eq] at h
  exact ⟨h.1, val_iff.1 h.2.1, h.2.2⟩
theorem over_bd {a b : List Int} {p : Int} (ha : inR 0 (p - 1) a) (hb : inR 0 (p - 1) b) (hp : 2 ≤ p ∧ p ≤ 13) (i k : Nat) : -1000000000000 ≤ at' a i * at' b k ∧ at' a i * at' b k ≤ 1000000000000 := by
  have := mul_le (A := 12) (B := 12) (by have := ha.at (by omega) (by omega) i; omega) (by have := hb.at (by omega) (by omega) k; omega) (a := at' a i) (b := at' b k)
  omega
end Go.Pl
namespace Go.Proofs.Ytbbdhbamooaloab.wh
open Go.RowKit Go.Pl

end Go.Proofs.Ytbbdhbamooaloab.wh
