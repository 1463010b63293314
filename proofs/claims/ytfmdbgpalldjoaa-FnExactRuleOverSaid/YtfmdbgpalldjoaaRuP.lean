/- Rules over primes: how a list goes on by a rule; the shortest rule of a list. No program is spoken of. -/
import Derived.Test.YtfmdbgpalldjoaaFnO
import Derived.Test.YtfmdbgpalldjoaaHr
namespace Go.Ru
open Go.Pl

/-- integers from 0 to prime - 1, least to 64 of them -/
def lo (A : List Int) (p : Int) (least : Nat) : Bool := isP p && (decide (least ≤ A.length ∧ A.length ≤ 64) && decide (inR 0 (p - 1) A))
theorem lo_val {A : List Int} {p : Int} {least : Nat} (h : lo A p least = true) : isP p = true ∧ (least ≤ A.length ∧ A.length ≤ 64) ∧ inR 0 (p - 1) A := by
  unfold lo at h
  simp only [Bool.and_eq_true, decide_eq_true_eq] at h
  exact ⟨h.1, h.2.1, h.2.2⟩

/-- the sum of the products of the first k of A and the last ones of L, turned around -/
def ds (A L : List Int) : Nat → Int
  | 0 => 0
  | k + 1 => ds A L k + at' A k * at' L (L.length - 1 - k)
theorem ds_zero (A L : List Int) : ds A L 0 = 0 := rfl
theorem ds_succ (A L : List Int) (k : Nat) : ds A L (k + 1) = ds A L k + at' A k * at' L (L.length - 1 - k) := rfl
theorem ds_bd {A L : List Int} {p : Int} (hp : 2 ≤ p ∧ p ≤ 13) (hA : inR 0 (p - 1) A) (hL : inR 0 (p - 1) L) : ∀ k : Nat, 0 ≤ ds A L k ∧ ds A L k ≤ 144 * (k : Int)
  | 0 => by rw [ds_zero]; omega
  | k + 1 => by
    have h := ds_bd hp hA hL k
    have h1 := hA.at (by omega) (by omega) k
    have h2 := hL.at (by omega) (by omega) (L.length - 1 - k)
    have h3 := mul_ab (A := 12) (B := 12) (a := at' A k) (b := at' L (L.length - 1 - k)) (by omega) (by omega)
    have h4 : 0 ≤ at' A k * at' L (L.length - 1 - k) := Int.mul_nonneg h1.1 h2.1
    rw [ds_succ]
    omega
theorem ds_drop (A L : List Int) {n : Nat} (hn : n ≤ L.length) : ∀ k : Nat, k ≤ n → ds A (L.drop (L.length - n)) k = ds A L k
  | 0, _ => rfl
  | k + 1, h => by
    rw [ds_succ, ds_succ, ds_drop A L hn k (by omega)]
    congr 2
    rw [List.length_drop]
    unfold at'
    rw [List.getElem?_drop]
    congr 2
    omega

/-- the list that goes on by a rule, k numbers behind the first ones -/
def fo (A F : List Int) (p : Int) : Nat → List Int
  | 0 => F
  | k + 1 => fo A F p k ++ [md (ds A (fo A F p k) A.length) p]
theorem fo_zero (A F : List Int) (p : Int) : fo A F p 0 = F := rfl
theorem fo_succ (A F : List Int) (p : Int) (k : Nat) : fo A F p (k + 1) = fo A F p k ++ [md (ds A (fo A F p k) A.length) p] := rfl
theorem fo_len (A F : List Int) (p : Int) : ∀ k : Nat, (fo A F p k).length = F.length + k
  | 0 => rfl
  | k + 1 => by rw [fo_succ, List.length_append, fo_len A F p k, List.length_singleton]; omega
theorem fo_in {A F : List Int} {p : Int} (hp : 2 ≤ p) (hF : inR 0 (p - 1) F) : ∀ k : Nat, inR 0 (p - 1) (fo A F p k)
  | 0 => hF
  | k + 1 => by
    intro z hz
    rw [fo_succ] at hz
    rcases List.mem_append.1 hz with h | h
    · exact fo_in hp hF k z h
    · rw [List.mem_singleton] at h
      have := md_range (ds A (fo A F p k) A.length) (p := p) (by omega)
      rw [h]
      omega
/-- the first k numbers -/
def gq (A F : List Int) (p : Int) (k : Nat) : List Int := (fo A F p (k - F.length)).take k
theorem gq_len (A F : List Int) (p : Int) (k : Nat) : (gq A F p k).length = k := by
  rw [gq, List.length_take, fo_len]
  omega
theorem gq_far {A F : List Int} {p : Int} {k : Nat} (h : F.length ≤ k) : gq A F p k = fo A F p (k - F.length) := by
  rw [gq, List.take_of_length_le]
  rw [fo_len]; omega
theorem gq_near {A F : List Int} {p : Int} {k : Nat} (h : k ≤ F.length) : gq A F p k = F.take k := by
  rw [gq, show k - F.length = 0 by omega, fo_zero]
theorem gq_yes {A F : List Int} {p : Int} {k : Nat} (h : k < F.length) : gq A F p (k + 1) = gq A F p k ++ [at' F k] := by
  rw [gq_near (by omega), gq_near (by omega), List.take_add_one, at_some F k h]
  rfl
theorem gq_on {A F : List Int} {p : Int} {k : Nat} (h : F.length ≤ k) : gq A F p (k + 1) = gq A F p k ++ [md (ds A (gq A F p k) A.length) p] := by
  rw [gq_far (by omega), gq_far h, show k + 1 - F.length = (k - F.length) + 1 by omega, fo_succ]
theorem gq_in {A F : List Int} {p : Int} (hp : 2 ≤ p) (hF : inR 0 (p - 1) F) (k : Nat) : inR 0 (p - 1) (gq A F p k) := fun z hz =>
  fo_in hp hF _ z (List.mem_of_mem_take hz)
theorem gq_zero (A F : List Int) (p : Int) : gq A F p 0 = [] := by
  rw [gq, List.take_zero]
end Go.Ru
