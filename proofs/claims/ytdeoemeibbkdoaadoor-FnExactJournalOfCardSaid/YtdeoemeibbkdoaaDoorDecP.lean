/- Decimal digits, one after another, the last one first. -/
import Derived.Lib.ItoaNum
namespace Go.Dec
open Go.Lib

theorem digits_step {u : Nat} (h : ¬ u < 10) : decDigits u = decDigits (u / 10) ++ [UInt8.ofNat (48 + u % 10)] := by
  rw [decDigits, dif_neg h]
theorem digits_small {u : Nat} (h : u < 10) : decDigits u = [UInt8.ofNat (48 + u)] := by
  rw [decDigits, dif_pos h]

/-- what is gathered, and what is left -/
def Inv (n r : Nat) (acc : List UInt8) : Prop := (r ≠ 0 ∨ acc = [] → decDigits n = decDigits r ++ acc) ∧ (r = 0 → acc ≠ [] → decDigits n = acc)

theorem inv_start (n : Nat) : Inv n n [] := ⟨fun _ => by simp, fun _ h => absurd rfl h⟩
theorem inv_step {n r : Nat} {acc : List UInt8} (h : Inv n r acc) (hg : r ≠ 0 ∨ acc = []) : Inv n (r / 10) (UInt8.ofNat (48 + r % 10) :: acc) := by
  have h1 := h.1 hg
  by_cases hr : r < 10
  · have e : r / 10 = 0 := Nat.div_eq_of_lt hr
    have e2 : r % 10 = r := Nat.mod_eq_of_lt hr
    rw [digits_small hr] at h1
    rw [e, e2]
    refine ⟨fun h => ?_, fun _ _ => by rw [h1]; rfl⟩
    rcases h with h | h
    · exact absurd rfl h
    · cases h
  · rw [digits_step hr] at h1
    refine ⟨fun _ => by rw [h1, List.append_assoc]; rfl, fun h => ?_⟩
    have := (Nat.div_eq_zero_iff.1 h)
    omega

theorem short {n k : Nat} (h : n / 10 ^ k ≠ 0) (hn : n ≤ 9223372036854775808) : k ≤ 18 := by
  refine Classical.byContradiction fun hk => h ?_
  refine Nat.div_eq_of_lt (Nat.lt_of_le_of_lt hn ?_)
  have : 10 ^ 19 ≤ 10 ^ k := Nat.pow_le_pow_right (by omega) (by omega)
  have e : (10 : Nat) ^ 19 = 10000000000000000000 := by decide
  omega
theorem next (n k : Nat) : n / 10 ^ k / 10 = n / 10 ^ (k + 1) := by
  rw [Nat.div_div_eq_div_mul, Nat.pow_succ]

def lenV : Value → Nat
  | .slice _ n _ => n
  | _ => 0

/-- digits as bytes -/
def bv (b : UInt8) : Value := .int .u8 (b.toNat : Int)
theorem digit_byte {d : Nat} (h : d < 10) : ((UInt8.ofNat (48 + d)).toNat : Int) = 48 + d := by
  simp only [UInt8.toNat_ofNat']
  omega
end Go.Dec
