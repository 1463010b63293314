/- The absolute value, and what is greater than all 64-bit numbers. -/
import Derived.Test.YtfmdbgpalldjoabFlB
import Derived.Laws.BitsAllLaws
import Derived.Laws.BitsLemmas
namespace Go.Fl
open Ieee Go.Ie

/-- the bits of the absolute value -/
def absN (b : Nat) : Nat := b % 9223372036854775808

theorem abs_bits (b : Nat) (hb : b < 18446744073709551616) : bits .andNot .u64 (b : Int) 9223372036854775808 = ((absN b : Nat) : Int) := by
  have h := u64_andNot_nat b 9223372036854775808 hb (by omega)
  have e : (18446744073709551615 - 9223372036854775808 : Nat) = 2 ^ 63 - 1 := by decide
  rw [e, Nat.and_two_pow_sub_one_eq_mod] at h
  exact h

/-- a datum without its sign -/
def absD : Datum → Datum
  | .number _ m p => .number false m p
  | .infinity _ => .infinity false
  | .nan _ f => .nan false f

theorem read_abs (b : Nat) : double.read (absN b) = absD (double.read b) := by
  have hs : double.signWeight = 9223372036854775808 := by decide
  have e1 : absN b / 9223372036854775808 % 2 = 0 := by unfold absN; omega
  have e2 : absN b % 9223372036854775808 = b % 9223372036854775808 := by unfold absN; omega
  unfold Format.read
  simp only [hs, e1, e2]
  split
  · rfl
  · split
    · rfl
    · split <;> rfl

theorem abs_isN (b : Nat) : isN .f64 (absN b) = isN .f64 b := by
  show (double.read _).isNaN = (double.read _).isNaN
  rw [read_abs]
  cases double.read b <;> rfl

/-- is an infinity -/
def infB (b : Nat) : Bool := (double.read b).isInfinity

theorem double_bound {b : Nat} {s : Bool} {m : Nat} {p : Int} (h : double.read b = .number s m p) : m < 9007199254740992 ∧ -1074 ≤ p ∧ p ≤ 971 := by
  have hs : double.signWeight = 9223372036854775808 := by decide
  have hb : double.binade = 4503599627370496 := by decide
  have hi : double.infRung = 9218868437227405312 := by decide
  have hl : double.leastPlace = -1074 := by decide
  unfold Format.read at h
  simp only [hs, hb, hi, hl] at h
  split at h
  · cases h; omega
  · split at h
    · cases h; omega
    · split at h <;> cases h

theorem cmp_not_gt {a b : Int} (h : a ≤ b) : compare a b ≠ .gt := by
  unfold compare instOrdInt compareOfLessAndEq
  dsimp only
  split
  · simp
  · split
    · simp
    · omega
theorem signed_le {m n j : Nat} (h : m ≤ n) : signed false m 0 ≤ signed false n j := by
  show ((m <<< 0 : Nat) : Int) ≤ ((n <<< j : Nat) : Int)
  rw [Nat.shiftLeft_zero, Nat.shiftLeft_eq]
  have : n * 1 ≤ n * 2 ^ j := Nat.mul_le_mul_left _ (Nat.two_pow_pos j)
  omega

/-- the greatest 64-bit number -/
theorem gt_max (b : Nat) : (FloatKind.f64.format.order (absN b) 9218868437227405311 == some .gt) = infB b := by
  have hmax : double.read 9218868437227405311 = .number false 9007199254740991 971 := by decide
  have hr := read_abs b
  show ((double.read (absN b)).order (double.read 9218868437227405311) == some .gt) = infB b
  rw [hmax, hr]
  unfold infB
  cases hd : double.read b with
  | nan s f => rfl
  | infinity s => rfl
  | number s m p =>
    obtain ⟨h1, h2, h3⟩ := double_bound hd
    simp only [absD, Datum.order, Datum.isInfinity]
    have e : min p 971 = p := by omega
    rw [e]
    have e0 : (p - p).toNat = 0 := by omega
    rw [e0]
    have := cmp_not_gt (signed_le (m := m) (n := 9007199254740991) (j := (971 - p).toNat) (by omega))
    simpa using this
end Go.Fl
