/- The greatest integer that is not greater, and the integer of a 64-bit number. -/
import Derived.Test.YtibpahkjjjhapabFlE
namespace Go.Fl
open Ieee Go.Ie

/-- the bits of the greatest integer that is not greater -/
def flo (x : Nat) : Nat := double.write ((double.read x).integral .down)
/-- the integer, the places behind the point cut off -/
def trunc (x : Nat) : Int := ((double.read x).toInt .zero).getD 0

theorem toNat_le (b : Bool) : b.toNat ≤ 1 := by cases b <;> decide
theorem cut_bound (way : Toward) (s : Bool) {m : Nat} {p E : Int} (hE : 0 ≤ E) (h : m = 0 ∨ p ≤ E ∧ m ≤ 2 ^ (E - p).toNat) : way.cut s (m <<< p.toNat) (-p).toNat ≤ 2 ^ E.toNat + 1 := by
  have hlow : (m <<< p.toNat) / (1 <<< min (-p).toNat ((m <<< p.toNat).log2 + 2)) ≤ 2 ^ E.toNat := by
    rw [Nat.shiftLeft_eq 1, Nat.one_mul]
    rcases h with h | ⟨h1, h2⟩
    · subst h; simp
    · by_cases hp : 0 ≤ p
      · have e : (-p).toNat = 0 := by omega
        rw [e, Nat.zero_min, Nat.pow_zero, Nat.div_one, Nat.shiftLeft_eq]
        refine Nat.le_trans (Nat.mul_le_mul_right _ h2) ?_
        rw [← Nat.pow_add]
        exact Nat.pow_le_pow_right (by omega) (by omega)
      · have e : p.toNat = 0 := by omega
        rw [e, Nat.shiftLeft_zero]
        by_cases hmin : (-p).toNat ≤ m.log2 + 2
        · rw [Nat.min_eq_left hmin]
          refine Nat.div_le_of_le_mul ?_
          rw [← Nat.pow_add]
          exact Nat.le_trans h2 (Nat.pow_le_pow_right (by omega) (by omega))
        · rw [Nat.min_eq_right (by omega), Nat.div_eq_of_lt (Nat.lt_of_lt_of_le (self_lt m) (Nat.pow_le_pow_right (by omega) (by omega)))]
          exact Nat.zero_le _
  unfold Toward.cut
  dsimp only
  refine Nat.add_le_add hlow ?_
  exact toNat_le _

theorem nm_flo {x : Nat} {E : Int} (h : Nm x E) (h0 : 0 ≤ E) (h1 : E ≤ 1000) : Nm (flo x) (E + 1) := by
  obtain ⟨s, m, p, hd, hm⟩ := h
  unfold flo
  rw [hd]
  refine d_write_Le ⟨s, _, 0, rfl, .inr ⟨by omega, Nat.le_trans (cut_bound .down s h0 hm) ?_⟩⟩ (by omega) (by omega)
  have e : (E + 1 - 0).toNat = E.toNat + 1 := by omega
  rw [e, Nat.pow_succ]
  have := Nat.two_pow_pos E.toNat
  omega

theorem trunc_is {x : Nat} {E : Int} (h : Nm x E) (h0 : 0 ≤ E) : (FloatKind.f64.decode x).toInt .zero = some (trunc x) ∧ (trunc x).natAbs ≤ 2 ^ E.toNat + 1 := by
  obtain ⟨s, m, p, hd, hm⟩ := h
  have hd' : FloatKind.f64.decode x = .number s m p := hd
  have e : (Datum.number s m p).toInt .zero = some (signed s (Toward.zero.cut s (m <<< p.toNat) (-p).toNat) 0) := rfl
  unfold trunc
  rw [hd', hd, e]
  refine ⟨rfl, ?_⟩
  rw [Option.getD_some, signed_abs, Nat.shiftLeft_zero]
  exact cut_bound .zero s h0 hm

theorem to_int {P : Program} {x : Nat} {E : Int} (h : Nm x E) (h0 : 0 ≤ E) (h1 : E ≤ 61) (src dst : TypeId) (hs : (P.underlying src).isSome = true) (hd : P.underlying dst = some (.int .i64)) (w : World) :
    (convert src dst (.float .f64 x)).run P w = .ok (.int .i64 (trunc x)) w := by
  obtain ⟨e, hb⟩ := trunc_is h h0
  refine run_convert_float_int w src dst .f64 .i64 x (trunc x) hs hd ?_
  unfold floatToIntVal
  rw [e]
  have hp : 2 ^ E.toNat ≤ 2 ^ 61 := Nat.pow_le_pow_right (by omega) (by omega)
  have h2 : IntKind.i64.min = -9223372036854775808 := by decide
  have h3 : IntKind.i64.max = 9223372036854775807 := by decide
  have h4 : (2 : Nat) ^ 61 = 2305843009213693952 := by decide
  simp only [h2, h3]
  rw [if_pos ⟨by omega, by omega⟩]
end Go.Fl
