/- Numbers stay numbers: bounds without not-a-numbers; halves, doubles and integers are exact. -/
import Derived.Test.YtibpahkjjjhapabFlD
namespace Go.Fl
open Ieee Go.Ie

/-- a number, at most 2 ^ E -/
def Nm (b : Nat) (E : Int) : Prop := Le (double.read b) E
/-- a number, at least 2 ^ E -/
def Ng (b : Nat) (E : Int) : Prop := Ge (double.read b) E

theorem Nm.mono {b : Nat} {E F : Int} (h : Nm b E) (hE : E ≤ F) : Nm b F := Le.mono h hE
theorem Nm.isN {b : Nat} {E : Int} (h : Nm b E) : isN .f64 b = false := by
  obtain ⟨s, m, p, hd, _⟩ := h
  show (double.read b).isNaN = false
  rw [hd]; rfl
theorem Nm.eq {r c : Nat} {E : Int} (h : Nm c E) (hs : Sm .f64 r c) : r = c := (hs.symm.eq_of_not h.isN).symm
theorem Nm.ok {b : Nat} {E : Int} (h : Nm b E) : Ok b E := .inr h

theorem nm_mul {x y : Nat} {A B E : Int} (hx : Nm x A) (hy : Nm y B) (h : A + B ≤ E) (hlo : -1021 ≤ E) (hhi : E ≤ 1022) : Nm (ar .mul .f64 x y) E := by
  obtain ⟨r, hr, hL⟩ := product_Le hx hy
  have e : floatBits .mul .f64 x y = some (double.write r) := by
    show double.mul x y = _
    unfold Format.mul
    rw [hr]; rfl
  unfold ar
  rw [e]
  exact d_write_Le (hL.mono h) hlo hhi
theorem nm_add {x y : Nat} {A E : Int} (hx : Nm x A) (hy : Nm y A) (h : A + 1 ≤ E) (hlo : -1021 ≤ E) (hhi : E ≤ 1022) : Nm (ar .add .f64 x y) E := by
  obtain ⟨r, hr, hL⟩ := sum_Le hx hy
  have e : floatBits .add .f64 x y = some (double.write r) := by
    show double.add x y = _
    unfold Format.add
    rw [hr]; rfl
  unfold ar
  rw [e]
  exact d_write_Le (hL.mono h) hlo hhi
theorem nm_sub {x y : Nat} {A E : Int} (hx : Nm x A) (hy : Nm y A) (h : A + 1 ≤ E) (hlo : -1021 ≤ E) (hhi : E ≤ 1022) : Nm (ar .sub .f64 x y) E := by
  obtain ⟨r, hr, hL⟩ := sum_Le hx (opposite_Le hy)
  have e : floatBits .sub .f64 x y = some (double.write r) := by
    show double.sub x y = _
    unfold Format.sub
    rw [hr]; rfl
  unfold ar
  rw [e]
  exact d_write_Le (hL.mono h) hlo hhi
theorem nm_div {x y : Nat} {A B E : Int} (hx : Nm x A) (hy : Ng y B) (h : A - B ≤ E) (hlo : -1021 ≤ E) (hhi : E ≤ 1022) : Nm (ar .quo .f64 x y) E := by
  obtain ⟨r, hr, hL⟩ := quotient_Le (digits := double.fractionBits + 2) hx hy
  have e : floatBits .quo .f64 x y = some (double.write r) := by
    show double.div x y = _
    unfold Format.div
    rw [hr]; rfl
  unfold ar
  rw [e]
  exact d_write_Le (hL.mono h) hlo hhi
theorem nm_const {b : Nat} {s : Bool} {m : Nat} {p : Int} (E : Int) (h : double.read b = .number s m p) (hp : p ≤ E) (hm : m ≤ 2 ^ (E - p).toNat) : Nm b E :=
  ⟨s, m, p, h, .inr ⟨hp, hm⟩⟩
theorem ng_const {b : Nat} {s : Bool} {m : Nat} {p : Int} (E : Int) (h : double.read b = .number s m p) (h0 : m ≠ 0) (hE : E ≤ (m.log2 : Int) + p) : Ng b E :=
  ⟨s, m, p, h, h0, hE⟩

/-- a difference of two numbers that are not negative -/
theorem nm_sub_opp {x y : Nat} {E : Int} {s : Bool} {m n : Nat} {i j : Int} (hdx : double.read x = .number s m i) (hdy : double.read y = .number s n j) (hx : Nm x E) (hy : Nm y E) (hlo : -1021 ≤ E) (hhi : E ≤ 1022) : Nm (ar .sub .f64 x y) E := by
  have hx' : Le (double.read x) E := hx
  have hy' : Le (double.read y) E := hy
  rw [hdx] at hx'
  rw [hdy] at hy'
  obtain ⟨r, hr, hL⟩ := sum_opp (s := s) (t := !s) (by cases s <;> decide) hx' (opposite_Le hy')
  have e : floatBits .sub .f64 x y = some (double.write r) := by
    show double.sub x y = _
    unfold Format.sub
    rw [hdx, hdy]
    show Option.map double.write ((Datum.number s m i).sum (Datum.number (!s) n j)) = _
    rw [hr]; rfl
  unfold ar
  rw [e]
  exact d_write_Le hL hlo hhi
/-- a sum of numbers of opposite signs -/
theorem nm_add_opp {x y : Nat} {E : Int} {s t : Bool} {m n : Nat} {i j : Int} (hst : s ≠ t) (hdx : double.read x = .number s m i) (hdy : double.read y = .number t n j) (hx : Nm x E) (hy : Nm y E) (hlo : -1021 ≤ E) (hhi : E ≤ 1022) : Nm (ar .add .f64 x y) E := by
  have hx' : Le (double.read x) E := hx
  have hy' : Le (double.read y) E := hy
  rw [hdx] at hx'
  rw [hdy] at hy'
  obtain ⟨r, hr, hL⟩ := sum_opp hst hx' hy'
  have e : floatBits .add .f64 x y = some (double.write r) := by
    show double.add x y = _
    unfold Format.add
    rw [hdx, hdy, hr]; rfl
  unfold ar
  rw [e]
  exact d_write_Le hL hlo hhi
/-- a sum of numbers of one sign is at least the second one, or too great -/
theorem ng_add {x y : Nat} {B E : Int} {s : Bool} {m n : Nat} {i j : Int} (hdx : double.read x = .number s m i) (hdy : double.read y = .number s n j) (hy : Ng y B) (hx2 : Nm x E) (hy2 : Nm y E) (hB : -1022 ≤ B) (hE : E ≤ 1020) (hE0 : -1021 ≤ E) : Ng (ar .add .f64 x y) B := by
  have hy' : Ge (double.read y) B := hy
  rw [hdy] at hy'
  obtain ⟨r, hr, hG, _⟩ := sum_same_Ge (m := m) (i := i) hy'
  have e : floatBits .add .f64 x y = some (double.write r) := by
    show double.add x y = _
    unfold Format.add
    rw [hdx, hdy, hr]; rfl
  have hN := nm_add hx2 hy2 (E := E + 1) (by omega) (by omega) (by omega)
  unfold ar at hN ⊢
  rw [e] at hN ⊢
  rcases d_write_Ge hG hB with h | ⟨s', h⟩
  · exact h
  · obtain ⟨_, _, _, h2, _⟩ := hN
    have h2' : double.read (double.write r) = _ := h2
    rw [h] at h2'
    cases h2'

/- EXACTLY -/
theorem d_exact_shift {s : Bool} {m k : Nat} {p : Int} (h0 : m ≠ 0) (hm : m.log2 ≤ 52) (hlo : -1022 ≤ p + m.log2) (hhi : p + m.log2 ≤ 1023) :
    double.read (double.write (.number s (m <<< k) (p - k))) = .number s (m <<< (52 - m.log2)) (p + m.log2 - 52) := by
  have e1 : double.fractionBits = 52 := rfl
  have := write_exact_shift double (s := s) (m := m) (k := k) (p := p) h0 (by rw [e1]; omega)
    (by have : double.leastPlace = -1074 := by decide
        rw [e1]; omega)
    (by have h4 : double.leastPlace = -1074 := by decide
        have h5 : ((2 ^ double.exponentBits - 1 : Nat) : Int) = 2047 := by decide
        rw [e1]; omega)
  rw [e1] at this
  exact this

theorem double_log2 {b : Nat} {s : Bool} {m : Nat} {p : Int} (h : double.read b = .number s m p) (h0 : m ≠ 0) : m.log2 ≤ 52 := by
  have := log2_lt (k := 53) h0 (double_bound h).1
  omega

/-- an integer, as a 64-bit number -/
theorem int_exact (n : Int) (h0 : n ≠ 0) (hn : n.natAbs < 9007199254740992) : double.read (floatOfInt .f64 n) = .number (decide (n < 0)) (n.natAbs <<< (52 - n.natAbs.log2)) (n.natAbs.log2 - 52) := by
  have hl := log2_lt (k := 53) (show n.natAbs ≠ 0 by omega) hn
  have := d_exact_shift (s := decide (n < 0)) (m := n.natAbs) (k := 0) (p := 0) (by omega) (by omega) (by omega) (by omega)
  have e : n.natAbs <<< 0 = n.natAbs := Nat.shiftLeft_zero
  rw [e] at this
  have e2 : (0 : Int) - ((0 : Nat) : Int) = 0 := by omega
  rw [e2] at this
  have e3 : (0 : Int) + (n.natAbs.log2 : Int) - 52 = n.natAbs.log2 - 52 := by omega
  rw [e3] at this
  exact this
theorem nm_int {n : Int} {E : Int} (h : n.natAbs ≤ 2 ^ E.toNat) (h0 : 0 ≤ E) (hE : E ≤ 1022) : Nm (floatOfInt .f64 n) E := by
  have h1 : Le (Datum.number (decide (n < 0)) n.natAbs 0) E := ⟨_, _, _, rfl, .inr ⟨h0, by simpa using h⟩⟩
  exact d_write_Le h1 (by omega) hE
theorem ng_int {n : Int} (h : 1 ≤ n) (hn : n < 9007199254740992) : Ng (floatOfInt .f64 n) 0 := by
  have h1 := int_exact n (by omega) (by omega)
  refine ⟨_, _, _, h1, ?_, ?_⟩
  · rw [Nat.shiftLeft_eq]; exact Nat.mul_ne_zero (by omega) (by have := Nat.two_pow_pos (52 - n.natAbs.log2); omega)
  · rw [log2_shl (by omega)]
    have := log2_lt (k := 53) (show n.natAbs ≠ 0 by omega) (by omega)
    omega

/-- HALVES -/
theorem half_exact {y : Nat} {s : Bool} {m : Nat} {p : Int} (h : double.read y = .number s m p) (h0 : m ≠ 0) (hlo : -1021 ≤ p + m.log2) (hhi : p + m.log2 ≤ 1023) :
    floatBits .quo .f64 y 4611686018427387904 = some (ar .quo .f64 y 4611686018427387904) ∧ double.read (ar .quo .f64 y 4611686018427387904) = .number s (m <<< (52 - m.log2)) (p - 1 + m.log2 - 52) := by
  have h2 : double.read 4611686018427387904 = .number false 4503599627370496 (-51) := by decide
  have hl := double_log2 h h0
  have hlogn : (4503599627370496 : Nat).log2 = 52 := by decide
  have e : floatBits .quo .f64 y 4611686018427387904 = some (double.write (.number s (m <<< (55 - m.log2)) (p - 1 - ((55 - m.log2 : Nat) : Int)))) := by
    show double.div y 4611686018427387904 = _
    unfold Format.div
    rw [h, h2]
    have e1 : (double.fractionBits + 2 + (4503599627370496 : Nat).log2 - m.log2) = 106 - m.log2 := by rw [hlogn]; rfl
    have e2 : m <<< (106 - m.log2) = m <<< (54 - m.log2) * 4503599627370496 := by
      rw [Nat.shiftLeft_eq, Nat.shiftLeft_eq, Nat.mul_assoc]
      have : (4503599627370496 : Nat) = 2 ^ 52 := by decide
      rw [this, ← Nat.pow_add]
      congr 2
      omega
    have e3 : m <<< (106 - m.log2) / 4503599627370496 = m <<< (54 - m.log2) := by rw [e2]; exact Nat.mul_div_cancel _ (by decide)
    have e4 : m <<< (106 - m.log2) % 4503599627370496 = 0 := by rw [e2]; exact Nat.mul_mod_left _ _
    have e5 : 2 * m <<< (54 - m.log2) = m <<< (55 - m.log2) := by
      rw [Nat.shiftLeft_eq, Nat.shiftLeft_eq]
      have : 55 - m.log2 = (54 - m.log2) + 1 := by omega
      rw [this, Nat.pow_succ]
      generalize 2 ^ (54 - m.log2) = z
      rw [Nat.mul_comm z 2, ← Nat.mul_assoc, ← Nat.mul_assoc, Nat.mul_comm 2 m]
    have hq : (Datum.number s m p).quotient (double.fractionBits + 2) (Datum.number false 4503599627370496 (-51)) = some (.number s (m <<< (55 - m.log2)) (p - 1 - ((55 - m.log2 : Nat) : Int))) := by
      unfold Datum.quotient
      dsimp only
      rw [if_neg (by decide), e1, e3, e4]
      have e6 : ((0 : Nat) != 0).toNat = 0 := by decide
      rw [e6, Nat.add_zero, e5]
      have e7 : (s ^^ false) = s := by cases s <;> rfl
      rw [e7]
      have e8 : p - -51 - ((106 - m.log2 : Nat) : Int) - 1 = p - 1 - ((55 - m.log2 : Nat) : Int) := by omega
      rw [e8]
    rw [hq]; rfl
  refine ⟨by unfold ar; rw [e, Option.getD_some], ?_⟩
  unfold ar
  rw [e, Option.getD_some]
  have := d_exact_shift (s := s) (k := 55 - m.log2) (p := p - 1) h0 hl (by omega) (by omega)
  exact this
/-- DOUBLES -/
theorem double_exact {y : Nat} {s : Bool} {m : Nat} {p : Int} (h : double.read y = .number s m p) (h0 : m ≠ 0) (hlo : -1023 ≤ p + m.log2) (hhi : p + m.log2 ≤ 1022) :
    floatBits .mul .f64 y 4611686018427387904 = some (ar .mul .f64 y 4611686018427387904) ∧ double.read (ar .mul .f64 y 4611686018427387904) = .number s (m <<< (52 - m.log2)) (p + 1 + m.log2 - 52) := by
  have h2 : double.read 4611686018427387904 = .number false 4503599627370496 (-51) := by decide
  have hl := double_log2 h h0
  have e : floatBits .mul .f64 y 4611686018427387904 = some (double.write (.number s (m <<< 52) (p + 1 - ((52 : Nat) : Int)))) := by
    show double.mul y 4611686018427387904 = _
    unfold Format.mul
    rw [h, h2]
    have e1 : m * 4503599627370496 = m <<< 52 := by rw [Nat.shiftLeft_eq]
    have e2 : p + -51 = p + 1 - ((52 : Nat) : Int) := by omega
    have e7 : (s ^^ false) = s := by cases s <;> rfl
    have hq : (Datum.number s m p).product (Datum.number false 4503599627370496 (-51)) = some (.number s (m <<< 52) (p + 1 - ((52 : Nat) : Int))) := by
      unfold Datum.product
      dsimp only
      rw [e1, e2, e7]
    rw [hq]; rfl
  refine ⟨by unfold ar; rw [e, Option.getD_some], ?_⟩
  unfold ar
  rw [e, Option.getD_some]
  exact d_exact_shift (s := s) (k := 52) (p := p + 1) h0 hl (by omega) (by omega)
end Go.Fl
