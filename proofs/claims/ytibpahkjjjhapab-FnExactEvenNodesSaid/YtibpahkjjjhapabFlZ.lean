/- How numbers stand to 0 and to the greatest one. -/
import Derived.Test.YtibpahkjjjhapabLg
namespace Go.Fl
open Ieee Go.Ie

theorem order_zero (k : FloatKind) (b : Nat) : k.format.order b 0 = match k.format.read b with
    | .nan _ _ => none
    | .infinity s => some (if s then .lt else .gt)
    | .number s m _ => some (if m = 0 then .eq else if s then .lt else .gt) := by
  have hz : ∃ p, k.format.read 0 = .number false 0 p := by cases k <;> exact ⟨_, rfl⟩
  obtain ⟨p0, hz⟩ := hz
  show (k.format.read b).order (k.format.read 0) = _
  rw [hz]
  cases hd : k.format.read b with
  | nan s f => rfl
  | infinity s => cases s <;> rfl
  | number s m p =>
    show some (compare (signed s m (p - min p p0).toNat) (signed false 0 (p0 - min p p0).toNat)) = _
    have h3 : signed false 0 (p0 - min p p0).toNat = 0 := by simp [signed]
    rw [h3]
    by_cases h0 : m = 0
    · subst h0
      have : signed s 0 (p - min p p0).toNat = 0 := by cases s <;> simp [signed]
      rw [this]; simp [compare, compareOfLessAndEq]
    · show _ = some (if m = 0 then Ordering.eq else if s then Ordering.lt else Ordering.gt)
      rw [if_neg h0]
      have hpos : m <<< (p - min p p0).toNat ≠ 0 := by rw [Nat.shiftLeft_eq]; exact Nat.mul_ne_zero h0 (by have := Nat.two_pow_pos (p - min p p0).toNat; omega)
      have e1 : ∀ (s : Bool) (m k : Nat), signed s m k = if s then -((m <<< k : Nat) : Int) else ((m <<< k : Nat) : Int) := fun _ _ _ => rfl
      rw [e1]
      generalize m <<< (p - min p p0).toNat = x at *
      cases s with
      | true =>
        simp only [if_true]
        rcases cmp_cases (-(x : Int)) 0 with ⟨h, h'⟩ | ⟨h, h'⟩ | ⟨h, h'⟩
        · rw [h]
        · omega
        · omega
      | false =>
        simp only [Bool.false_eq_true, if_false]
        rcases cmp_cases (x : Int) 0 with ⟨h, h'⟩ | ⟨h, h'⟩ | ⟨h, h'⟩
        · omega
        · omega
        · rw [h]

theorem order_zero_pos {y : Nat} {L : Int} (h : Pos y L) : FloatKind.f64.format.order y 0 = some .gt := by
  obtain ⟨m, p, hd, h0, _⟩ := h
  have hd' : FloatKind.f64.format.read y = _ := hd
  rw [order_zero, hd']
  simp [h0]

/-- no number is greater than the greatest one -/
theorem max_num {y : Nat} {s : Bool} {m : Nat} {p : Int} (hd : double.read y = .number s m p) : (FloatKind.f64.format.order y 9218868437227405311 == some .gt) = false := by
  have hmax : double.read 9218868437227405311 = .number false 9007199254740991 971 := by decide
  show ((double.read y).order (double.read 9218868437227405311) == some .gt) = false
  rw [hmax, hd]
  obtain ⟨h1, h2, h3⟩ := double_bound hd
  simp only [Datum.order]
  have e : min p 971 = p := by omega
  rw [e]
  have e0 : (p - p).toNat = 0 := by omega
  rw [e0]
  have hle : signed s m 0 ≤ signed false 9007199254740991 (971 - p).toNat := by
    have h5 := signed_le (m := m) (n := 9007199254740991) (j := (971 - p).toNat) (by omega)
    have h6 : signed s m 0 ≤ signed false m 0 := by
      have e1 : ∀ (s : Bool) (m k : Nat), signed s m k = if s then -((m <<< k : Nat) : Int) else ((m <<< k : Nat) : Int) := fun _ _ _ => rfl
      rw [e1, e1]
      generalize m <<< 0 = x
      cases s
      · simp
      · simp only [if_true, Bool.false_eq_true, if_false]; omega
    omega
  have := cmp_not_gt hle
  simpa using this
theorem max_pos {y : Nat} {L : Int} (h : Pos y L) : (FloatKind.f64.format.order y 9218868437227405311 == some .gt) = false := by
  obtain ⟨m, p, hd, _⟩ := h
  exact max_num hd
theorem max_inf {y : Nat} (h : double.read y = .infinity false) : (FloatKind.f64.format.order y 9218868437227405311 == some .gt) = true := by
  have hmax : double.read 9218868437227405311 = .number false 9007199254740991 971 := by decide
  show ((double.read y).order (double.read 9218868437227405311) == some .gt) = true
  rw [hmax, h]; rfl
/-- a widened number greater than 0 -/
theorem wide_pos {b m : Nat} {p : Int} (h : single.read b = .number false m p) (h0 : m ≠ 0) : Pos (cv .f32 .f64 b) (p + m.log2) ∧ -149 ≤ p + m.log2 ∧ p + m.log2 ≤ 127 := by
  obtain ⟨h1, h2, h3⟩ := single_bound h
  have hl := log2_lt (k := 24) h0 (by omega)
  have e1 : double.fractionBits = 52 := rfl
  have hx := write_exact double (s := false) (m := m) (p := p) h0 (by rw [e1]; omega)
    (by have : double.leastPlace = -1074 := by decide
        rw [e1]; omega)
    (by have h4 : double.leastPlace = -1074 := by decide
        have h5 : ((2 ^ double.exponentBits - 1 : Nat) : Int) = 2047 := by decide
        rw [e1]; omega)
  rw [e1, ← wide_num h] at hx
  refine ⟨⟨_, _, hx, ?_, ?_⟩, by omega, by omega⟩
  · rw [Nat.shiftLeft_eq]; exact Nat.mul_ne_zero h0 (by have := Nat.two_pow_pos (52 - m.log2); omega)
  · rw [log2_shl h0]; omega
theorem wide_neg {b m : Nat} {p : Int} (h : single.read b = .number true m p) (h0 : m ≠ 0) : ∃ m' p', double.read (cv .f32 .f64 b) = .number true m' p' ∧ m' ≠ 0 := by
  obtain ⟨h1, h2, h3⟩ := single_bound h
  have hl := log2_lt (k := 24) h0 (by omega)
  have e1 : double.fractionBits = 52 := rfl
  have hx := write_exact double (s := true) (m := m) (p := p) h0 (by rw [e1]; omega)
    (by have : double.leastPlace = -1074 := by decide
        rw [e1]; omega)
    (by have h4 : double.leastPlace = -1074 := by decide
        have h5 : ((2 ^ double.exponentBits - 1 : Nat) : Int) = 2047 := by decide
        rw [e1]; omega)
  rw [e1, ← wide_num h] at hx
  exact ⟨_, _, hx, by rw [Nat.shiftLeft_eq]; exact Nat.mul_ne_zero h0 (by have := Nat.two_pow_pos (52 - m.log2); omega)⟩
theorem wide_zero {b : Nat} {s : Bool} {p : Int} (h : single.read b = .number s 0 p) : ∃ p', double.read (cv .f32 .f64 b) = .number s 0 p' := by
  rw [wide_num h]
  show ∃ p', double.read (double.nearest s 0 p) = _
  have : double.nearest s 0 p = double.word s 0 := rfl
  rw [this]
  cases s <;> exact ⟨_, rfl⟩
end Go.Fl
