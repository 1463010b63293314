/- More on floats, without a program: comparisons with itself, with 0, what is finite, widening and narrowing. -/
import Derived.Test.YtfmdbgpalldjoabFl
import Derived.Test.YtfmdbgpalldjoabIe
namespace Go.Fl
open Ieee Go.Ie

theorem read_not_nan {k : FloatKind} {b : Nat} (h : isN k b = false) : (∃ s m p, k.format.read b = .number s m p) ∨ ∃ s, k.format.read b = .infinity s := by
  have h' : (k.format.read b).isNaN = false := h
  cases hd : k.format.read b with
  | number s m p => exact .inl ⟨s, m, p, rfl⟩
  | infinity s => exact .inr ⟨s, rfl⟩
  | nan s f => rw [hd] at h'; cases h'

theorem order_self_d (d : Datum) : d.order d = if d.isNaN then none else some .eq := by
  cases d with
  | number s m p => simp [Datum.order, Datum.isNaN, compare, compareOfLessAndEq]
  | infinity s => simp [Datum.order, Datum.isNaN, compare, compareOfLessAndEq]
  | nan s f => simp [Datum.order, Datum.isNaN]

theorem order_self (k : FloatKind) (b : Nat) : k.format.order b b = if isN k b then none else some .eq := order_self_d _

theorem order_self_nan {k : FloatKind} {b : Nat} (h : isN k b = true) : k.format.order b b = none := by rw [order_self, if_pos h]
theorem order_self_num {k : FloatKind} {b : Nat} (h : isN k b = false) : k.format.order b b = some .eq := by rw [order_self, h]; rfl

theorem cmp_eq {a b : Int} (h : compare a b = .eq) : a = b := by
  unfold compare instOrdInt compareOfLessAndEq at h
  dsimp only at h
  split at h
  · cases h
  · split at h
    · assumption
    · cases h
theorem signed_zero {s : Bool} {m k : Nat} (h : signed s m k = 0) : m = 0 := by
  have h1 := signed_abs s m k
  rw [h] at h1
  have h2 : m * 2 ^ k = 0 := by rw [← Nat.shiftLeft_eq]; exact h1.symm
  rcases Nat.mul_eq_zero.1 h2 with h2 | h2
  · exact h2
  · have := Nat.two_pow_pos k; omega

/-- what compares equal to +0 is a zero -/
theorem zero_of_order {k : FloatKind} {a : Nat} (h : k.format.order a 0 = some .eq) : ∃ s p, k.format.read a = .number s 0 p := by
  have hz : ∃ p, k.format.read 0 = .number false 0 p := by cases k <;> exact ⟨_, rfl⟩
  obtain ⟨p0, hz⟩ := hz
  have h' : (k.format.read a).order (k.format.read 0) = some .eq := h
  rw [hz] at h'
  cases hd : k.format.read a with
  | nan s f => rw [hd] at h'; cases h'
  | infinity s => rw [hd] at h'; cases s <;> cases h'
  | number s m p =>
    rw [hd] at h'
    simp only [Datum.order, Option.some.injEq] at h'
    have h2 := cmp_eq h'
    have h3 : signed false 0 (p0 - min p p0).toNat = 0 := by simp [signed]
    rw [h3] at h2
    obtain rfl := signed_zero h2
    exact ⟨s, p, rfl⟩

/-- 1 divided by a zero is told -/
theorem one_over_zero {a : Nat} (h : FloatKind.f64.format.order a 0 = some .eq) : ∃ r, floatBits .quo .f64 4607182418800017408 a = some r := by
  obtain ⟨s, p, hd⟩ := zero_of_order h
  have h1 : FloatKind.f64.format.read 4607182418800017408 = .number false 4503599627370496 (-52) := by decide
  show ∃ r, FloatKind.f64.format.div 4607182418800017408 a = some r
  unfold Format.div
  rw [h1, hd]
  exact ⟨_, rfl⟩

/-- taken from itself: 0 for what is finite -/
theorem sub_self {k : FloatKind} {b : Nat} : k.format.order (ar .sub k b b) 0 = some .eq ↔ ∃ s m p, k.format.read b = .number s m p := by
  have hz : ∃ p, k.format.read 0 = .number false 0 p := by cases k <;> exact ⟨_, rfl⟩
  have hq : k.format.order (qn k) 0 = none := order_nan_left (qn_isN k)
  obtain ⟨p0, hz⟩ := hz
  cases hd : k.format.read b with
  | nan s f =>
    have e : ar .sub k b b = qn k := by
      unfold ar
      rw [floatBits_nan_left (by unfold isN; show (k.format.read b).isNaN = true; rw [hd]; rfl)]; rfl
    rw [e, hq]
    simp
  | infinity s =>
    have e : ar .sub k b b = qn k := by
      have : floatBits .sub k b b = none := by
        show k.format.sub b b = none
        unfold Format.sub
        rw [hd]
        cases s <;> rfl
      unfold ar; rw [this]; rfl
    rw [e, hq]
    simp
  | number s m p =>
    have e : ar .sub k b b = 0 := by
      have h1 : floatBits .sub k b b = some 0 := by
        show k.format.sub b b = some 0
        unfold Format.sub
        rw [hd]
        have ht : signed s m (p - min p p).toNat + signed (!s) m (p - min p p).toNat = 0 := by
          unfold signed
          cases s <;> simp <;> omega
        have : (Datum.number s m p).sum (Datum.number s m p).opposite = some (.number false 0 (min p p)) := by
          simp only [Datum.sum, Datum.opposite, ht]
          cases s <;> rfl
        rw [this]
        cases k <;> rfl
      unfold ar; rw [h1]; rfl
    rw [e]
    have h0 : k.format.order 0 0 = some .eq := by cases k <;> decide
    rw [h0]
    exact ⟨fun _ => ⟨s, m, p, rfl⟩, fun _ => rfl⟩

/- WIDENING -/
/-- a 32-bit number's datum -/
theorem single_bound {b : Nat} {s : Bool} {m : Nat} {p : Int} (h : single.read b = .number s m p) : m < 16777216 ∧ -149 ≤ p ∧ p ≤ 104 := by
  have hs : single.signWeight = 2147483648 := by decide
  have hb : single.binade = 8388608 := by decide
  have hi : single.infRung = 2139095040 := by decide
  have hl : single.leastPlace = -149 := by decide
  unfold Format.read at h
  simp only [hs, hb, hi, hl] at h
  split at h
  · cases h; omega
  · split at h
    · cases h; omega
    · split at h <;> cases h

theorem single_Lt {b : Nat} {s : Bool} {m : Nat} {p : Int} (h : single.read b = .number s m p) : Lt (.number s m p) 128 := by
  obtain ⟨h1, h2, h3⟩ := single_bound h
  refine ⟨s, m, p, rfl, ?_⟩
  by_cases h0 : m = 0
  · exact .inl h0
  · have := log2_lt (k := 24) h0 (by omega)
    exact .inr (by omega)

theorem double_write_Lt {d : Datum} {E : Int} (h : Lt d E) (hlo : -1021 ≤ E) (hhi : E ≤ 1023) : Lt (double.read (double.write d)) (E + 1) :=
  write_Lt double h (by have : double.leastPlace + double.fractionBits + 1 = -1021 := by decide
                        omega) (by have h1 : double.leastPlace = -1074 := by decide
                                   have h2 : ((2 ^ double.exponentBits - 1 : Nat) : Int) = 2047 := by decide
                                   have h3 : (double.fractionBits : Int) = 52 := by decide
                                   omega)
theorem single_write_Lt {d : Datum} {E : Int} (h : Lt d E) (hlo : -125 ≤ E) (hhi : E ≤ 127) : Lt (single.read (single.write d)) (E + 1) :=
  write_Lt single h (by have : single.leastPlace + single.fractionBits + 1 = -125 := by decide
                        omega) (by have h1 : single.leastPlace = -149 := by decide
                                   have h2 : ((2 ^ single.exponentBits - 1 : Nat) : Int) = 255 := by decide
                                   have h3 : (single.fractionBits : Int) = 23 := by decide
                                   omega)

theorem Lt_not_inf {d : Datum} {E : Int} (h : Lt d E) : d.isInfinity = false := by
  obtain ⟨s, m, p, rfl, _⟩ := h
  rfl

/-- widening is always told -/
theorem fits_wide (b : Nat) : Fits .f32 .f64 b := by
  unfold Fits isN
  cases hd : FloatKind.f32.decode b with
  | nan s f => left; rfl
  | infinity s => right; unfold floatToFloatBits; rw [if_neg (by decide), hd]; rfl
  | number s m p =>
    right
    unfold floatToFloatBits
    rw [if_neg (by decide), hd]
    have h1 := double_write_Lt (single_Lt (b := b) hd) (by omega) (by omega)
    have h2 : (FloatKind.f64.decode (FloatKind.f64.encode (.number s m p))).isInfinity = false := Lt_not_inf h1
    simp [h2]

theorem wide_inf {b : Nat} {s : Bool} (h : single.read b = .infinity s) : double.read (cv .f32 .f64 b) = .infinity s := by
  have hd : FloatKind.f32.decode b = .infinity s := h
  unfold cv floatToFloatBits
  rw [if_neg (by decide), hd]
  exact read_inf double (by decide) s

theorem wide_num {b : Nat} {s : Bool} {m : Nat} {p : Int} (h : single.read b = .number s m p) : cv .f32 .f64 b = double.write (.number s m p) := by
  have hd : FloatKind.f32.decode b = .number s m p := h
  unfold cv floatToFloatBits
  rw [if_neg (by decide), hd]
  have h1 := double_write_Lt (single_Lt (b := b) hd) (by omega) (by omega)
  have h2 : (FloatKind.f64.decode (FloatKind.f64.encode (.number s m p))).isInfinity = false := Lt_not_inf h1
  simp [h2]
  rfl

theorem wide_Lt {b : Nat} {s : Bool} {m : Nat} {p : Int} (h : single.read b = .number s m p) : Lt (double.read (cv .f32 .f64 b)) 129 := by
  rw [wide_num h]
  exact double_write_Lt (single_Lt h) (by omega) (by omega)

theorem wide_isN (b : Nat) : isN .f64 (cv .f32 .f64 b) = isN .f32 b := by
  cases hn : isN .f32 b with
  | true => rw [cv_nan (by decide) hn]; rfl
  | false =>
    rcases read_not_nan hn with ⟨s, m, p, h⟩ | ⟨s, h⟩
    · obtain ⟨_, _, _, h1, _⟩ := wide_Lt h
      show (double.read _).isNaN = false
      rw [h1]; rfl
    · show (double.read _).isNaN = false
      rw [wide_inf h]; rfl

/-- narrowing is told of what is less than 2 ^ 127, and of infinities and not-a-numbers -/
theorem fits_narrow {b : Nat} {E : Int} (h : Lt (double.read b) E) (hE : E ≤ 127) : Fits .f64 .f32 b := by
  have h := h.mono (F := 127) hE
  unfold Fits isN
  cases hd : FloatKind.f64.decode b with
  | nan s f => left; rfl
  | infinity s => right; unfold floatToFloatBits; rw [if_neg (by decide), hd]; rfl
  | number s m p =>
    right
    unfold floatToFloatBits
    rw [if_neg (by decide), hd]
    have hd' : double.read b = .number s m p := hd
    rw [hd'] at h
    have h1 := single_write_Lt h (by omega) (by omega)
    have h2 : (FloatKind.f32.decode (FloatKind.f32.encode (.number s m p))).isInfinity = false := Lt_not_inf h1
    simp [h2]
end Go.Fl
