/- Subnormal numbers: what is told by the bits is what is told by the absolute value. -/
import Derived.Test.YtncapcflhchpmabAbsW
import Derived.Test.YtncapcflhchpmabBitsW
import Derived.Test.YtncapcflhchpmabFlD
namespace Go.Proofs.Ytncapcflhchpmab.sub
open Go.RowKit Go.Fl Go.Ie Go.Proofs.Ytncapcflhchpmab.abs Go.Proofs.Ytncapcflhchpmab.bits
open Ieee

theorem and_field (b : Nat) : b &&& 2139095040 = (b / 8388608 % 256) * 8388608 := by
  have e : (2139095040 : Nat) = 255 <<< 23 := by decide
  have h : b &&& (255 <<< 23) = ((b >>> 23) &&& 255) <<< 23 := by
    apply Nat.eq_of_testBit_eq
    intro i
    simp only [Nat.testBit_and, Nat.testBit_shiftLeft, Nat.testBit_shiftRight]
    by_cases hi : 23 ≤ i
    · have : 23 + (i - 23) = i := by omega
      simp [hi, this]
    · simp [hi]
  rw [e, h, Nat.shiftLeft_eq, Nat.shiftRight_eq_div_pow]
  have e2 : (255 : Nat) = 2 ^ 8 - 1 := by decide
  rw [e2, Nat.and_two_pow_sub_one_eq_mod]
theorem and_sign (b : Nat) (hb : b < 4294967296) : b &&& 2147483648 = b / 2147483648 * 2147483648 := by
  have e : (2147483648 : Nat) = 1 <<< 31 := by decide
  have h : b &&& (1 <<< 31) = ((b >>> 31) &&& 1) <<< 31 := by
    apply Nat.eq_of_testBit_eq
    intro i
    simp only [Nat.testBit_and, Nat.testBit_shiftLeft, Nat.testBit_shiftRight]
    by_cases hi : 31 ≤ i
    · have : 31 + (i - 31) = i := by omega
      simp [hi, this]
    · simp [hi]
  have h2 : b &&& 2147483648 = ((b >>> 31) &&& 1) <<< 31 := by rw [e]; exact h
  have e2 : (1 : Nat) = 2 ^ 1 - 1 := by decide
  have h3 : (b >>> 31) &&& 1 = b / 2147483648 := by
    rw [e2, Nat.and_two_pow_sub_one_eq_mod, Nat.shiftRight_eq_div_pow]
    omega
  rw [h2, h3, Nat.shiftLeft_eq]

/-- the exponent's field is 0 -/
def expB (b : Nat) : Bool := decide (b % 2147483648 < 8388608)

theorem ofInt_i64 (a : Nat) (ha : a < 9223372036854775808) : (BitVec.ofInt 64 (a : Int)).toNat = a := by
  rw [BitVec.ofInt_natCast, BitVec.toNat_ofNat]; exact Nat.mod_eq_of_lt (by omega)
theorem i64_and_nat (a b : Nat) (ha : a < 9223372036854775808) (hb : b < 9223372036854775808) : Go.bits .and .i64 (a : Int) (b : Int) = ((a &&& b : Nat) : Int) := by
  have hx : a &&& b < 2 ^ 63 := Nat.and_lt_two_pow _ (by omega)
  show IntKind.i64.wrap ((BitVec.ofInt 64 (a : Int) &&& BitVec.ofInt 64 (b : Int)).toNat : Int) = _
  rw [BitVec.toNat_and, ofInt_i64 a ha, ofInt_i64 b hb, IntKind.wrap_i64]
  omega

theorem field_zero (b : Nat) (hb : (b : Int) ≤ 4294967295) : (Go.bits .and .i64 (b : Int) 2139095040 == 0) = expB b := by
  have h := i64_and_nat b 2139095040 (by omega) (by omega)
  have h' : Go.bits .and .i64 (b : Int) 2139095040 = ((b &&& 2139095040 : Nat) : Int) := h
  rw [h', and_field, Bool.eq_iff_iff]
  unfold expB
  simp only [beq_iff_eq, decide_eq_true_eq]
  omega

theorem expB_nan {b : Nat} (hn : isN .f32 b = true) : expB b = false := by
  have hs : single.signWeight = 2147483648 := by decide
  have hb : single.binade = 8388608 := by decide
  unfold expB
  have h : (single.read b).isNaN = true := hn
  unfold Format.read at h
  simp only [hs, hb] at h
  split at h
  · cases h
  · simp; omega

/-- the fields of a number -/
theorem read_sub {b : Nat} (hb : (b : Int) ≤ 4294967295) (h : expB b = true) : single.read b = .number (b / 2147483648 == 1) (b % 2147483648) (-149) := by
  have hs : single.signWeight = 2147483648 := by decide
  have hbi : single.binade = 8388608 := by decide
  have hl : single.leastPlace = -149 := by decide
  unfold expB at h
  simp only [decide_eq_true_eq] at h
  unfold Format.read
  simp only [hs, hbi, hl, h, if_true]
  have : b / 2147483648 % 2 = b / 2147483648 := by omega
  rw [this]
theorem read_norm {b : Nat} (h : expB b = false) : (∃ s m p, single.read b = .number s m p ∧ 8388608 ≤ m ∧ -149 ≤ p) ∨ (∃ s, single.read b = .infinity s) ∨ isN .f32 b = true := by
  have hs : single.signWeight = 2147483648 := by decide
  have hbi : single.binade = 8388608 := by decide
  have hl : single.leastPlace = -149 := by decide
  have hi : single.infRung = 2139095040 := by decide
  unfold expB at h
  simp only [decide_eq_false_iff_not, Nat.not_lt] at h
  have hr : isN .f32 b = (single.read b).isNaN := rfl
  rw [hr]
  unfold Format.read
  simp only [hs, hbi, hl, hi]
  rw [if_neg (by omega)]
  split
  · exact .inl ⟨_, _, _, rfl, by omega, by omega⟩
  · split
    · exact .inr (.inl ⟨_, rfl⟩)
    · exact .inr (.inr rfl)

/-- widening is exact -/
theorem wide_exact {b : Nat} {s : Bool} {m : Nat} {p : Int} (h : single.read b = .number s m p) (h0 : m ≠ 0) : double.read (cv .f32 .f64 b) = .number s (m <<< (52 - m.log2)) (p + m.log2 - 52) := by
  obtain ⟨h1, h2, h3⟩ := single_bound h
  have hl := log2_lt (k := 24) h0 (by omega)
  rw [wide_num h]
  have e1 : double.fractionBits = 52 := rfl
  have := write_exact double (s := s) (m := m) (p := p) h0 (by rw [e1]; omega)
    (by have : double.leastPlace = -1074 := by decide
        rw [e1]; omega)
    (by have h4 : double.leastPlace = -1074 := by decide
        have h5 : ((2 ^ double.exponentBits - 1 : Nat) : Int) = 2047 := by decide
        rw [e1]; omega)
  rw [e1] at this
  exact this

theorem cmp_lt {a b : Int} : (compare a b == .lt) = decide (a < b) := by
  unfold compare instOrdInt compareOfLessAndEq
  dsimp only
  split
  · rename_i h; simp [h]
  · rename_i h
    split <;> simp [h]

/-- less than 2 ^ -126: the exponent's field is 0 -/
theorem abs_small {b r : Nat} (hb : (b : Int) ≤ 4294967295) (hr : Sm .f64 r (cv .f32 .f64 b)) : (FloatKind.f64.format.order (absN r) 4039728865751334912 == some .lt) = expB b := by
  have hc : double.read 4039728865751334912 = .number false 4503599627370496 (-178) := by decide
  show ((double.read (absN r)).order (double.read 4039728865751334912) == some .lt) = expB b
  cases hn : isN .f32 b with
  | true =>
    have h1 : isN .f64 (absN r) = true := by rw [abs_isN, hr.isN, wide_isN]; exact hn
    rw [order_nan_left (d := double.read (absN r)) h1, expB_nan hn]; rfl
  | false =>
    obtain rfl := hr.eq_of_not (by rw [hr.isN, wide_isN]; exact hn)
    rw [hc, read_abs]
    have key : ∀ (s : Bool) (m : Nat) (p : Int), single.read b = .number s m p → m ≠ 0 → ((absD (double.read (cv .f32 .f64 b))).order (.number false 4503599627370496 (-178)) == some .lt) = decide (p + m.log2 < -126) := by
      intro s m p hd h0
      rw [wide_exact hd h0]
      obtain ⟨h1, h2, h3⟩ := single_bound hd
      have hl := log2_lt (k := 24) h0 (by omega)
      have hK0 : m <<< (52 - m.log2) ≠ 0 := by rw [Nat.shiftLeft_eq]; exact Nat.mul_ne_zero h0 (by have := Nat.two_pow_pos (52 - m.log2); omega)
      have hK : (m <<< (52 - m.log2)).log2 = 52 := by rw [log2_shl h0]; omega
      have hK1 := Nat.log2_self_le hK0
      have hK2 := self_lt (m <<< (52 - m.log2))
      rw [hK] at hK1 hK2
      generalize m <<< (52 - m.log2) = K at *
      show (compare (signed false K (p + m.log2 - 52 - min (p + m.log2 - 52) (-178)).toNat) (signed false 4503599627370496 (-178 - min (p + m.log2 - 52) (-178)).toNat) == Ordering.lt) = _
      rw [cmp_lt]
      congr 1
      show (((K <<< (p + m.log2 - 52 - min (p + m.log2 - 52) (-178)).toNat : Nat) : Int) < ((4503599627370496 <<< (-178 - min (p + m.log2 - 52) (-178)).toNat : Nat) : Int)) = _
      rw [Nat.shiftLeft_eq, Nat.shiftLeft_eq]
      rw [eq_iff_iff]
      by_cases hq : p + (m.log2 : Int) < -126
      · have e1 : (p + m.log2 - 52 - min (p + m.log2 - 52) (-178)).toNat = 0 := by omega
        obtain ⟨j, hj⟩ : ∃ j, (-178 - min (p + m.log2 - 52) (-178)).toNat = j + 1 := ⟨(-178 - min (p + m.log2 - 52) (-178)).toNat - 1, by omega⟩
        rw [e1, hj, Nat.pow_succ]
        have := Nat.two_pow_pos j
        refine ⟨fun _ => hq, fun _ => ?_⟩
        have h5 : 4503599627370496 * (2 ^ j * 2) ≥ 4503599627370496 * (1 * 2) := Nat.mul_le_mul_left _ (Nat.mul_le_mul_right _ this)
        omega
      · have e1 : (-178 - min (p + m.log2 - 52) (-178)).toNat = 0 := by omega
        rw [e1]
        refine ⟨fun h => ?_, fun h => absurd h hq⟩
        have h5 : K * 2 ^ (p + m.log2 - 52 - min (p + m.log2 - 52) (-178)).toNat ≥ K * 1 := Nat.mul_le_mul_left _ (Nat.two_pow_pos _)
        omega
    cases he : expB b with
    | true =>
      have hd := read_sub hb he
      by_cases h0 : b % 2147483648 = 0
      · rw [wide_num hd, h0]
        have : double.read (double.write (.number (b / 2147483648 == 1) 0 (-149))) = .number (b / 2147483648 == 1) 0 (-1074) := by
          cases (b / 2147483648 == 1) <;> decide
        rw [this]
        rfl
      · rw [key _ _ _ hd h0]
        unfold expB at he
        simp only [decide_eq_true_eq] at he
        have hl := log2_lt (k := 23) h0 (by omega)
        simp; omega
    | false =>
      rcases read_norm he with ⟨s, m, p, hd, h1, h2⟩ | ⟨s, hd⟩ | h
      · rw [key s m p hd (by omega)]
        have : 23 ≤ m.log2 := (Nat.le_log2 (by omega)).2 h1
        simp; omega
      · rw [wide_inf hd]; rfl
      · rw [hn] at h; cases h
end Go.Proofs.Ytncapcflhchpmab.sub
