/- FlushNumber and its model return the same at every number. -/
import Derived.Test.YtncapcflhchpmabIsSubnormalW
import Derived.Test.YtncapcflhchpmabSameFloatW
import Derived.Laws.BitsAllLaws
namespace Go.Proofs.Ytncapcflhchpmab.fnExactFlushNumberW
open Go.RowKit Go.Fl Go.Proofs.Ytncapcflhchpmab.abs Go.Proofs.Ytncapcflhchpmab.bits Go.Proofs.Ytncapcflhchpmab.sub Go.Proofs.Ytncapcflhchpmab.fnExactIsSubnormalW Go.Proofs.Ytncapcflhchpmab.sameFloat
open Ieee

/-- the number, or a zero with its sign -/
def flush (b : Nat) : Nat := if subB b then b / 2147483648 * 2147483648 else b

theorem call_from (b : Nat) (w : World) : (callFunc 72 #[.int .u32 (b : Int)]).run Try.prog w = .ok (.value (.float .f32 b)) w := by
  rw [run_callFunc_extern Try.func72 (by kernel_rfl) (by kernel_rfl) (by kernel_rfl) (e := Extern.MathFloatBits.float32frombits) (by kernel_rfl)]
  rfl

theorem sign_bits (b : Nat) (hb : b < 18446744073709551616) :
    Go.bits .or .u64 (Go.bits .andNot .u64 0 9223372036854775808) (Go.bits .and .u64 (b : Int) 9223372036854775808) = ((b / 9223372036854775808 * 9223372036854775808 : Nat) : Int) := by
  have h0 : Go.bits .andNot .u64 0 9223372036854775808 = ((0 : Nat) : Int) := by
    have := u64_andNot_nat 0 9223372036854775808 (by omega) (by omega)
    have e : ((0 &&& (18446744073709551615 - 9223372036854775808) : Nat) : Int) = ((0 : Nat) : Int) := by rw [Nat.zero_and]
    exact this.trans e
  have h1 : Go.bits .and .u64 (b : Int) 9223372036854775808 = ((b / 9223372036854775808 * 9223372036854775808 : Nat) : Int) := by
    have := u64_and_nat b 9223372036854775808 hb (by omega)
    refine this.trans ?_
    congr 1
    have e : (9223372036854775808 : Nat) = 1 <<< 63 := by decide
    have h : b &&& (1 <<< 63) = ((b >>> 63) &&& 1) <<< 63 := by
      apply Nat.eq_of_testBit_eq
      intro i
      simp only [Nat.testBit_and, Nat.testBit_shiftLeft, Nat.testBit_shiftRight]
      by_cases hi : 63 ≤ i
      · have : 63 + (i - 63) = i := by omega
        simp [hi, this]
      · simp [hi]
    have h2 : b &&& 9223372036854775808 = ((b >>> 63) &&& 1) <<< 63 := by rw [e]; exact h
    have e2 : (1 : Nat) = 2 ^ 1 - 1 := by decide
    have h3 : (b >>> 63) &&& 1 = b / 9223372036854775808 := by
      rw [e2, Nat.and_two_pow_sub_one_eq_mod, Nat.shiftRight_eq_div_pow]
      omega
    rw [h2, h3, Nat.shiftLeft_eq]
  rw [h0, h1]
  have hlt : b / 9223372036854775808 * 9223372036854775808 < 18446744073709551616 := by omega
  have := u64_or_nat 0 (b / 9223372036854775808 * 9223372036854775808) (by omega) hlt
  refine this.trans ?_
  rw [Nat.zero_or]

/-- a zero with a sign -/
def sgn (b : Nat) : Nat := b / 9223372036854775808 * 9223372036854775808

theorem copysign_any (b : Nat) (hb : (b : Int) ≤ 18446744073709551615) (w : World) :
    Calls Try.prog 38 #[.float .f64 0, .float .f64 b] w fun e w' => e = .returned (.float .f64 (sgn b)) ∧ w = w' := by
  have h1 := call_f64bits
  have h2 : ∀ w, (callFunc 60 #[.int .u64 (Go.bits .or .u64 (Go.bits .andNot .u64 0 9223372036854775808) (Go.bits .and .u64 (b : Int) 9223372036854775808))]).run Try.prog w = .ok (.value (.float .f64 (sgn b))) w := fun w => by
    rw [sign_bits b (by omega)]
    exact call_f64from _ w
  go_enter Try.func38, Try.ntmps38
  go_wp2
  go_ret
  exact ⟨rfl, rfl⟩

theorem sgn_wide {b r : Nat} (hb : (b : Int) ≤ 4294967295) (he : expB b = true) (hr : Sm .f64 r (cv .f32 .f64 b)) (hw : (Lit.float .f64 r).wf = true) : sgn r = b / 2147483648 * 9223372036854775808 := by
  have hd := read_sub hb he
  have hn : isN .f32 b = false := by
    show (single.read b).isNaN = false
    rw [hd]; rfl
  obtain rfl := hr.eq_of_not (by rw [hr.isN, wide_isN]; exact hn)
  have h1 : (double.read (cv .f32 .f64 b)).neg = (b / 2147483648 == 1) := by
    rw [wide_num hd]
    exact neg_write double (by decide) _ rfl
  have h2 : (double.read (cv .f32 .f64 b)).neg = (cv .f32 .f64 b / 9223372036854775808 % 2 == 1) := by
    have hs : double.signWeight = 9223372036854775808 := by decide
    unfold Format.read
    simp only [hs]
    split
    · rfl
    · split
      · rfl
      · split <;> rfl
  have h3 := f64_le hw
  rw [h2] at h1
  unfold sgn
  have h4 : cv .f32 .f64 b / 9223372036854775808 = b / 2147483648 := by
    generalize cv .f32 .f64 b = x at *
    have e1 : x / 9223372036854775808 < 2 := by omega
    have e2 : b / 2147483648 < 2 := by omega
    generalize x / 9223372036854775808 = u at *
    generalize b / 2147483648 = v at *
    rcases (show u = 0 ∨ u = 1 by omega) with rfl | rfl <;> rcases (show v = 0 ∨ v = 1 by omega) with rfl | rfl <;> simp at h1 <;> rfl
  rw [h4]

theorem narrow_zero (v : Nat) (hv : v < 2) : Fits .f64 .f32 (v * 9223372036854775808) ∧ cv .f64 .f32 (v * 9223372036854775808) = v * 2147483648 ∧ isN .f32 (v * 2147483648) = false := by
  rcases (show v = 0 ∨ v = 1 by omega) with rfl | rfl
  · exact ⟨.inr (by decide), by decide, by decide⟩
  · exact ⟨.inr (by decide), by decide, by decide⟩

theorem narrow_fits {b r : Nat} (hb : (b : Int) ≤ 4294967295) (he : expB b = true) (hr : Sm .f64 r (cv .f32 .f64 b)) (hw : (Lit.float .f64 r).wf = true) : Fits .f64 .f32 (sgn r) := by
  rw [sgn_wide hb he hr hw]
  exact (narrow_zero _ (by omega)).1
theorem narrow_is {b r z : Nat} (hb : (b : Int) ≤ 4294967295) (he : expB b = true) (hr : Sm .f64 r (cv .f32 .f64 b)) (hw : (Lit.float .f64 r).wf = true) (hz : Sm .f32 z (cv .f64 .f32 (sgn r))) : z = b / 2147483648 * 2147483648 := by
  rw [sgn_wide hb he hr hw] at hz
  obtain ⟨_, h2, h3⟩ := narrow_zero (b / 2147483648) (by omega)
  rw [h2] at hz
  exact (hz.symm.eq_of_not h3).symm

theorem impl_any (b : Nat) (hb : (b : Int) ≤ 4294967295) (w : World) :
    Calls Try.prog 18 #[.float .f32 b] w fun e w' => e = .returned (.float .f32 (flush b)) ∧ ∃ n, w' = w.drewN n := by
  have huf : (Try.prog.underlying 22).isSome = true := by rw [Try.underlying22]; rfl
  have hud : (Try.prog.underlying 25).isSome = true := by rw [Try.underlying25]; rfl
  cases hsub : subB b with
  | false =>
    have hfl : flush b = b := by simp [flush, hsub]
    rw [hfl]; clear hfl
    go_enter Try.func18, Try.ntmps18
    go_wp2_with (first | (go_at_call 16; refine (fnExactIsSubnormalW.impl_any b hb _).mono ?_; rw [hsub]; rintro e w' ⟨rfl, n, rfl⟩))
    go_ret
    exact ⟨rfl, _, rfl⟩
  | true =>
    have he : expB b = true := by
      unfold subB at hsub
      cases h : expB b with
      | true => rfl
      | false => rw [h] at hsub; simp at hsub
    have hfl : flush b = b / 2147483648 * 2147483648 := by simp [flush, hsub]
    rw [hfl]; clear hfl
    go_enter Try.func18, Try.ntmps18
    go_wp2_with (first | (go_at_call 16; refine (fnExactIsSubnormalW.impl_any b hb _).mono ?_; rw [hsub]; rintro e w' ⟨rfl, n, rfl⟩) | (refine wpList_cv rfl 22 25 _ rfl .f32 .f64 (by decide) _ rfl huf Try.underlying25 (fits_wide _) ?_; intro r n hr hw) | (go_at_call 38; refine (copysign_any _ (f64_le (by assumption)) _).mono ?_; rintro e w' ⟨rfl, rfl⟩) | (refine wpList_cv rfl 25 22 _ rfl .f64 .f32 (by decide) _ rfl hud Try.underlying22 (narrow_fits hb he (by assumption) (by assumption)) ?_; intro z n hz hw'; obtain rfl := narrow_is hb he (by assumption) (by assumption) hz; clear hz))
    go_ret
    exact ⟨rfl, _, rfl⟩

/-- the model's answer: zeros stay what they are -/
theorem flush_spec {b : Nat} (hb : (b : Int) ≤ 4294967295) : flush b = if expB b then b / 2147483648 * 2147483648 else b := by
  unfold flush subB
  cases he : expB b with
  | false => simp
  | true =>
    by_cases h0 : FloatKind.f32.format.order b 0 = some .eq
    · obtain ⟨s, p, hz⟩ := zero_of_order h0
      have hd : FloatKind.f32.format.read b = _ := read_sub hb he
      rw [hd] at hz
      injection hz with _ hz _
      rw [h0]
      simp
      omega
    · simp [h0]

theorem from_any (m : Nat) (hm : (m : Int) ≤ 4294967295) (w : World) :
    Calls Try.prog 62 #[.int .i64 (m : Int)] w fun e w' => e = .returned (.float .f32 m) ∧ w = w' := by
  have h := call_from m
  go_enter Try.func62, Try.ntmps62
  go_wp2
  go_ret
  exact ⟨rfl, rfl⟩

theorem l01_any (b : Nat) (hb : (b : Int) ≤ 4294967295) (w : World) :
    Calls Try.prog 37 #[.float .f32 b] w fun e w' => e = .returned (.float .f32 (flush b)) ∧ w = w' := by
  have hf := field_bits b hb
  rw [flush_spec hb]
  cases he : expB b with
  | false =>
    rw [he] at hf
    go_enter Try.func37, Try.ntmps37
    go_wp2_with (first | (go_at_call 35; refine (bits_spec b hb _).mono ?_; rintro e w' ⟨rfl, rfl⟩))
    go_ret
    exact ⟨by simp, rfl⟩
  | true =>
    rw [he] at hf
    have hn : isN .f32 b = false := by
      cases h : isN .f32 b with
      | false => rfl
      | true => rw [expB_nan h] at he; cases he
    have hs : Go.bits .and .i64 (bitsOf b) 2147483648 = ((b / 2147483648 * 2147483648 : Nat) : Int) := by
      have e1 : bitsOf b = b := by simp [bitsOf, hn]
      have h := i64_and_nat b 2147483648 (by omega) (by omega)
      rw [and_sign b (by omega)] at h
      rw [e1]
      exact h
    have hle : (((b / 2147483648 * 2147483648 : Nat)) : Int) ≤ 4294967295 := by omega
    generalize hm : b / 2147483648 * 2147483648 = m at *
    clear hm he hn
    go_enter Try.func37, Try.ntmps37
    go_wp2_with (first | (go_at_call 35; refine (bits_spec b hb _).mono ?_; rintro e w' ⟨rfl, rfl⟩) | (go_at_call 62; refine (from_any m hle _).mono ?_; rintro e w' ⟨rfl, rfl⟩))
    go_ret
    exact ⟨by simp, rfl⟩

theorem spec_any (b : Nat) (hb : (b : Int) ≤ 4294967295) (w : World) :
    Calls Try.prog 17 #[.float .f32 b] w fun e w' => e = .returned (.float .f32 (flush b)) ∧ w = w' := by
  go_enter Try.func17, Try.ntmps17
  go_wp2_with (first | (go_at_call 37; refine (l01_any b hb _).mono ?_; rintro e w' ⟨rfl, rfl⟩))
  go_ret
  exact ⟨rfl, rfl⟩

theorem walk (a0 : Nat) (w0 : (Lit.float .f32 a0).wf = true) (w : World) :
    Calls Try.prog 5 #[.float .f32 a0] w fun e w' => e = .returned (.bool true) ∧ Below w.heap.size w w' := by
  have hb := f32_le w0
  have huf : (Try.prog.underlying 22).isSome = true := by rw [Try.underlying22]; rfl
  go_enter Try.func5, Try.ntmps5
  go_wp2_with (first | (go_at_call 17; refine (spec_any a0 hb _).mono ?_; rintro e w' ⟨rfl, rfl⟩) | (go_at_call 18; refine (fnExactFlushNumberW.impl_any a0 hb _).mono ?_; rintro e w' ⟨rfl, n, rfl⟩) | (refine wpList_cv rfl 22 25 _ rfl .f32 .f64 (by decide) _ rfl huf Try.underlying25 (fits_wide _) ?_; intro r n hr hw) | (go_at_call 14; refine (same_any _ _ (Sm.trans (by assumption) (Sm.symm (by assumption))) _).mono ?_; rintro e w' ⟨rfl, n, rfl⟩))
  go_ret
  exact ⟨rfl, Go.Pst.below_draws ⟨_, rfl⟩⟩
end Go.Proofs.Ytncapcflhchpmab.fnExactFlushNumberW
