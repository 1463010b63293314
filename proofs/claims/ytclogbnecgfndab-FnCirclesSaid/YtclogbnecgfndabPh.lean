/- Quarters of a turn, taken away one after another, on the bits of 64-bit numbers. -/
import Derived.Test.YtclogbnecgfndabSin
namespace Go.Fl
open Ieee Go.Ie

/-- j quarters taken away -/
def qk (f : Nat) : Nat → Nat
  | 0 => f
  | j + 1 => ar .sub .f64 (qk f j) 4598175219545276416
theorem qk_succ (f j : Nat) : qk f (j + 1) = qk (ar .sub .f64 f 4598175219545276416) j := by
  induction j with
  | zero => rfl
  | succ j ih => show ar .sub .f64 (qk f (j + 1)) _ = _; rw [ih]; rfl

/-- at least a quarter, at most b quarters, and exact in 54 places -/
def Qs (b : Nat) (f : Nat) : Prop := ∃ m p, double.read f = .number false m p ∧ -54 ≤ p ∧ m < 9007199254740992 ∧ 4503599627370496 ≤ m * 2 ^ (p + 54).toNat ∧ m * 2 ^ (p + 54).toNat ≤ b * 4503599627370496

theorem order_qs {f m : Nat} {p : Int} (hd : double.read f = .number false m p) (hp : -54 ≤ p) : FloatKind.f64.format.order f 4598175219545276416 = some (compare ((m * 2 ^ (p + 54).toNat : Nat) : Int) 4503599627370496) := by
  show (double.read f).order (double.read _) = _
  rw [hd, read_quarter]
  show some (compare (signed false m (p - min p (-54)).toNat) (signed false 4503599627370496 (-54 - min p (-54)).toNat)) = _
  have e : min p (-54) = -54 := by omega
  rw [e, signed_eq, signed_eq]
  rfl
theorem order_qs2 {f m : Nat} {p : Int} (hd : double.read f = .number false m p) (hp : p < -54) (hm : m < 9007199254740992) : FloatKind.f64.format.order f 4598175219545276416 = some .lt := by
  show (double.read f).order (double.read _) = _
  rw [hd, read_quarter]
  show some (compare (signed false m (p - min p (-54)).toNat) (signed false 4503599627370496 (-54 - min p (-54)).toNat)) = _
  have e : min p (-54) = p := by omega
  have e0 : (p - p).toNat = 0 := by omega
  rw [e, e0, signed_eq, signed_eq]
  obtain ⟨j, hj⟩ : ∃ j, (-54 - p).toNat = j + 1 := ⟨(-54 - p).toNat - 1, by omega⟩
  rw [hj, Nat.pow_succ]
  have h2 := Nat.two_pow_pos j
  generalize 2 ^ j = x at *
  simp only [Bool.false_eq_true, if_false, Nat.pow_zero, Nat.mul_one]
  rcases cmp_cases (m : Int) ((4503599627370496 * (x * 2) : Nat) : Int) with ⟨h3, h4⟩ | ⟨h3, h4⟩ | ⟨h3, h4⟩
  · rw [h3]
  · omega
  · omega

/-- a number within 1: less than a quarter, or exact -/
theorem qs_start {f : Nat} (h : Nm f 0) : FloatKind.f64.format.order f 4598175219545276416 = some .lt ∨ Qs 4 f := by
  obtain ⟨s, m, p, hd, hb⟩ := id h
  by_cases ho : FloatKind.f64.format.order f 4598175219545276416 = some .lt
  · exact .inl ho
  have hs : s = false := pos_of_ge hd read_quarter (by decide) ho
  subst hs
  have hm := (double_bound hd).1
  right
  have hp : -54 ≤ p := by
    refine Classical.byContradiction fun hn => ho (order_qs2 hd (by omega) (by omega))
  rw [order_qs hd hp] at ho
  have h1 : 4503599627370496 ≤ m * 2 ^ (p + 54).toNat := by
    refine Classical.byContradiction fun hn => ho ?_
    rcases cmp_cases ((m * 2 ^ (p + 54).toNat : Nat) : Int) 4503599627370496 with ⟨h3, h4⟩ | ⟨h3, h4⟩ | ⟨h3, h4⟩
    · rw [h3]
    · omega
    · omega
  refine ⟨m, p, hd, hp, by omega, h1, ?_⟩
  rcases hb with hb | ⟨hb1, hb2⟩
  · rw [hb, Nat.zero_mul] at h1; omega
  · have h3 : m * 2 ^ (p + 54).toNat ≤ 2 ^ (0 - p).toNat * 2 ^ (p + 54).toNat := Nat.mul_le_mul_right _ hb2
    rw [← Nat.pow_add] at h3
    have e : (0 - p).toNat + (p + 54).toNat = 54 := by omega
    rw [e] at h3
    omega

theorem sub_datum {N C : Nat} (h : C ≤ N) : Datum.number (if (N : Int) + -(C : Int) = 0 then false && true else decide ((N : Int) + -(C : Int) < 0)) ((N : Int) + -(C : Int)).natAbs (-54) = Datum.number false (N - C) (-54) := by
  have e : ((N : Int) + -(C : Int)).natAbs = N - C := by omega
  rw [e]
  by_cases h0 : (N : Int) + -(C : Int) = 0
  · rw [if_pos h0]; rfl
  · rw [if_neg h0, decide_eq_false (by omega)]

/-- a quarter less -/
theorem qs_step {b f : Nat} (hb : b ≤ 3) (h : Qs (b + 1) f) : FloatKind.f64.format.order (ar .sub .f64 f 4598175219545276416) 4598175219545276416 = some .lt ∨ (1 ≤ b ∧ Qs b (ar .sub .f64 f 4598175219545276416)) := by
  obtain ⟨m, p, hd, hp, hm, h1, h2⟩ := h
  have hsum : ar .sub .f64 f 4598175219545276416 = double.write (.number false (m * 2 ^ (p + 54).toNat - 4503599627370496) (-54)) := by
    have e0 : (double.sub f 4598175219545276416) = some (double.write (.number false (m * 2 ^ (p + 54).toNat - 4503599627370496) (-54))) := by
      unfold Format.sub
      rw [hd, read_quarter]
      show some (double.write (.number (if signed false m (p - min p (-54)).toNat + signed true 4503599627370496 (-54 - min p (-54)).toNat = 0 then false && true else decide (signed false m (p - min p (-54)).toNat + signed true 4503599627370496 (-54 - min p (-54)).toNat < 0)) (signed false m (p - min p (-54)).toNat + signed true 4503599627370496 (-54 - min p (-54)).toNat).natAbs (min p (-54)))) = _
      have e : min p (-54) = -54 := by omega
      have e2 : p - -54 = p + 54 := by omega
      have e3 : ((-54 : Int) - -54).toNat = 0 := by decide
      rw [e, e2, e3, signed_eq, signed_eq]
      generalize m * 2 ^ (p + 54).toNat = N at *
      simp only [Bool.false_eq_true, if_false, if_true, Nat.pow_zero, Nat.mul_one]
      exact congrArg (fun d => some (double.write d)) (sub_datum h1)
    have e1 : floatBits .sub .f64 f 4598175219545276416 = some (double.write (.number false (m * 2 ^ (p + 54).toNat - 4503599627370496) (-54))) := e0
    unfold ar
    rw [e1, Option.getD_some]
  rw [hsum]
  have hpow : 9007199254740992 ≤ m * 2 ^ (p + 54).toNat → ∃ K, m * 2 ^ (p + 54).toNat = 2 * K := by
    intro hN
    refine ⟨m * 2 ^ (p + 53).toNat, ?_⟩
    have h3 : 1 ≤ p + 54 := by
      refine Classical.byContradiction fun hn => ?_
      have : (p + 54).toNat = 0 := by omega
      rw [this] at hN; omega
    have : (p + 54).toNat = (p + 53).toNat + 1 := by omega
    rw [this, Nat.pow_succ]
    generalize 2 ^ (p + 53).toNat = x
    rw [← Nat.mul_assoc, Nat.mul_comm]
  generalize m * 2 ^ (p + 54).toNat = N at *
  clear hsum hd
  have key : ∀ M : Nat, M ≠ 0 → M < 9007199254740992 → ∀ (k : Nat) (q : Int), k ≤ 1 → q = -54 + k → double.read (double.write (.number false (M <<< k) (-54))) = .number false (M <<< (52 - M.log2)) (q + M.log2 - 52) := by
    intro M h0 hM k q hk hq
    have hl := log2_lt (k := 53) h0 hM
    have := d_exact_shift (s := false) (m := M) (k := k) (p := q) h0 (by omega) (by omega) (by omega)
    have e : q - k = -54 := by omega
    rw [e] at this
    exact this
  by_cases hz : N = 4503599627370496
  · left; rw [hz]; decide
  by_cases h53 : N - 4503599627370496 < 9007199254740992
  · have hr := key (N - 4503599627370496) (by omega) h53 0 (-54) (by omega) (by omega)
    rw [Nat.shiftLeft_zero] at hr
    have hl := log2_lt (k := 53) (show N - 4503599627370496 ≠ 0 by omega) h53
    by_cases h52 : N - 4503599627370496 < 4503599627370496
    · left
      have hl2 := log2_lt (k := 52) (show N - 4503599627370496 ≠ 0 by omega) h52
      exact order_qs2 hr (by omega) (double_bound hr).1
    · right
      have hl3 : 52 ≤ (N - 4503599627370496).log2 := (Nat.le_log2 (by omega)).2 (by omega)
      have e1 : (N - 4503599627370496).log2 = 52 := by omega
      rw [e1] at hr
      refine ⟨by omega, _, _, hr, by omega, ?_, ?_, ?_⟩
      · show (N - 4503599627370496) <<< 0 < _
        rw [Nat.shiftLeft_zero]; exact h53
      · show _ ≤ (N - 4503599627370496) <<< 0 * 2 ^ 0
        rw [Nat.shiftLeft_zero]; omega
      · show (N - 4503599627370496) <<< 0 * 2 ^ 0 ≤ _
        rw [Nat.shiftLeft_zero]; omega
  · right
    obtain ⟨K, hK⟩ := hpow (by omega)
    have e2 : N - 4503599627370496 = (K - 2251799813685248) <<< 1 := by rw [Nat.shiftLeft_eq]; omega
    have hM : K - 2251799813685248 < 9007199254740992 := by omega
    have hr := key (K - 2251799813685248) (by omega) hM 1 (-53) (by omega) (by omega)
    rw [← e2] at hr
    have hl := log2_lt (k := 53) (show K - 2251799813685248 ≠ 0 by omega) hM
    have hl3 : 52 ≤ (K - 2251799813685248).log2 := (Nat.le_log2 (by omega)).2 (by omega)
    have e1 : (K - 2251799813685248).log2 = 52 := by omega
    rw [e1] at hr
    refine ⟨by omega, _, _, hr, by omega, ?_, ?_, ?_⟩
    · show (K - 2251799813685248) <<< 0 < _
      rw [Nat.shiftLeft_zero]; exact hM
    · show _ ≤ (K - 2251799813685248) <<< 0 * 2 ^ 1
      rw [Nat.shiftLeft_zero]; omega
    · show (K - 2251799813685248) <<< 0 * 2 ^ 1 ≤ _
      rw [Nat.shiftLeft_zero]; omega

/-- at least a quarter -/
def geqq (f : Nat) : Prop := FloatKind.f64.format.order f 4598175219545276416 = some .eq ∨ FloatKind.f64.format.order f 4598175219545276416 = some .gt
theorem qs_ge {b f : Nat} (h : Qs b f) : geqq f := by
  obtain ⟨m, p, hd, hp, hm, h1, h2⟩ := h
  unfold geqq
  rw [order_qs hd hp]
  rcases cmp_cases ((m * 2 ^ (p + 54).toNat : Nat) : Int) 4503599627370496 with ⟨h3, h4⟩ | ⟨h3, h4⟩ | ⟨h3, h4⟩
  · omega
  · left; rw [h3]
  · right; rw [h3]
theorem qs_nm {b f : Nat} (h : Qs b f) (hf : Nm f 0) : Nm (ar .sub .f64 f 4598175219545276416) 0 := by
  obtain ⟨m, p, hd, _⟩ := h
  exact nm_sub_opp hd read_quarter hf nm_q25 (by omega) (by omega)

/-- THE QUARTERS END -/
theorem qk_end : ∀ (b f : Nat), b ≤ 4 → Nm f 0 → (FloatKind.f64.format.order f 4598175219545276416 = some .lt ∨ (1 ≤ b ∧ Qs b f)) →
    ∃ Q, Q ≤ b ∧ (∀ j, j < Q → Nm (qk f (j + 1)) 0 ∧ geqq (qk f j)) ∧ FloatKind.f64.format.order (qk f Q) 4598175219545276416 = some .lt ∧ Nm (qk f Q) 0 := by
  intro b
  induction b with
  | zero =>
    intro f _ hf h
    rcases h with h | ⟨h, _⟩
    · exact ⟨0, by omega, fun j hj => absurd hj (by omega), h, hf⟩
    · omega
  | succ b ih =>
    intro f hb hf h
    rcases h with h | ⟨_, h⟩
    · exact ⟨0, by omega, fun j hj => absurd hj (by omega), h, hf⟩
    · obtain ⟨Q, h1, h2, h3, h4⟩ := ih (ar .sub .f64 f 4598175219545276416) (by omega) (qs_nm h hf) (qs_step (by omega) h)
      refine ⟨Q + 1, by omega, fun j hj => ?_, by rw [qk_succ]; exact h3, by rw [qk_succ]; exact h4⟩
      cases j with
      | zero => exact ⟨qs_nm h hf, qs_ge h⟩
      | succ j =>
        have := h2 j (by omega)
        rw [← qk_succ, ← qk_succ] at this
        exact this
theorem qk_stop {f : Nat} (hf : Nm f 0) : ∃ Q, Q ≤ 4 ∧ (∀ j, j < Q → Nm (qk f (j + 1)) 0 ∧ geqq (qk f j)) ∧ FloatKind.f64.format.order (qk f Q) 4598175219545276416 = some .lt ∧ Nm (qk f Q) 0 := by
  refine qk_end 4 f (by omega) hf ?_
  rcases qs_start hf with h | h
  · exact .inl h
  · exact .inr ⟨by omega, h⟩

/-- what is within 2 has a small whole part, and lies within the bounds -/
theorem small_one {y : Nat} (h : Nm y 1) : ∃ s m p, double.read y = .number s m p ∧ whole m p < 4503599627370496 ∧ FloatKind.f64.format.order y 4841369599423283200 = some .lt ∧ FloatKind.f64.format.order y 14064741636278059008 = some .gt := by
  obtain ⟨s, m, p, hd, hb⟩ := h
  refine ⟨s, m, p, hd, ?_⟩
  rcases big_cases hd with ⟨b1, b2, b3, hw⟩ | ⟨b1, b2⟩
  · exact ⟨hw, b2, b3⟩
  · exfalso
    have hc : double.read 4841369599423283200 = .number false 4503599627370496 0 := by decide
    have ha : double.read (absN y) = .number false m p := by rw [read_abs, hd]; rfl
    have o1 : FloatKind.f64.format.order (absN y) 4841369599423283200 = some .lt := by
      show (double.read _).order (double.read _) = _
      rw [ha, hc]
      show some (compare (signed false m (p - min p 0).toNat) (signed false 4503599627370496 (0 - min p 0).toNat)) = _
      rw [signed_eq, signed_eq]
      simp only [Bool.false_eq_true, if_false]
      have hlt : m * 2 ^ (p - min p 0).toNat < 4503599627370496 * 2 ^ (0 - min p 0).toNat := by
        have hpos := Nat.two_pow_pos (0 - min p 0).toNat
        rcases hb with hb | ⟨hb1, hb2⟩
        · rw [hb, Nat.zero_mul]; omega
        · have h3 : m * 2 ^ (p - min p 0).toNat ≤ 2 ^ (1 - p).toNat * 2 ^ (p - min p 0).toNat := Nat.mul_le_mul_right _ hb2
          rw [← Nat.pow_add] at h3
          have e : (1 - p).toNat + (p - min p 0).toNat = 1 + (0 - min p 0).toNat := by omega
          rw [e, Nat.pow_add] at h3
          generalize 2 ^ (0 - min p 0).toNat = x at *
          omega
      generalize m * 2 ^ (p - min p 0).toNat = A at *
      generalize 4503599627370496 * 2 ^ (0 - min p 0).toNat = B at *
      rcases cmp_cases (A : Int) (B : Int) with ⟨h3, h4⟩ | ⟨h3, h4⟩ | ⟨h3, h4⟩
      · rw [h3]
      · omega
      · omega
    rw [o1] at b1
    rcases b1 with b1 | b1 <;> cases b1
end Go.Fl
