/- The sine of turns, as the document tells it, on the bits of 64-bit numbers. -/
import Derived.Test.YtibpahkjjjhapabAng
import Derived.Test.YtibpahkjjjhapabFlF
namespace Go.Fl
open Ieee Go.Ie

theorem signed_eq (s : Bool) (m k : Nat) : signed s m k = if s then -((m * 2 ^ k : Nat) : Int) else ((m * 2 ^ k : Nat) : Int) := by
  have : signed s m k = if s then -((m <<< k : Nat) : Int) else ((m <<< k : Nat) : Int) := rfl
  rw [this, Nat.shiftLeft_eq]

/-- the whole part of a magnitude -/
def whole (m : Nat) (p : Int) : Nat := if 0 ≤ p then m * 2 ^ p.toNat else m / 2 ^ (-p).toNat

theorem cut_zero (s : Bool) (m : Nat) (p : Int) : Toward.zero.cut s (m <<< p.toNat) (-p).toNat = whole m p := by
  unfold Toward.cut whole
  dsimp only
  rw [Nat.shiftLeft_eq 1, Nat.one_mul]
  by_cases hp : 0 ≤ p
  · have e : (-p).toNat = 0 := by omega
    rw [e, Nat.zero_min, Nat.pow_zero, Nat.div_one, if_pos hp, Nat.shiftLeft_eq]; rfl
  · have e : p.toNat = 0 := by omega
    rw [e, Nat.shiftLeft_zero, if_neg hp]
    by_cases hmin : (-p).toNat ≤ m.log2 + 2
    · rw [Nat.min_eq_left hmin]; rfl
    · rw [Nat.min_eq_right (by omega), Nat.div_eq_of_lt (Nat.lt_of_lt_of_le (self_lt m) (Nat.pow_le_pow_right (by omega) (by omega))), Nat.div_eq_of_lt (Nat.lt_of_lt_of_le (self_lt m) (Nat.pow_le_pow_right (by omega) (by omega)))]; rfl

/-- what is left behind the whole part, at the place b -/
theorem rest_le {m : Nat} {p b : Int} (hb : b ≤ p) (hb0 : b ≤ 0) : whole m p * 2 ^ (-b).toNat ≤ m * 2 ^ (p - b).toNat ∧ m * 2 ^ (p - b).toNat ≤ whole m p * 2 ^ (-b).toNat + 2 ^ (-b).toNat := by
  unfold whole
  by_cases hp : 0 ≤ p
  · rw [if_pos hp]
    have e : (p - b).toNat = p.toNat + (-b).toNat := by omega
    rw [e, Nat.pow_add, Nat.mul_assoc]
    exact ⟨Nat.le_refl _, Nat.le_add_right _ _⟩
  · rw [if_neg hp]
    have e : (-b).toNat = (-p).toNat + (p - b).toNat := by omega
    rw [e, Nat.pow_add]
    generalize (-p).toNat = a
    generalize (p - b).toNat = c
    have h1 := Nat.div_mul_le_self m (2 ^ a)
    have h2 : m < (m / 2 ^ a + 1) * 2 ^ a := by
      have := Nat.lt_div_mul_add (a := m) (Nat.two_pow_pos a)
      rw [Nat.add_mul, Nat.one_mul]; exact this
    constructor
    · rw [← Nat.mul_assoc]
      exact Nat.mul_le_mul_right _ h1
    · have h3 : m * 2 ^ c ≤ (m / 2 ^ a + 1) * 2 ^ a * 2 ^ c := Nat.mul_le_mul_right _ (Nat.le_of_lt h2)
      rw [Nat.add_mul, Nat.one_mul, Nat.add_mul, Nat.mul_assoc] at h3
      exact h3

def fr (y : Nat) : Nat := ar .sub .f64 y (floatOfInt .f64 (trunc y))

theorem trunc_eq {y : Nat} {s : Bool} {m : Nat} {p : Int} (hd : double.read y = .number s m p) : trunc y = signed s (whole m p) 0 := by
  unfold trunc
  rw [hd]
  have e : (Datum.number s m p).toInt .zero = some (signed s (Toward.zero.cut s (m <<< p.toNat) (-p).toNat) 0) := rfl
  rw [e, cut_zero, Option.getD_some]

/-- THE PLACES BEHIND THE POINT: at most 1 -/
theorem nm_fr {y : Nat} {s : Bool} {m : Nat} {p : Int} (hd : double.read y = .number s m p) (hw : whole m p < 4503599627370496) : Nm (fr y) 0 := by
  have hp := (double_bound hd).2.1
  unfold fr
  rw [trunc_eq hd]
  -- what is taken away, as a datum
  obtain ⟨T, P, hF, hP, hT⟩ : ∃ (T : Nat) (P : Int), (double.read (floatOfInt .f64 (signed s (whole m p) 0))).opposite = .number (if whole m p = 0 then true else !s) T P ∧ P ≤ 0 ∧ ∀ b : Int, b ≤ P → T * 2 ^ (P - b).toNat = whole m p * 2 ^ (-b).toNat := by
    by_cases h0 : whole m p = 0
    · have e : signed s (whole m p) 0 = 0 := by rw [h0]; cases s <;> rfl
      rw [e, h0, if_pos rfl]
      refine ⟨0, -1074, by decide, by omega, fun b _ => by simp⟩
    · have hl := log2_lt (k := 52) h0 hw
      have hna : (signed s (whole m p) 0).natAbs = whole m p := by rw [signed_abs, Nat.shiftLeft_zero]
      have hne : signed s (whole m p) 0 ≠ 0 := by intro h; rw [h] at hna; exact h0 hna.symm
      have hneg : decide (signed s (whole m p) 0 < 0) = s := by
        rw [signed_eq, Nat.pow_zero, Nat.mul_one]
        cases s
        · rw [decide_eq_false_iff_not]; simp only [Bool.false_eq_true, if_false]; omega
        · rw [decide_eq_true_iff]; simp only [if_true]; omega
      have h1 := int_exact (signed s (whole m p) 0) hne (by rw [hna]; omega)
      rw [hna, hneg] at h1
      rw [h1, if_neg h0]
      refine ⟨_, _, rfl, by omega, fun b hb => ?_⟩
      rw [Nat.shiftLeft_eq, Nat.mul_assoc, ← Nat.pow_add]
      congr 2
      omega
  have hsum : ∃ r, (Datum.number s m p).sum (Datum.number (if whole m p = 0 then true else !s) T P) = some r ∧ Le r 0 := by
    refine ⟨_, rfl, _, _, _, rfl, .inr ⟨by omega, ?_⟩⟩
    generalize hb : min p P = b
    obtain ⟨r1, r2⟩ := rest_le (m := m) (p := p) (b := b) (by omega) (by omega)
    have hTb := hT b (by omega)
    rw [signed_eq, signed_eq]
    rw [hTb]
    have e : (0 - b).toNat = (-b).toNat := by omega
    rw [e]
    by_cases h0 : whole m p = 0
    · rw [if_pos h0]
      rw [h0, Nat.zero_mul] at r1 r2 ⊢
      generalize m * 2 ^ (p - b).toNat = A at *
      cases s
      · simp only [Bool.false_eq_true, if_false, if_true]; omega
      · simp only [if_true]; omega
    · rw [if_neg h0]
      generalize m * 2 ^ (p - b).toNat = A at *
      generalize whole m p * 2 ^ (-b).toNat = B at *
      cases s
      · simp only [Bool.false_eq_true, if_false, Bool.not_false, if_true]; omega
      · simp only [if_true, Bool.not_true, Bool.false_eq_true, if_false]; omega
  obtain ⟨r, hr, hL⟩ := hsum
  have e : floatBits .sub .f64 y (floatOfInt .f64 (signed s (whole m p) 0)) = some (double.write r) := by
    show double.sub y _ = _
    unfold Format.sub
    rw [hd, hF, hr]; rfl
  unfold Nm ar
  rw [e, Option.getD_some]
  exact d_write_Le hL (by omega) (by omega)

/-- against a bound: 2 ^ 52 -/
theorem big_cases {y : Nat} {s : Bool} {m : Nat} {p : Int} (hd : double.read y = .number s m p) :
    (FloatKind.f64.format.order (absN y) 4841369599423283200 = some .lt ∧ FloatKind.f64.format.order y 4841369599423283200 = some .lt ∧ FloatKind.f64.format.order y 14064741636278059008 = some .gt ∧ whole m p < 4503599627370496)
    ∨ ((FloatKind.f64.format.order (absN y) 4841369599423283200 = some .eq ∨ FloatKind.f64.format.order (absN y) 4841369599423283200 = some .gt) ∧
       ((FloatKind.f64.format.order y 4841369599423283200 = some .eq ∨ FloatKind.f64.format.order y 4841369599423283200 = some .gt) ∨ (FloatKind.f64.format.order y 4841369599423283200 = some .lt ∧ (FloatKind.f64.format.order y 14064741636278059008 = some .lt ∨ FloatKind.f64.format.order y 14064741636278059008 = some .eq)))) := by
  have hc : double.read 4841369599423283200 = .number false 4503599627370496 0 := by decide
  have hc' : double.read 14064741636278059008 = .number true 4503599627370496 0 := by decide
  have ha : double.read (absN y) = .number false m p := by rw [read_abs, hd]; rfl
  have o1 : FloatKind.f64.format.order (absN y) 4841369599423283200 = some (compare (signed false m (p - min p 0).toNat) (signed false 4503599627370496 (0 - min p 0).toNat)) := by
    show (double.read _).order (double.read _) = _
    rw [ha, hc]; rfl
  have o2 : FloatKind.f64.format.order y 4841369599423283200 = some (compare (signed s m (p - min p 0).toNat) (signed false 4503599627370496 (0 - min p 0).toNat)) := by
    show (double.read _).order (double.read _) = _
    rw [hd, hc]; rfl
  have o3 : FloatKind.f64.format.order y 14064741636278059008 = some (compare (signed s m (p - min p 0).toNat) (signed true 4503599627370496 (0 - min p 0).toNat)) := by
    show (double.read _).order (double.read _) = _
    rw [hd, hc']; rfl
  rw [o1, o2, o3]
  have hwl := (rest_le (m := m) (p := p) (b := min p 0) (by omega) (by omega)).1
  have e0 : (0 - min p 0).toNat = (-min p 0).toNat := by omega
  rw [signed_eq, signed_eq, signed_eq, signed_eq, e0]
  have hpos := Nat.two_pow_pos (-min p 0).toNat
  generalize m * 2 ^ (p - min p 0).toNat = A at *
  have hlt : A < 4503599627370496 * 2 ^ (-min p 0).toNat → whole m p < 4503599627370496 := by
    intro h
    refine Classical.byContradiction fun h' => ?_
    have := Nat.mul_le_mul_right (2 ^ (-min p 0).toNat) (show 4503599627370496 ≤ whole m p by omega)
    omega
  have hB : 4503599627370496 * 2 ^ (-min p 0).toNat ≥ 1 := by
    have := Nat.mul_le_mul_left 4503599627370496 hpos
    omega
  generalize 4503599627370496 * 2 ^ (-min p 0).toNat = B at *
  simp only [Bool.false_eq_true, if_false, if_true]
  rcases cmp_cases (A : Int) (B : Int) with ⟨h1, h2⟩ | ⟨h1, h2⟩ | ⟨h1, h2⟩
  · left
    refine ⟨by rw [h1], ?_, ?_, hlt (by omega)⟩
    · cases s
      · simp only [Bool.false_eq_true, if_false]; rw [h1]
      · simp only [if_true]
        rcases cmp_cases (-(A : Int)) (B : Int) with ⟨h3, h4⟩ | ⟨h3, h4⟩ | ⟨h3, h4⟩
        · rw [h3]
        · omega
        · omega
    · cases s
      · simp only [Bool.false_eq_true, if_false]
        rcases cmp_cases (A : Int) (-(B : Int)) with ⟨h3, h4⟩ | ⟨h3, h4⟩ | ⟨h3, h4⟩
        · omega
        · omega
        · rw [h3]
      · simp only [if_true]
        rcases cmp_cases (-(A : Int)) (-(B : Int)) with ⟨h3, h4⟩ | ⟨h3, h4⟩ | ⟨h3, h4⟩
        · omega
        · omega
        · rw [h3]
  all_goals
    right
    refine ⟨by rw [h1]; simp, ?_⟩
    cases s
    · left; simp only [Bool.false_eq_true, if_false]; rw [h1]; simp
    · right
      simp only [if_true]
      refine ⟨?_, ?_⟩
      · rcases cmp_cases (-(A : Int)) (B : Int) with ⟨h3, h4⟩ | ⟨h3, h4⟩ | ⟨h3, h4⟩
        · rw [h3]
        · omega
        · omega
      · rcases cmp_cases (-(A : Int)) (-(B : Int)) with ⟨h3, h4⟩ | ⟨h3, h4⟩ | ⟨h3, h4⟩
        · rw [h3]; simp
        · rw [h3]; simp
        · omega

/-- the sum's rounds -/
def sp (u : Nat) : Nat → Nat
  | 0 => 4607182418800017408
  | j + 1 => ar .sub .f64 4607182418800017408 (ar .quo .f64 (ar .mul .f64 u (sp u j)) (floatOfInt .f64 (2 * (8 - (j : Int)) * (2 * (8 - (j : Int)) + 1))))

theorem ng_int2 {n : Int} (h : 4 ≤ n) (hn : n < 9007199254740992) : Ng (floatOfInt .f64 n) 2 := by
  have h1 := int_exact n (by omega) (by omega)
  refine ⟨_, _, _, h1, ?_, ?_⟩
  · rw [Nat.shiftLeft_eq]; exact Nat.mul_ne_zero (by omega) (by have := Nat.two_pow_pos (52 - n.natAbs.log2); omega)
  · rw [log2_shl (by omega)]
    have h2 := log2_lt (k := 53) (show n.natAbs ≠ 0 by omega) (by omega)
    have h3 : 2 ≤ n.natAbs.log2 := (Nat.le_log2 (by omega)).2 (by omega)
    omega

theorem k_bounds {j : Nat} (hj : j < 8) : 6 ≤ 2 * (8 - (j : Int)) * (2 * (8 - (j : Int)) + 1) ∧ 2 * (8 - (j : Int)) * (2 * (8 - (j : Int)) + 1) ≤ 272 := by
  have : j = 0 ∨ j = 1 ∨ j = 2 ∨ j = 3 ∨ j = 4 ∨ j = 5 ∨ j = 6 ∨ j = 7 := by omega
  rcases this with rfl | rfl | rfl | rfl | rfl | rfl | rfl | rfl <;> decide

theorem sp_step {u : Nat} (hu : Nm u 6) {j : Nat} (hj : j < 8) (h : Nm (sp u j) (5 * j)) : Nm (ar .mul .f64 u (sp u j)) (5 * j + 6) ∧ Nm (ar .quo .f64 (ar .mul .f64 u (sp u j)) (floatOfInt .f64 (2 * (8 - (j : Int)) * (2 * (8 - (j : Int)) + 1)))) (5 * j + 4) ∧ Nm (sp u (j + 1)) (5 * (j + 1 : Nat)) := by
  obtain ⟨k1, k2⟩ := k_bounds hj
  have h1 : Nm (ar .mul .f64 u (sp u j)) (5 * j + 6) := nm_mul hu h (by omega) (by omega) (by omega)
  have h2 : Nm (ar .quo .f64 (ar .mul .f64 u (sp u j)) (floatOfInt .f64 (2 * (8 - (j : Int)) * (2 * (8 - (j : Int)) + 1)))) (5 * j + 4) := nm_div h1 (ng_int2 (by omega) (by omega)) (by omega) (by omega) (by omega)
  refine ⟨h1, h2, ?_⟩
  unfold sp
  exact nm_sub (A := 5 * j + 4) (nm_one.mono (by omega)) h2 (by omega) (by omega) (by omega)
theorem nm_sp {u : Nat} (hu : Nm u 6) : ∀ j, j ≤ 8 → Nm (sp u j) (5 * j) := by
  intro j
  induction j with
  | zero => intro _; exact nm_one
  | succ j ih => intro hj; exact (sp_step hu (by omega) (ih (by omega))).2.2

theorem sp_ops {P : Program} {u : Nat} (hu : Nm u 6) {j : Nat} (hj : j < 8) : ∃ a b : Nat,
    (∀ t w, (binOp .mul t (.float .f64 u) (.float .f64 (sp u j))).run P w = .ok (.float .f64 a) w) ∧
    (∀ t w, (binOp .quo t (.float .f64 a) (.float .f64 (floatOfInt .f64 (2 * (8 - (j : Int)) * (2 * (8 - (j : Int)) + 1))))).run P w = .ok (.float .f64 b) w) ∧
    (∀ t w, (binOp .sub t (.float .f64 4607182418800017408) (.float .f64 b)).run P w = .ok (.float .f64 (sp u (j + 1))) w) := by
  obtain ⟨h1, h2, h3⟩ := sp_step hu hj (nm_sp hu j (by omega))
  exact ⟨_, _, fun t w => run_nm h1 t w, fun t w => run_nm h2 t w, fun t w => run_nm (op := .sub) h3 t w⟩

/-- f, or f + 1 -/
def f1f (b : Bool) (f : Nat) : Nat := if b then ar .add .f64 f 4607182418800017408 else f
def f2f (b : Bool) (f : Nat) : Nat := if b then ar .sub .f64 f 4602678819172646912 else f
def f3f (b : Bool) (f : Nat) : Nat := if b then ar .sub .f64 4602678819172646912 f else f
def ltz (f : Nat) : Bool := FloatKind.f64.format.order f 0 == some .lt
def geh (f : Nat) : Bool := FloatKind.f64.format.order f 4602678819172646912 == some .gt || FloatKind.f64.format.order f 4602678819172646912 == some .eq
def gtq (f : Nat) : Bool := FloatKind.f64.format.order f 4598175219545276416 == some .gt

theorem read_half : double.read 4602678819172646912 = .number false 4503599627370496 (-53) := by decide
theorem read_quarter : double.read 4598175219545276416 = .number false 4503599627370496 (-54) := by decide

theorem nm_f1 {f : Nat} (h : Nm f 0) : (ltz f = true → Nm (ar .add .f64 f 4607182418800017408) 0) ∧ Nm (f1f (ltz f) f) 0 := by
  have key : ltz f = true → Nm (ar .add .f64 f 4607182418800017408) 0 := by
    intro hl
    obtain ⟨s, m, p, hd, _⟩ := id h
    have hs : s = true := by
      unfold ltz at hl
      have hd' : FloatKind.f64.format.read f = _ := hd
      rw [order_zero, hd'] at hl
      cases s
      · by_cases h0 : m = 0 <;> simp [h0] at hl
      · rfl
    subst hs
    exact nm_add_opp (by decide) hd read_one h nm_one (by omega) (by omega)
  refine ⟨key, ?_⟩
  cases hl : ltz f with
  | true => exact key hl
  | false => exact h

/-- what is not less than a number greater than 0 has no sign -/
theorem pos_of_ge {f c M m : Nat} {s : Bool} {p P : Int} (hd : double.read f = .number s m p) (hc : double.read c = .number false M P) (hM : M ≠ 0) (ho : FloatKind.f64.format.order f c ≠ some .lt) : s = false := by
  cases s with
  | false => rfl
  | true =>
    exfalso
    apply ho
    show (double.read f).order (double.read c) = _
    rw [hd, hc]
    show some (compare (signed true m (p - min p P).toNat) (signed false M (P - min p P).toNat)) = _
    rw [signed_eq, signed_eq]
    have : M * 2 ^ (P - min p P).toNat ≠ 0 := Nat.mul_ne_zero hM (by have := Nat.two_pow_pos (P - min p P).toNat; omega)
    generalize M * 2 ^ (P - min p P).toNat = B at *
    generalize m * 2 ^ (p - min p P).toNat = A
    simp only [Bool.false_eq_true, if_false, if_true]
    rcases cmp_cases (-(A : Int)) (B : Int) with ⟨h3, h4⟩ | ⟨h3, h4⟩ | ⟨h3, h4⟩
    · rw [h3]
    · omega
    · omega

theorem nm_f2 {f : Nat} (h : Nm f 0) : (geh f = true → Nm (ar .sub .f64 f 4602678819172646912) 0) ∧ Nm (f2f (geh f) f) 0 := by
  have key : geh f = true → Nm (ar .sub .f64 f 4602678819172646912) 0 := by
    intro hl
    obtain ⟨s, m, p, hd, _⟩ := id h
    have hs : s = false := pos_of_ge hd read_half (by decide) (by intro h'; unfold geh at hl; rw [h'] at hl; cases hl)
    subst hs
    exact nm_sub_opp hd read_half h (nm_q5) (by omega) (by omega)
  refine ⟨key, ?_⟩
  cases hl : geh f with
  | true => exact key hl
  | false => exact h
theorem nm_f3 {f : Nat} (h : Nm f 0) : (gtq f = true → Nm (ar .sub .f64 4602678819172646912 f) 0) ∧ Nm (f3f (gtq f) f) 0 := by
  have key : gtq f = true → Nm (ar .sub .f64 4602678819172646912 f) 0 := by
    intro hl
    obtain ⟨s, m, p, hd, _⟩ := id h
    have hs : s = false := pos_of_ge hd read_quarter (by decide) (by intro h'; unfold gtq at hl; rw [h'] at hl; cases hl)
    subst hs
    exact nm_sub_opp read_half hd (nm_q5) h (by omega) (by omega)
  refine ⟨key, ?_⟩
  cases hl : gtq f with
  | true => exact key hl
  | false => exact h

/-- the sine's value of a part of a turn that is folded -/
def sv (f : Nat) : Nat := ar .mul .f64 (ar .mul .f64 f 4618760256179416344) (sp (ar .mul .f64 (ar .mul .f64 f 4618760256179416344) (ar .mul .f64 f 4618760256179416344)) 8)

theorem sv_ops {P : Program} {f : Nat} (h : Nm f 0) : ∃ z u : Nat, Nm u 6 ∧ Nm (sv f) 43 ∧
    (∀ t w, (binOp .mul t (.float .f64 f) (.float .f64 4618760256179416344)).run P w = .ok (.float .f64 z) w) ∧
    (∀ t w, (binOp .mul t (.float .f64 z) (.float .f64 z)).run P w = .ok (.float .f64 u) w) ∧
    (∀ t w, (binOp .mul t (.float .f64 z) (.float .f64 (sp u 8))).run P w = .ok (.float .f64 (sv f)) w) := by
  have hz : Nm (ar .mul .f64 f 4618760256179416344) 3 := nm_mul h nm_2pi (by omega) (by omega) (by omega)
  have hu : Nm (ar .mul .f64 (ar .mul .f64 f 4618760256179416344) (ar .mul .f64 f 4618760256179416344)) 6 := nm_mul hz hz (by omega) (by omega) (by omega)
  have hs : Nm (sv f) 43 := nm_mul hz (nm_sp hu 8 (by omega)) (by omega) (by omega) (by omega)
  exact ⟨_, _, hu, hs, fun t w => run_nm hz t w, fun t w => run_nm hu t w, fun t w => run_nm (op := .mul) hs t w⟩

/-- a sign turned, or not -/
def ngf (b : Bool) (a : Nat) : Nat := if b then Op.negFloat .f64 a else a
/-- the part of a turn -/
def partW (y : Nat) : Nat := f1f (ltz (fr y)) (fr y)
/-- THE SINE of y turns -/
def sinW (y : Nat) : Nat := ngf (geh (partW y)) (sv (f3f (gtq (f2f (geh (partW y)) (partW y))) (f2f (geh (partW y)) (partW y))))
theorem nm_ngf {a : Nat} {E : Int} (h : Nm a E) (b : Bool) : Nm (ngf b a) E := by
  cases b
  · exact h
  · exact nm_neg h
theorem order_some {f c : Nat} {s t : Bool} {m n : Nat} {i j : Int} (hd : double.read f = .number s m i) (hc : double.read c = .number t n j) : FloatKind.f64.format.order f c = some .lt ∨ FloatKind.f64.format.order f c = some .eq ∨ FloatKind.f64.format.order f c = some .gt := by
  have : FloatKind.f64.format.order f c = some (compare (signed s m (i - min i j).toNat) (signed t n (j - min i j).toNat)) := by
    show (double.read f).order (double.read c) = _
    rw [hd, hc]; rfl
  rw [this]
  cases compare (signed s m (i - min i j).toNat) (signed t n (j - min i j).toNat) <;> simp
theorem geh_cases {f : Nat} (h : Nm f 0) : (FloatKind.f64.format.order f 4602678819172646912 = some .lt ∧ geh f = false) ∨ ((FloatKind.f64.format.order f 4602678819172646912 = some .eq ∨ FloatKind.f64.format.order f 4602678819172646912 = some .gt) ∧ geh f = true) := by
  obtain ⟨s, m, p, hd, _⟩ := h
  unfold geh
  rcases order_some hd read_half with h | h | h <;> rw [h] <;> simp
theorem gtq_cases {f : Nat} (h : Nm f 0) : ((FloatKind.f64.format.order f 4598175219545276416 = some .lt ∨ FloatKind.f64.format.order f 4598175219545276416 = some .eq) ∧ gtq f = false) ∨ (FloatKind.f64.format.order f 4598175219545276416 = some .gt ∧ gtq f = true) := by
  obtain ⟨s, m, p, hd, _⟩ := h
  unfold gtq
  rcases order_some hd read_quarter with h | h | h <;> rw [h] <;> simp
theorem ltz_cases {f : Nat} (h : Nm f 0) : (FloatKind.f64.format.order f 0 = some .lt ∧ ltz f = true) ∨ ((FloatKind.f64.format.order f 0 = some .eq ∨ FloatKind.f64.format.order f 0 = some .gt) ∧ ltz f = false) := by
  obtain ⟨s, m, p, hd, _⟩ := h
  have h0 : double.read 0 = .number false 0 (-1074) := by decide
  unfold ltz
  rcases order_some hd h0 with h | h | h <;> rw [h] <;> simp
theorem k_wrap {j : Nat} (hj : j < 8) : IntKind.i64.wrap (2 * (8 - (j : Int)) * (2 * (8 - (j : Int)) + 1)) = 2 * (8 - (j : Int)) * (2 * (8 - (j : Int)) + 1) := by
  obtain ⟨h1, h2⟩ := k_bounds hj
  rw [IntKind.wrap_i64]
  omega
end Go.Fl
