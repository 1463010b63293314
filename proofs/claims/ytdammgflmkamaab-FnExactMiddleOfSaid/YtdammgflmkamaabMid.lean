/- The middle of a gap: two ways that round once; a power of two moves the place alone. -/
import Derived.Test.YtdammgflmkamaabFast
namespace Go.Mid
open Ieee Go.Ie Go.Fl Go.Fq

/-- what is kept of a magnitude that is rounded to F + 1 digits -/
def kf (F m : Nat) : Nat := if m.log2 ≤ F then m <<< (F - m.log2) else keptN m (m.log2 - F)

theorem keptN_shift (m d k : Nat) : keptN (m <<< k) (d + k) = keptN m d := by
  unfold keptN
  have hk := Nat.two_pow_pos k
  rw [Nat.shiftLeft_eq, Nat.pow_add, Nat.mul_div_mul_right _ _ hk, Nat.mul_mod_mul_right]
  have c0 : 2 * (m % 2 ^ d * 2 ^ k) = (2 * (m % 2 ^ d)) * 2 ^ k := by rw [Nat.mul_assoc]
  rw [c0, ← dec_blt, ← dec_blt, ← beq_nat (2 ^ d * 2 ^ k), ← beq_nat (2 ^ d)]
  have c1 : decide (2 ^ d * 2 ^ k < 2 * (m % 2 ^ d) * 2 ^ k) = decide (2 ^ d < 2 * (m % 2 ^ d)) :=
    decide_eq_decide.2 (Nat.mul_lt_mul_right hk)
  have c2 : (2 ^ d * 2 ^ k == 2 * (m % 2 ^ d) * 2 ^ k) = (2 ^ d == 2 * (m % 2 ^ d)) := by
    rw [Bool.eq_iff_iff, beq_iff_eq, beq_iff_eq]
    exact ⟨fun h => Nat.eq_of_mul_eq_mul_right hk h, fun h => congrArg (· * 2 ^ k) h⟩
  rw [c1, c2]

theorem kf_shift (F m k : Nat) (h0 : m ≠ 0) : kf F (m <<< k) = kf F m := by
  unfold kf
  rw [log2_shl h0]
  by_cases h1 : m.log2 + k ≤ F
  · rw [if_pos h1, if_pos (by omega), Nat.shiftLeft_eq, Nat.shiftLeft_eq, Nat.shiftLeft_eq, Nat.mul_assoc, ← Nat.pow_add]
    congr 2
    omega
  · rw [if_neg h1]
    by_cases h2 : m.log2 ≤ F
    · rw [if_pos h2]
      have e : k = (F - m.log2) + (m.log2 + k - F) := by omega
      have e2 : m <<< k = (m <<< (F - m.log2)) <<< (m.log2 + k - F) := by
        rw [Nat.shiftLeft_eq, Nat.shiftLeft_eq, Nat.shiftLeft_eq, Nat.mul_assoc, ← Nat.pow_add, ← e]
      rw [e2]
      have := keptN_shift (m <<< (F - m.log2)) 0 (m.log2 + k - F)
      rw [Nat.zero_add] at this
      rw [this]
      unfold keptN
      rw [Nat.pow_zero, Nat.div_one, Nat.mod_one]
      rfl
    · rw [if_neg h2]
      have e : m.log2 + k - F = (m.log2 - F) + k := by omega
      rw [e, keptN_shift]

theorem kf_bd (F m : Nat) (h0 : m ≠ 0) : 2 ^ F ≤ kf F m ∧ kf F m ≤ 2 ^ F * 2 := by
  unfold kf
  by_cases h : m.log2 ≤ F
  · rw [if_pos h]
    have hl : (m <<< (F - m.log2)).log2 = F := by rw [log2_shl h0]; omega
    have hne : m <<< (F - m.log2) ≠ 0 := by rw [Nat.shiftLeft_eq]; exact Nat.mul_ne_zero h0 (by have := Nat.two_pow_pos (F - m.log2); omega)
    have h1 := Nat.log2_self_le hne
    have h2 := self_lt (m <<< (F - m.log2))
    rw [hl] at h1 h2
    rw [Nat.pow_succ] at h2
    omega
  · rw [if_neg h]
    constructor
    · unfold keptN
      refine Nat.le_trans ?_ (Nat.le_add_right _ _)
      rw [Nat.le_div_iff_mul_le (Nat.two_pow_pos _), ← Nat.pow_add]
      have e : F + (m.log2 - F) = m.log2 := by omega
      rw [e]
      exact Nat.log2_self_le h0
    · have := kept_le F false m 0 ((m.log2 : Int) - F) (by omega)
      have e1 : ((0 : Int) - ((m.log2 : Int) - F)).toNat = 0 := by omega
      have e2 : ((m.log2 : Int) - F - 0).toNat = m.log2 - F := by omega
      rw [e1, e2, Nat.shiftLeft_zero, cut_kept false m _ (by omega)] at this
      exact this

/-- the word of a number in the normal range -/
theorem write_kf (f : Format) {s : Bool} {m : Nat} {p : Int} (h0 : m ≠ 0) (hlo : f.leastPlace ≤ p + m.log2 - f.fractionBits)
    (hhi : p + m.log2 - f.fractionBits - f.leastPlace + 3 ≤ (2 ^ f.exponentBits - 1 : Nat)) :
    f.write (.number s m p) = f.word s ((p + m.log2 - f.fractionBits - f.leastPlace).toNat * f.binade + kf f.fractionBits m) := by
  have hb : f.binade = 2 ^ f.fractionBits := rfl
  have hinf : f.infRung = (2 ^ f.exponentBits - 1) * f.binade := rfl
  show f.nearest s m p = _
  unfold Format.nearest
  rw [if_neg h0]
  dsimp only
  have hl : max (p + (m.log2 : Int) - f.fractionBits) f.leastPlace = p + (m.log2 : Int) - f.fractionBits := by omega
  rw [hl]
  have hk : Toward.even.cut s (m <<< (p - (p + (m.log2 : Int) - f.fractionBits)).toNat) (p + (m.log2 : Int) - f.fractionBits - p).toNat = kf f.fractionBits m := by
    unfold kf
    by_cases h : m.log2 ≤ f.fractionBits
    · rw [if_pos h]
      refine cut_exact s _ _ _ ?_
      have e1 : (p - (p + (m.log2 : Int) - f.fractionBits)).toNat = f.fractionBits - m.log2 := by omega
      have e2 : (p + (m.log2 : Int) - f.fractionBits - p).toNat = 0 := by omega
      rw [e1, e2, Nat.pow_zero, Nat.mul_one]
    · rw [if_neg h]
      have e1 : (p - (p + (m.log2 : Int) - f.fractionBits)).toNat = 0 := by omega
      have e2 : (p + (m.log2 : Int) - f.fractionBits - p).toNat = m.log2 - f.fractionBits := by omega
      rw [e1, e2, Nat.shiftLeft_zero, cut_kept s m _ (by omega)]
  rw [hk]
  have hbd := kf_bd f.fractionBits m h0
  rw [← hb] at hbd
  generalize kf f.fractionBits m = q at *
  generalize hL : (p + (m.log2 : Int) - f.fractionBits - f.leastPlace).toNat = L
  have : (L + 3) * f.binade ≤ f.infRung := by
    rw [hinf]
    exact Nat.mul_le_mul_right _ (by omega)
  rw [Nat.add_mul] at this
  rw [Nat.min_eq_left (by omega)]

/-- what is read of a rounded number: a full magnitude, and its place; scaled, it is the scaled number rounded -/
theorem read_scaled (f : Format) {s : Bool} {m : Nat} {p : Int} (h0 : m ≠ 0) (hlo : f.leastPlace ≤ p + m.log2 - f.fractionBits)
    (hhi : p + m.log2 - f.fractionBits - f.leastPlace + 4 ≤ (2 ^ f.exponentBits - 1 : Nat)) :
    ∃ (M : Nat) (P : Int), f.read (f.write (.number s m p)) = .number s M P ∧ M ≠ 0 ∧ M.log2 = f.fractionBits ∧
      ∀ (k h : Nat), f.leastPlace ≤ p - h + m.log2 - f.fractionBits → f.write (.number s (M <<< k) (P - h - k)) = f.write (.number s m (p - h)) := by
  have hb : f.binade = 2 ^ f.fractionBits := rfl
  have hbpos : 0 < f.binade := Nat.two_pow_pos _
  have hinf : f.infRung = (2 ^ f.exponentBits - 1) * f.binade := rfl
  have hbd := kf_bd f.fractionBits m h0
  have hk0 : kf f.fractionBits m ≠ 0 := by have := Nat.two_pow_pos f.fractionBits; omega
  rw [write_kf f h0 hlo (by omega)]
  obtain ⟨q, hq⟩ : ∃ q, q = kf f.fractionBits m := ⟨_, rfl⟩
  obtain ⟨L, hL⟩ : ∃ L, L = (p + (m.log2 : Int) - f.fractionBits - f.leastPlace).toNat := ⟨_, rfl⟩
  have hW : ∀ h : Nat, f.leastPlace ≤ p - h + m.log2 - f.fractionBits → f.write (.number s m (p - h)) = f.word s ((L - h) * f.binade + q) := by
    intro h hh
    rw [write_kf f h0 hh (by omega), hq]
    congr 3
    omega
  rw [← hq] at hbd hk0 ⊢
  rw [← hL]
  rw [← hb] at hbd
  have hfin : L * f.binade + q < f.infRung := by
    have : (L + 3) * f.binade ≤ f.infRung := by
      rw [hinf]
      exact Nat.mul_le_mul_right _ (by omega)
    rw [Nat.add_mul] at this
    omega
  rw [read_word f s _ hfin, if_neg (by omega)]
  by_cases hq2 : q = f.binade * 2
  · have hdiv : (L * f.binade + q) / f.binade = L + 2 := by
      have e : L * f.binade + q = f.binade * (L + 2) := by rw [hq2, Nat.mul_add, Nat.mul_comm]
      rw [e, Nat.mul_div_cancel_left _ hbpos]
    have hmod : (L * f.binade + q) % f.binade = 0 := by
      have e : L * f.binade + q = f.binade * (L + 2) := by rw [hq2, Nat.mul_add, Nat.mul_comm]
      rw [e, Nat.mul_mod_right]
    rw [hdiv, hmod, Nat.add_zero]
    have hlog : f.binade.log2 = f.fractionBits := by rw [hb]; exact Nat.log2_two_pow
    refine ⟨_, _, rfl, by omega, hlog, fun k h hh => ?_⟩
    rw [hW h hh]
    have hs0 : f.binade <<< k ≠ 0 := by rw [Nat.shiftLeft_eq]; exact Nat.mul_ne_zero (by omega) (by have := Nat.two_pow_pos k; omega)
    have hsl : (f.binade <<< k).log2 = f.fractionBits + k := by rw [log2_shl (by omega), hlog]
    rw [write_kf f hs0 (by rw [hsl]; omega) (by rw [hsl]; omega), kf_shift _ _ _ (by omega), hsl]
    have hkb : kf f.fractionBits f.binade = f.binade := by unfold kf; rw [hlog, if_pos (Nat.le_refl _), Nat.sub_self, Nat.shiftLeft_zero]
    rw [hkb]
    congr 1
    have e : (f.leastPlace + ((L + 2 - 1 : Nat) : Int) - h - k + ((f.fractionBits + k : Nat) : Int) - f.fractionBits - f.leastPlace).toNat = L - h + 1 := by omega
    rw [e, hq2, Nat.add_mul, Nat.one_mul]
    omega
  · have hq3 : q < f.binade * 2 := by omega
    have hdiv : (L * f.binade + q) / f.binade = L + 1 := by
      have e : L * f.binade + q = (q - f.binade) + f.binade * (L + 1) := by
        rw [Nat.mul_add, Nat.mul_one, Nat.mul_comm]; omega
      rw [e, Nat.add_mul_div_left _ _ hbpos, Nat.div_eq_of_lt (by omega)]
      omega
    have hmod : (L * f.binade + q) % f.binade = q - f.binade := by
      have e : L * f.binade + q = (q - f.binade) + f.binade * (L + 1) := by
        rw [Nat.mul_add, Nat.mul_one, Nat.mul_comm]; omega
      rw [e, Nat.add_mul_mod_self_left, Nat.mod_eq_of_lt (by omega)]
    rw [hdiv, hmod]
    have e3 : f.binade + (q - f.binade) = q := by omega
    rw [e3]
    have hlog : q.log2 = f.fractionBits := by
      refine Nat.le_antisymm ?_ ((Nat.le_log2 hk0).2 (by rw [← hb]; omega))
      have : q.log2 < f.fractionBits + 1 := log2_lt hk0 (by rw [Nat.pow_succ, ← hb]; omega)
      omega
    refine ⟨_, _, rfl, hk0, hlog, fun k h hh => ?_⟩
    rw [hW h hh]
    have hs0 : q <<< k ≠ 0 := by rw [Nat.shiftLeft_eq]; exact Nat.mul_ne_zero hk0 (by have := Nat.two_pow_pos k; omega)
    have hsl : (q <<< k).log2 = f.fractionBits + k := by rw [log2_shl hk0, hlog]
    rw [write_kf f hs0 (by rw [hsl]; omega) (by rw [hsl]; omega), kf_shift _ _ _ hk0, hsl]
    have hkb : kf f.fractionBits q = q := by unfold kf; rw [hlog, if_pos (Nat.le_refl _), Nat.sub_self, Nat.shiftLeft_zero]
    rw [hkb]
    congr 3
    omega

/-- a power of two, read -/
theorem read_pow (f : Format) (h : Nat) (hlo : f.leastPlace + f.fractionBits ≤ 0) (hhi : (h : Int) - f.fractionBits - f.leastPlace + 2 ≤ (2 ^ f.exponentBits - 1 : Nat)) :
    f.read (f.write (.number false (2 ^ h) 0)) = .number false (2 ^ f.fractionBits) ((h : Int) - f.fractionBits) := by
  have h0 : (2 : Nat) ^ h ≠ 0 := by have := Nat.two_pow_pos h; omega
  have e : (2 : Nat) ^ h = 1 <<< h := by rw [Nat.shiftLeft_eq, Nat.one_mul]
  have l1 : Nat.log2 1 = 0 := by decide
  have := write_exact_shift f (s := false) (m := 1) (k := h) (p := h) (by decide) (by omega) (by rw [l1]; omega) (by rw [l1]; omega)
  rw [e]
  have e2 : ((h : Int) - (h : Nat)) = 0 := by omega
  rw [e2] at this
  rw [this, l1, Nat.shiftLeft_eq, Nat.one_mul, Nat.sub_zero]
  simp

theorem quotient_nil (D : Nat) (s : Bool) (P : Int) (n : Nat) (J : Int) (hn : n ≠ 0) : ∃ Q, Datum.quotient D (.number s 0 P) (.number false n J) = some (.number s 0 Q) := by
  unfold Datum.quotient
  dsimp only
  rw [if_neg hn]
  refine ⟨P - J - ((D + n.log2 - Nat.log2 0 : Nat) : Int) - 1, ?_⟩
  have e4 : (s ^^ false) = s := by cases s <;> rfl
  rw [Nat.zero_shiftLeft, Nat.zero_div, Nat.zero_mod, e4]
  rfl
/-- a quotient by a power of two: exact -/
theorem quotient_pow (F D : Nat) (s : Bool) (M : Nat) (P : Int) (h : Nat) (hM : M.log2 = F) (hD : F ≤ D) :
    Datum.quotient D (.number s M P) (.number false (2 ^ F) ((h : Int) - F)) = some (.number s (M <<< (D - F + 1)) (P - h - ((D - F + 1 : Nat) : Int))) := by
  have hp : (2 : Nat) ^ F ≠ 0 := by have := Nat.two_pow_pos F; omega
  unfold Datum.quotient
  dsimp only
  rw [if_neg hp]
  have hl : Nat.log2 (2 ^ F) = F := Nat.log2_two_pow
  rw [hl, hM]
  have e1 : D + F - F = D := by omega
  rw [e1]
  have e2 : M <<< D = (M <<< (D - F)) * 2 ^ F := by rw [Nat.shiftLeft_eq, Nat.shiftLeft_eq, Nat.mul_assoc, ← Nat.pow_add]; congr 2; omega
  rw [e2, Nat.mul_div_cancel _ (Nat.two_pow_pos _), Nat.mul_mod_left]
  have e3 : 2 * (M <<< (D - F)) + (0 != 0 : Bool).toNat = M <<< (D - F + 1) := by
    rw [Nat.shiftLeft_eq, Nat.shiftLeft_eq, Nat.pow_succ]
    simp
    rw [Nat.mul_comm 2, Nat.mul_assoc]
  rw [e3]
  have e4 : (s ^^ false) = s := by cases s <;> rfl
  rw [e4]
  congr 2
  omega

/-- narrowing, where it is told -/
theorem narrow_num {b : Nat} {s : Bool} {m : Nat} {p E : Int} (h : double.read b = .number s m p) (hl : Lt (.number s m p) E) (hE : E ≤ 127) : cv .f64 .f32 b = single.write (.number s m p) := by
  have hd : FloatKind.f64.decode b = .number s m p := h
  unfold cv floatToFloatBits
  rw [if_neg (by decide), hd]
  have h1 := single_write_Lt (hl.mono hE) (by omega) (by omega)
  have h2 : (FloatKind.f32.decode (FloatKind.f32.encode (.number s m p))).isInfinity = false := Lt_not_inf h1
  simp [h2]
  rfl

/-- what the middle is, rounded once -/
def mid (S : Int) (h : Nat) : Nat := single.write (.number (decide (S < 0)) S.natAbs (-(h : Int)))

theorem natAbs_log {S : Int} (h0 : S ≠ 0) (h1 : -2199023255552 ≤ S) (h2 : S ≤ 2199023255552) : S.natAbs ≠ 0 ∧ S.natAbs.log2 ≤ 41 := by
  refine ⟨by omega, ?_⟩
  have : S.natAbs.log2 < 42 := log2_lt (by omega) (by have : (2 : Nat) ^ 42 = 4398046511104 := by decide
                                                      omega)
  omega

theorem mid_num (S : Int) (h : Nat) (h1 : -2199023255552 ≤ S) (h2 : S ≤ 2199023255552) (hh : h ≤ 31) : isN .f32 (mid S h) = false := by
  show (single.read (mid S h)).isNaN = false
  by_cases h0 : S = 0
  · subst h0
    have e2 : mid 0 h = 0 := by
      show single.nearest false 0 (-(h : Int)) = 0
      unfold Format.nearest
      rw [if_pos rfl]; rfl
    rw [e2]; decide
  · obtain ⟨hm0, hml⟩ := natAbs_log h0 h1 h2
    obtain ⟨M, P, hr, _, _⟩ := read_scaled single (s := decide (S < 0)) (m := S.natAbs) (p := -(h : Int)) hm0 (by show (-149 : Int) ≤ -(h : Int) + (S.natAbs.log2 : Int) - 23; omega) (by show -(h : Int) + (S.natAbs.log2 : Int) - 23 - (-149) + 4 ≤ ((2 ^ 8 - 1 : Nat) : Int); omega)
    unfold mid
    rw [hr]
    rfl

/-- the way over 32-bit numbers -/
theorem way32 (S : Int) (h : Nat) (h1 : -2199023255552 ≤ S) (h2 : S ≤ 2199023255552) (hh : h ≤ 31) :
    ar .quo .f32 (FloatKind.f32.nearest S) (FloatKind.f32.nearest ((2 ^ h : Nat) : Int)) = mid S h := by
  have hb : FloatKind.f32.nearest ((2 ^ h : Nat) : Int) = single.write (.number false (2 ^ h) 0) := by
    show single.write (.number (decide (((2 ^ h : Nat) : Int) < 0)) ((2 ^ h : Nat) : Int).natAbs 0) = _
    rw [decide_eq_false (Int.not_lt.2 (Int.natCast_nonneg _)), Int.natAbs_natCast]
  have ha : FloatKind.f32.nearest S = single.write (.number (decide (S < 0)) S.natAbs 0) := rfl
  rw [ha, hb]
  show ((((single.read _).quotient 25 (single.read _)).map single.write)).getD (qn .f32) = _
  have hrp : single.read (single.write (.number false (2 ^ h) 0)) = .number false (2 ^ 23) ((h : Int) - ((23 : Nat) : Int)) := read_pow single h (by decide) (by show (h : Int) - 23 - (-149) + 2 ≤ ((2 ^ 8 - 1 : Nat) : Int); omega)
  rw [hrp]
  by_cases h0 : S = 0
  · subst h0
    show ((((single.read (single.write (.number false 0 0))).quotient 25 (.number false (2 ^ 23) ((h : Int) - ((23 : Nat) : Int)))).map single.write)).getD (qn .f32) = single.write (.number false 0 (-(h : Int)))
    have e1 : single.read (single.write (.number false 0 0)) = .number false 0 (-149) := by decide
    rw [e1]
    obtain ⟨Q, hQ⟩ := quotient_nil 25 false (-149) (2 ^ 23) ((h : Int) - ((23 : Nat) : Int)) (by decide)
    rw [hQ]
    simp [Format.write, Format.nearest]
  · obtain ⟨hm0, hml⟩ := natAbs_log h0 h1 h2
    obtain ⟨M, P, hr, _, hM, hsc⟩ := read_scaled single (s := decide (S < 0)) (m := S.natAbs) (p := 0) hm0 (by show (-149 : Int) ≤ 0 + (S.natAbs.log2 : Int) - 23; omega) (by show 0 + (S.natAbs.log2 : Int) - 23 - (-149) + 4 ≤ ((2 ^ 8 - 1 : Nat) : Int); omega)
    rw [hr, quotient_pow 23 25 _ M P h hM (by omega)]
    show single.write (.number _ (M <<< 3) (P - h - ((3 : Nat) : Int))) = _
    rw [hsc 3 h (by show (-149 : Int) ≤ 0 - (h : Int) + (S.natAbs.log2 : Int) - 23; omega)]
    unfold mid
    congr 2
    omega

/-- the way over 64-bit numbers, narrowed -/
theorem way64 (S : Int) (h : Nat) (h1 : -2199023255552 ≤ S) (h2 : S ≤ 2199023255552) (hh : h ≤ 31) :
    Fits .f64 .f32 (ar .quo .f64 (FloatKind.f64.nearest S) (FloatKind.f64.nearest ((2 ^ h : Nat) : Int))) ∧
    cv .f64 .f32 (ar .quo .f64 (FloatKind.f64.nearest S) (FloatKind.f64.nearest ((2 ^ h : Nat) : Int))) = mid S h := by
  have hb : FloatKind.f64.nearest ((2 ^ h : Nat) : Int) = double.write (.number false (2 ^ h) 0) := by
    show double.write (.number (decide (((2 ^ h : Nat) : Int) < 0)) ((2 ^ h : Nat) : Int).natAbs 0) = _
    rw [decide_eq_false (Int.not_lt.2 (Int.natCast_nonneg _)), Int.natAbs_natCast]
  have ha : FloatKind.f64.nearest S = double.write (.number (decide (S < 0)) S.natAbs 0) := rfl
  rw [ha, hb]
  have hrp : double.read (double.write (.number false (2 ^ h) 0)) = .number false (2 ^ 52) ((h : Int) - ((52 : Nat) : Int)) := read_pow double h (by decide) (by show (h : Int) - 52 - (-1074) + 2 ≤ ((2 ^ 11 - 1 : Nat) : Int); omega)
  have hq : ar .quo .f64 (double.write (.number (decide (S < 0)) S.natAbs 0)) (double.write (.number false (2 ^ h) 0)) = double.write (.number (decide (S < 0)) S.natAbs (-(h : Int))) := by
    show ((((double.read _).quotient 54 (double.read _)).map double.write)).getD (qn .f64) = _
    rw [hrp]
    by_cases h0 : S = 0
    · subst h0
      show ((((double.read (double.write (.number false 0 0))).quotient 54 (.number false (2 ^ 52) ((h : Int) - ((52 : Nat) : Int)))).map double.write)).getD (qn .f64) = double.write (.number false 0 (-(h : Int)))
      have e1 : double.read (double.write (.number false 0 0)) = .number false 0 (-1074) := by decide
      rw [e1]
      obtain ⟨Q, hQ⟩ := quotient_nil 54 false (-1074) (2 ^ 52) ((h : Int) - ((52 : Nat) : Int)) (by decide)
      rw [hQ]
      simp [Format.write, Format.nearest]
    · obtain ⟨hm0, hml⟩ := natAbs_log h0 h1 h2
      obtain ⟨M, P, hr, _, hM, hsc⟩ := read_scaled double (s := decide (S < 0)) (m := S.natAbs) (p := 0) hm0 (by show (-1074 : Int) ≤ 0 + (S.natAbs.log2 : Int) - 52; omega) (by show 0 + (S.natAbs.log2 : Int) - 52 - (-1074) + 4 ≤ ((2 ^ 11 - 1 : Nat) : Int); omega)
      rw [hr, quotient_pow 52 54 _ M P h hM (by omega)]
      show double.write (.number _ (M <<< 3) (P - h - ((3 : Nat) : Int))) = _
      rw [hsc 3 h (by show (-1074 : Int) ≤ 0 - (h : Int) + (S.natAbs.log2 : Int) - 52; omega)]
      congr 2
      omega
  rw [hq]
  by_cases h0 : S = 0
  · subst h0
    have e : double.write (.number (decide ((0 : Int) < 0)) (0 : Int).natAbs (-(h : Int))) = 0 := by
      show double.nearest false 0 (-(h : Int)) = 0
      unfold Format.nearest
      rw [if_pos rfl]; rfl
    have e2 : mid 0 h = 0 := by
      show single.nearest false 0 (-(h : Int)) = 0
      unfold Format.nearest
      rw [if_pos rfl]; rfl
    rw [e, e2]
    exact ⟨.inr (by decide), by decide⟩
  · obtain ⟨hm0, hml⟩ := natAbs_log h0 h1 h2
    have hx := write_exact double (s := decide (S < 0)) (m := S.natAbs) (p := -(h : Int)) hm0 (by show S.natAbs.log2 ≤ 52; omega) (by show (-1074 : Int) ≤ -(h : Int) + (S.natAbs.log2 : Int) - 52; omega) (by show -(h : Int) + (S.natAbs.log2 : Int) - 52 - (-1074) + 2 ≤ ((2 ^ 11 - 1 : Nat) : Int); omega)
    have hlt : Lt (.number (decide (S < 0)) (S.natAbs <<< (double.fractionBits - S.natAbs.log2)) (-(h : Int) + (S.natAbs.log2 : Int) - (double.fractionBits : Nat))) 60 := by
      refine ⟨_, _, _, rfl, .inr ?_⟩
      rw [log2_shl hm0]
      show (((S.natAbs.log2 + (52 - S.natAbs.log2) : Nat)) : Int) + (-(h : Int) + (S.natAbs.log2 : Int) - ((52 : Nat) : Int)) < 60
      omega
    refine ⟨fits_narrow (E := 60) (by rw [hx]; exact hlt) (by omega), ?_⟩
    rw [narrow_num hx hlt (by omega)]
    have hw := write_kf single (s := decide (S < 0)) (m := S.natAbs <<< (double.fractionBits - S.natAbs.log2)) (p := -(h : Int) + (S.natAbs.log2 : Int) - (double.fractionBits : Nat))
    unfold mid
    have hsl : (S.natAbs <<< (double.fractionBits - S.natAbs.log2)).log2 = 52 := by rw [log2_shl hm0]; show S.natAbs.log2 + (52 - S.natAbs.log2) = 52; omega
    have hs0 : S.natAbs <<< (double.fractionBits - S.natAbs.log2) ≠ 0 := fun e => by rw [e] at hsl; revert hsl; decide
    have hF : (double.fractionBits : Int) = 52 := rfl
    have hF2 : (single.fractionBits : Int) = 23 := rfl
    have hP2 : single.leastPlace = -149 := rfl
    have hX2 : ((2 ^ single.exponentBits - 1 : Nat) : Int) = 255 := rfl
    rw [hw hs0 (by rw [hsl]; omega) (by rw [hsl]; omega), kf_shift _ _ _ hm0, hsl, write_kf single hm0 (by omega) (by omega)]
    congr 3
    omega
/-- the two ways as the operations run them -/
theorem bits32 (S : Int) (h : Nat) (h1 : -2199023255552 ≤ S) (h2 : S ≤ 2199023255552) (hh : h ≤ 31) :
    floatBits .quo .f32 (FloatKind.f32.nearest S) (FloatKind.f32.nearest ((2 ^ h : Nat) : Int)) = some (mid S h) := by
  have h3 := way32 S h h1 h2 hh
  unfold ar at h3
  cases hb : floatBits .quo .f32 (FloatKind.f32.nearest S) (FloatKind.f32.nearest ((2 ^ h : Nat) : Int)) with
  | some r => rw [hb] at h3; exact congrArg some h3
  | none =>
    rw [hb] at h3
    exact absurd (show isN .f32 (mid S h) = true by rw [← h3]; exact qn_isN .f32) (by rw [mid_num S h h1 h2 hh]; decide)
theorem bits64 (S : Int) (h : Nat) (h1 : -2199023255552 ≤ S) (h2 : S ≤ 2199023255552) (hh : h ≤ 31) :
    ∃ q, floatBits .quo .f64 (FloatKind.f64.nearest S) (FloatKind.f64.nearest ((2 ^ h : Nat) : Int)) = some q ∧ floatToFloatBits .f64 q .f32 = some (mid S h) := by
  obtain ⟨h3, h4⟩ := way64 S h h1 h2 hh
  have hm := mid_num S h h1 h2 hh
  have key : ∀ q, Fits .f64 .f32 q → cv .f64 .f32 q = mid S h → floatToFloatBits .f64 q .f32 = some (mid S h) := by
    intro q hf hc
    have hn : isN .f64 q = false := by
      cases hq : isN .f64 q with
      | false => rfl
      | true => rw [cv_nan (by decide) hq] at hc; rw [← hc] at hm; exact absurd hm (by decide)
    rcases hf with hf | hf
    · rw [hn] at hf; cases hf
    · obtain ⟨r, hr⟩ := Option.isSome_iff_exists.1 hf
      have : cv .f64 .f32 q = r := by unfold cv; rw [hr]; rfl
      rw [hr, ← this, hc]
  unfold ar at h3 h4
  cases hb : floatBits .quo .f64 (FloatKind.f64.nearest S) (FloatKind.f64.nearest ((2 ^ h : Nat) : Int)) with
  | some r =>
    rw [hb] at h3 h4
    exact ⟨r, rfl, key r h3 h4⟩
  | none =>
    rw [hb] at h3 h4
    have h5 : cv .f64 .f32 (qn .f64) = mid S h := h4
    rw [cv_nan (by decide) (qn_isN .f64)] at h5
    rw [← h5] at hm
    exact absurd hm (by decide)
end Go.Mid
