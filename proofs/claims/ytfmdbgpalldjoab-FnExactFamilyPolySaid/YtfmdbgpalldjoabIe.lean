/- How great numbers are behind the operations of IEEE 754: powers of two that bound them; what is rounded stays finite below a bound. -/
import Ieee.Arith
import Derived.Laws.FloatBits
namespace Go.Ie
open Ieee

/-- |d| is less than 2 ^ E (a number) -/
def Lt (d : Datum) (E : Int) : Prop := ∃ s m p, d = .number s m p ∧ (m = 0 ∨ (m.log2 : Int) + p < E)
/-- |d| is at least 2 ^ E (a number that is not 0) -/
def Ge (d : Datum) (E : Int) : Prop := ∃ s m p, d = .number s m p ∧ m ≠ 0 ∧ E ≤ (m.log2 : Int) + p

theorem Lt.mono {d : Datum} {E F : Int} (h : Lt d E) (hE : E ≤ F) : Lt d F := by
  obtain ⟨s, m, p, rfl, h⟩ := h
  exact ⟨s, m, p, rfl, by omega⟩

theorem log2_lt {m k : Nat} (h0 : m ≠ 0) (h : m < 2 ^ k) : m.log2 < k := (Nat.log2_lt h0).2 h
theorem log2_le' {m n : Nat} (h0 : m ≠ 0) (h : m ≤ n) : m.log2 ≤ n.log2 := by
  have hn : n ≠ 0 := by omega
  have := Nat.log2_self_le h0
  exact (Nat.le_log2 hn).2 (Nat.le_trans this h)
theorem self_lt (m : Nat) : m < 2 ^ (m.log2 + 1) := Nat.lt_log2_self

theorem log2_shl {m k : Nat} (h0 : m ≠ 0) : (m <<< k).log2 = m.log2 + k := by
  rw [Nat.shiftLeft_eq]
  have h1 : m * 2 ^ k ≠ 0 := Nat.mul_ne_zero h0 (by have := Nat.two_pow_pos k; omega)
  refine Nat.le_antisymm ?_ ?_
  · have : (m * 2 ^ k).log2 < m.log2 + 1 + k := by
      refine log2_lt h1 ?_
      rw [Nat.pow_add]
      exact Nat.mul_lt_mul_of_pos_right (self_lt m) (Nat.two_pow_pos k)
    omega
  · refine (Nat.le_log2 h1).2 ?_
    rw [Nat.pow_add]
    exact Nat.mul_le_mul_right _ (Nat.log2_self_le h0)

theorem log2_mul {m n : Nat} (hm : m ≠ 0) (hn : n ≠ 0) : m.log2 + n.log2 ≤ (m * n).log2 ∧ (m * n).log2 ≤ m.log2 + n.log2 + 1 := by
  have h1 : m * n ≠ 0 := Nat.mul_ne_zero hm hn
  constructor
  · refine (Nat.le_log2 h1).2 ?_
    rw [Nat.pow_add]
    exact Nat.mul_le_mul (Nat.log2_self_le hm) (Nat.log2_self_le hn)
  · have : (m * n).log2 < m.log2 + 1 + (n.log2 + 1) := by
      refine log2_lt h1 ?_
      rw [Nat.pow_add]
      exact Nat.mul_lt_mul'' (self_lt m) (self_lt n)
    omega

/- WORDS -/
theorem read_word (f : Format) (s : Bool) (r : Nat) (h : r < f.infRung) :
    f.read (f.word s r) = if r < f.binade then .number s r f.leastPlace else .number s (f.binade + r % f.binade) (f.leastPlace + (r / f.binade - 1 : Nat)) := by
  have hsw : f.infRung < f.signWeight := f.infRung_lt
  have hpos : 0 < f.signWeight := by omega
  have e1 : (f.word s r) / f.signWeight % 2 = (if s then 1 else 0) := by
    unfold Format.word
    cases s
    · simp only [Bool.false_eq_true, if_false]; rw [Nat.div_eq_of_lt (by omega)]
    · simp only [if_true]; rw [Nat.add_div_left _ hpos, Nat.div_eq_of_lt (by omega)]
  have e2 : (f.word s r) % f.signWeight = r := by
    unfold Format.word
    cases s
    · simp only [Bool.false_eq_true, if_false]; exact Nat.mod_eq_of_lt (by omega)
    · simp only [if_true]; rw [Nat.add_mod_left]; exact Nat.mod_eq_of_lt (by omega)
  unfold Format.read
  simp only [e1, e2]
  have e3 : ((if s = true then 1 else 0) == 1) = s := by cases s <;> rfl
  rw [e3]
  simp only [h, if_true]

theorem read_inf (f : Format) (hbi : f.binade ≤ f.infRung) (s : Bool) : f.read (f.word s f.infRung) = .infinity s := by
  have hsw : f.infRung < f.signWeight := f.infRung_lt
  have hpos : 0 < f.signWeight := by omega
  have e1 : (f.word s f.infRung) / f.signWeight % 2 = (if s then 1 else 0) := by
    unfold Format.word
    cases s
    · simp only [Bool.false_eq_true, if_false]; rw [Nat.div_eq_of_lt (by omega)]
    · simp only [if_true]; rw [Nat.add_div_left _ hpos, Nat.div_eq_of_lt (by omega)]
  have e2 : (f.word s f.infRung) % f.signWeight = f.infRung := by
    unfold Format.word
    cases s
    · simp only [Bool.false_eq_true, if_false]; exact Nat.mod_eq_of_lt (by omega)
    · simp only [if_true]; rw [Nat.add_mod_left]; exact Nat.mod_eq_of_lt (by omega)
  unfold Format.read
  simp only [e1, e2]
  have e3 : ((if s = true then 1 else 0) == 1) = s := by cases s <;> rfl
  rw [e3]
  rw [if_neg (by omega), if_neg (by omega)]
  simp

/-- What is kept of a magnitude that is rounded: at most two binades. -/
theorem kept_le (F : Nat) (neg : Bool) (mag : Nat) (place last : Int) (h : place + mag.log2 - F ≤ last) :
    Toward.even.cut neg (mag <<< (place - last).toNat) (last - place).toNat ≤ 2 ^ F * 2 := by
  have hm : mag < 2 ^ (mag.log2 + 1) := self_lt mag
  unfold Toward.cut
  dsimp only
  by_cases hp : last ≤ place
  · have e : (last - place).toNat = 0 := by omega
    rw [e]
    simp only [Nat.zero_min, Nat.shiftLeft_zero, Nat.div_one, Nat.mod_one]
    simp only [Nat.mul_zero, Nat.not_lt_zero, decide_false, Bool.false_or]
    have : mag <<< (place - last).toNat < 2 ^ (F + 1) := by
      rw [Nat.shiftLeft_eq]
      refine Nat.lt_of_lt_of_le (Nat.mul_lt_mul_of_pos_right hm (Nat.two_pow_pos _)) ?_
      rw [← Nat.pow_add]
      exact Nat.pow_le_pow_right (by omega) (by omega)
    rw [Nat.pow_succ] at this
    simp
    omega
  · have e : (place - last).toNat = 0 := by omega
    rw [e, Nat.shiftLeft_zero]
    generalize hd : (last - place).toNat = drop
    have hgap : 1 <<< min drop (mag.log2 + 2) = 2 ^ min drop (mag.log2 + 2) := by rw [Nat.shiftLeft_eq, Nat.one_mul]
    rw [hgap]
    have hlow : mag / 2 ^ min drop (mag.log2 + 2) < 2 ^ F * 2 := by
      rw [Nat.div_lt_iff_lt_mul (Nat.two_pow_pos _)]
      refine Nat.lt_of_lt_of_le hm ?_
      rw [← Nat.pow_succ, ← Nat.pow_add]
      exact Nat.pow_le_pow_right (by omega) (by omega)
    have : ∀ b : Bool, b.toNat ≤ 1 := fun b => by cases b <;> decide
    have := this (decide (2 ^ min drop (mag.log2 + 2) < 2 * (mag % 2 ^ min drop (mag.log2 + 2))) || (2 ^ min drop (mag.log2 + 2) == 2 * (mag % 2 ^ min drop (mag.log2 + 2)) && mag / 2 ^ min drop (mag.log2 + 2) % 2 == 1))
    omega

/-- ROUNDING: a number less than 2 ^ E is written as a number less than 2 ^ (E + 1), where the format reaches so far. -/
theorem write_Lt (f : Format) {d : Datum} {E : Int} (h : Lt d E) (hlo : f.leastPlace + f.fractionBits + 1 ≤ E) (hhi : E - f.fractionBits - f.leastPlace + 1 < (2 ^ f.exponentBits - 1 : Nat)) :
    Lt (f.read (f.write d)) (E + 1) := by
  obtain ⟨s, m, p, rfl, hm⟩ := h
  show Lt (f.read (f.nearest s m p)) (E + 1)
  unfold Format.nearest
  have hb : f.binade = 2 ^ f.fractionBits := rfl
  have hbpos : 0 < f.binade := Nat.two_pow_pos _
  have hinf : f.infRung = (2 ^ f.exponentBits - 1) * f.binade := rfl
  by_cases h0 : m = 0
  · rw [if_pos h0]
    have : (0 : Nat) < f.infRung := by
      rw [hinf]
      exact Nat.mul_pos (by omega) hbpos
    rw [read_word f s 0 this, if_pos hbpos]
    exact ⟨_, _, _, rfl, .inl rfl⟩
  · rw [if_neg h0]
    dsimp only
    generalize hl : max (p + (m.log2 : Int) - f.fractionBits) f.leastPlace = last
    have hl1 : p + (m.log2 : Int) - f.fractionBits ≤ last := by omega
    have hl2 : f.leastPlace ≤ last := by omega
    have hl3 : last ≤ E - 1 - f.fractionBits ∨ last = f.leastPlace := by omega
    have hk := kept_le f.fractionBits s m p last hl1
    generalize Toward.even.cut s (m <<< (p - last).toNat) (last - p).toNat = kept at hk
    generalize hL : (last - f.leastPlace).toNat = L
    rw [← hb] at hk
    have hrung : L * f.binade + kept ≤ (L + 2) * f.binade := by rw [Nat.add_mul]; omega
    have hfin : (L + 2) * f.binade < f.infRung := by
      rw [hinf]
      exact Nat.mul_lt_mul_of_pos_right (by omega) hbpos
    have hmin : min (L * f.binade + kept) f.infRung = L * f.binade + kept := by omega
    rw [hmin, read_word f s _ (by omega)]
    split
    · rename_i hsmall
      refine ⟨_, _, _, rfl, ?_⟩
      by_cases hz : L * f.binade + kept = 0
      · exact .inl hz
      · refine .inr ?_
        have := log2_lt hz (by rw [← hb]; exact hsmall)
        omega
    · refine ⟨_, _, _, rfl, .inr ?_⟩
      generalize hr : L * f.binade + kept = r at *
      have h1 : (f.binade + r % f.binade).log2 < f.fractionBits + 1 := by
        refine log2_lt (by omega) ?_
        have := Nat.mod_lt r hbpos
        rw [Nat.pow_succ, ← hb]; omega
      have h2 : r / f.binade ≤ L + 2 := by
        have := Nat.div_le_div_right (c := f.binade) hrung
        rwa [Nat.mul_div_cancel _ hbpos] at this
      omega
/- OPERATIONS -/
theorem signed_abs (s : Bool) (m k : Nat) : (signed s m k).natAbs = m <<< k := by
  cases s
  · exact Int.natAbs_natCast _
  · show (-((m <<< k : Nat) : Int)).natAbs = _
    rw [Int.natAbs_neg]
    exact Int.natAbs_natCast _

theorem sum_Lt {d e : Datum} {E : Int} (hd : Lt d E) (he : Lt e E) : ∃ r, d.sum e = some r ∧ Lt r (E + 1) := by
  obtain ⟨s, m, i, rfl, hm⟩ := hd
  obtain ⟨t, n, j, rfl, hn⟩ := he
  refine ⟨_, rfl, _, _, _, rfl, ?_⟩
  generalize hb : min i j = b
  by_cases h0 : (signed s m (i - b).toNat + signed t n (j - b).toNat).natAbs = 0
  · exact .inl h0
  refine .inr ?_
  have h1 : (signed s m (i - b).toNat + signed t n (j - b).toNat).natAbs ≤ m <<< (i - b).toNat + n <<< (j - b).toNat := by
    rw [← signed_abs s m, ← signed_abs t n]
    exact Int.natAbs_add_le _ _
  have bd : ∀ (m : Nat) (i : Int), b ≤ i → (m = 0 ∨ (m.log2 : Int) + i < E) → m ≠ 0 → m <<< (i - b).toNat < 2 ^ (E - b).toNat := by
    intro m i hbi hm h0
    rw [Nat.shiftLeft_eq]
    refine Nat.lt_of_lt_of_le (Nat.mul_lt_mul_of_pos_right (self_lt m) (Nat.two_pow_pos _)) ?_
    rw [← Nat.pow_add]
    exact Nat.pow_le_pow_right (by omega) (by omega)
  have hsum : m <<< (i - b).toNat + n <<< (j - b).toNat < 2 ^ ((E - b).toNat + 1) := by
    rw [Nat.pow_succ]
    have hp := Nat.two_pow_pos (E - b).toNat
    by_cases hm0 : m = 0
    · by_cases hn0 : n = 0
      · subst hm0 hn0; simp; omega
      · have := bd n j (by omega) hn hn0
        subst hm0; simp; omega
    · have h2 := bd m i (by omega) hm hm0
      by_cases hn0 : n = 0
      · subst hn0; simp; omega
      · have := bd n j (by omega) hn hn0
        omega
  have hlog := log2_lt h0 (Nat.lt_of_le_of_lt h1 hsum)
  have hbE : b < E := by
    rcases Nat.eq_zero_or_pos m with hm0 | hm0
    · rcases Nat.eq_zero_or_pos n with hn0 | hn0
      · exfalso; subst hm0 hn0; simp [signed] at h0
      · omega
    · omega
  omega

theorem opposite_Lt {d : Datum} {E : Int} (h : Lt d E) : Lt d.opposite E := by
  obtain ⟨s, m, i, rfl, hm⟩ := h
  exact ⟨!s, m, i, rfl, hm⟩

theorem product_Lt {d e : Datum} {E F : Int} (hd : Lt d E) (he : Lt e F) : ∃ r, d.product e = some r ∧ Lt r (E + F) := by
  obtain ⟨s, m, i, rfl, hm⟩ := hd
  obtain ⟨t, n, j, rfl, hn⟩ := he
  refine ⟨_, rfl, _, _, _, rfl, ?_⟩
  by_cases hm0 : m = 0
  · exact .inl (by rw [hm0, Nat.zero_mul])
  by_cases hn0 : n = 0
  · exact .inl (by rw [hn0, Nat.mul_zero])
  refine .inr ?_
  have := (log2_mul hm0 hn0).2
  omega

theorem div_log2 {a n : Nat} (hn : n ≠ 0) (h0 : a / n ≠ 0) : (a / n).log2 + n.log2 ≤ a.log2 := by
  have h1 : a / n * n ≤ a := Nat.div_mul_le_self a n
  have h2 := (log2_mul h0 hn).1
  have := log2_le' (Nat.mul_ne_zero h0 hn) h1
  omega

theorem quotient_Lt {digits : Nat} {d e : Datum} {E F : Int} (hd : Lt d E) (he : Ge e F) : ∃ r, d.quotient digits e = some r ∧ Lt r (E - F) := by
  obtain ⟨s, m, i, rfl, hm⟩ := hd
  obtain ⟨t, n, j, rfl, hn0, hn⟩ := he
  unfold Datum.quotient
  simp only [hn0, if_false]
  refine ⟨_, rfl, _, _, _, rfl, ?_⟩
  generalize hmore : digits + n.log2 - m.log2 = more
  by_cases hm0 : m = 0
  · left; subst hm0; simp
  refine .inr ?_
  have hD : (m <<< more).log2 = m.log2 + more := log2_shl hm0
  have hge : 1 ≤ m <<< more / n ∨ (m <<< more) / n = 0 := (Nat.eq_zero_or_pos _).symm
  have hbit : (m <<< more % n != 0).toNat ≤ 1 := by cases (m <<< more % n != 0) <;> decide
  rcases hge with hge | hz
  · have h1 := div_log2 hn0 (Nat.pos_iff_ne_zero.1 hge)
    generalize m <<< more / n = q at *
    have h2 : (2 * q + (m <<< more % n != 0).toNat).log2 < q.log2 + 2 := by
      refine log2_lt (by omega) ?_
      have := self_lt q
      rw [Nat.pow_succ]; omega
    omega
  · -- the dividend has at least as many digits as n: so the quotient is 0 only just below
    have hlt : m <<< more < n := (Nat.div_eq_zero_iff.1 hz).resolve_left hn0
    have := log2_le' (by rw [Nat.shiftLeft_eq]; exact Nat.mul_ne_zero hm0 (by have := Nat.two_pow_pos more; omega)) (Nat.le_of_lt hlt)
    have h2 : (2 * (m <<< more / n) + (m <<< more % n != 0).toNat).log2 = 0 := by
      rw [hz]
      cases (m <<< more % n != 0) <;> decide
    omega

theorem rootFrom_le (n : Nat) : ∀ (todo root : Nat), root * root ≤ n → Datum.rootFrom n todo root * Datum.rootFrom n todo root ≤ n := by
  intro todo
  induction todo with
  | zero => intro root h; exact h
  | succ k ih =>
    intro root h
    unfold Datum.rootFrom
    dsimp only
    split
    · rename_i hle; exact ih _ hle
    · exact ih _ h

/-- a root is a number that is not less than 0, or -0; and it is not great -/
theorem root_Lt {digits : Nat} {d : Datum} {E : Int} (hd : Lt d E) (hs : d.neg = false) : ∃ r, d.root digits = some r ∧ Lt r (E / 2 + 1) ∧ r.neg = false := by
  obtain ⟨s, m, i, rfl, hm⟩ := hd
  have hs' : s = false := hs
  subst hs'
  unfold Datum.root
  by_cases hm0 : m = 0
  · subst hm0
    exact ⟨_, rfl, ⟨_, _, _, rfl, .inl rfl⟩, rfl⟩
  simp only [hm0, if_false, Bool.false_eq_true]
  refine ⟨_, rfl, ⟨_, _, _, rfl, ?_⟩, rfl⟩
  generalize hmo : 2 * digits - m.log2 = more0
  generalize hmore : more0 + ((i - (more0 : Int)) % 2).toNat = more
  have hD : (m <<< more).log2 = m.log2 + more := log2_shl hm0
  generalize hn : m <<< more = n at *
  have hle := rootFrom_le n (n.log2 / 2 + 1) 0 (by omega)
  generalize Datum.rootFrom n (n.log2 / 2 + 1) 0 = whole at *
  have hbit : ((whole * whole != n)).toNat ≤ 1 := by cases (whole * whole != n) <;> decide
  by_cases hw : whole = 0
  · by_cases hq : 2 * whole + (whole * whole != n).toNat = 0
    · exact .inl hq
    · refine .inr ?_
      have h2 : (2 * whole + (whole * whole != n).toNat).log2 = 0 := by
        rw [hw]
        cases (0 * 0 != n) <;> decide
      omega
  · refine .inr ?_
    have h1 := (log2_mul hw hw).1
    have h3 : (whole * whole).log2 ≤ n.log2 := log2_le' (Nat.mul_ne_zero hw hw) hle
    have h2 : (2 * whole + (whole * whole != n).toNat).log2 < whole.log2 + 2 := by
      refine log2_lt (by omega) ?_
      have := self_lt whole
      rw [Nat.pow_succ]; omega
    omega
end Go.Ie
