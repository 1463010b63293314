/- Bounds that rounding keeps: at most a power of two, at least a power of two; what is written exactly. -/
import Derived.Test.YtibpahkjjjhapabIe
namespace Go.Ie
open Ieee

/-- |d| is at most 2 ^ E (a number) -/
def Le (d : Datum) (E : Int) : Prop := ∃ s m p, d = .number s m p ∧ (m = 0 ∨ p ≤ E ∧ m ≤ 2 ^ (E - p).toNat)

theorem Le.mono {d : Datum} {E F : Int} (h : Le d E) (hE : E ≤ F) : Le d F := by
  obtain ⟨s, m, p, rfl, h⟩ := h
  refine ⟨s, m, p, rfl, ?_⟩
  rcases h with h | ⟨h1, h2⟩
  · exact .inl h
  · exact .inr ⟨by omega, Nat.le_trans h2 (Nat.pow_le_pow_right (by omega) (by omega))⟩

theorem Le.to_Lt {d : Datum} {E : Int} (h : Le d E) : Lt d (E + 1) := by
  obtain ⟨s, m, p, rfl, h⟩ := h
  refine ⟨s, m, p, rfl, ?_⟩
  rcases h with h | ⟨h1, h2⟩
  · exact .inl h
  · by_cases h0 : m = 0
    · exact .inl h0
    · have : m < 2 ^ ((E - p).toNat + 1) := by rw [Nat.pow_succ]; have := Nat.two_pow_pos (E - p).toNat; omega
      have := log2_lt h0 this
      exact .inr (by omega)
theorem Lt.to_Le {d : Datum} {E : Int} (h : Lt d E) : Le d E := by
  obtain ⟨s, m, p, rfl, h⟩ := h
  refine ⟨s, m, p, rfl, ?_⟩
  rcases h with h | h
  · exact .inl h
  · by_cases h0 : m = 0
    · exact .inl h0
    · exact .inr ⟨by omega, Nat.le_of_lt (Nat.lt_of_lt_of_le (self_lt m) (Nat.pow_le_pow_right (by omega) (by omega)))⟩

/-- what is kept of a power of two, or of what needs no cut -/
theorem cut_exact (neg : Bool) (n drop q : Nat) (h : n = q * 2 ^ drop) : Toward.even.cut neg n drop = q := by
  unfold Toward.cut
  dsimp only
  by_cases h0 : q = 0
  · subst h0
    have : n = 0 := by rw [h, Nat.zero_mul]
    subst this
    simp
  · have hn : n ≠ 0 := by rw [h]; exact Nat.mul_ne_zero h0 (by have := Nat.two_pow_pos drop; omega)
    have hd : drop ≤ n.log2 := by
      refine (Nat.le_log2 hn).2 ?_
      rw [h]
      exact Nat.le_mul_of_pos_left _ (by omega)
    have e : min drop (n.log2 + 2) = drop := by omega
    rw [e, Nat.shiftLeft_eq, Nat.one_mul, h, Nat.mul_div_cancel _ (Nat.two_pow_pos _), Nat.mul_mod_left]
    have := Nat.two_pow_pos drop
    simp

/-- ROUNDING KEEPS a power of two as a bound. -/
theorem write_Le (f : Format) {d : Datum} {E : Int} (h : Le d E) (hlo : f.leastPlace + f.fractionBits + 1 ≤ E) (hhi : E - f.fractionBits - f.leastPlace + 2 < (2 ^ f.exponentBits - 1 : Nat)) :
    Le (f.read (f.write d)) E := by
  obtain ⟨s, m, p, rfl, hm⟩ := h
  have hb : f.binade = 2 ^ f.fractionBits := rfl
  have hbpos : 0 < f.binade := Nat.two_pow_pos _
  have hinf : f.infRung = (2 ^ f.exponentBits - 1) * f.binade := rfl
  show Le (f.read (f.nearest s m p)) E
  unfold Format.nearest
  by_cases h0 : m = 0
  · rw [if_pos h0]
    have : (0 : Nat) < f.infRung := by
      rw [hinf]
      exact Nat.mul_pos (by omega) hbpos
    rw [read_word f s 0 this, if_pos hbpos]
    exact ⟨_, _, _, rfl, .inl rfl⟩
  rw [if_neg h0]
  dsimp only
  obtain ⟨hpE, hmE⟩ := hm.resolve_left h0
  generalize hl : max (p + (m.log2 : Int) - f.fractionBits) f.leastPlace = last
  have hl1 : p + (m.log2 : Int) - f.fractionBits ≤ last := by omega
  have hl2 : f.leastPlace ≤ last := by omega
  by_cases heq : m = 2 ^ (E - p).toNat
  · have hlog : m.log2 = (E - p).toNat := by rw [heq]; exact Nat.log2_two_pow
    have hlast : last = E - f.fractionBits := by omega
    have hkept : Toward.even.cut s (m <<< (p - last).toNat) (last - p).toNat = f.binade := by
      refine cut_exact s _ _ _ ?_
      rw [Nat.shiftLeft_eq, heq, hb, ← Nat.pow_add, ← Nat.pow_add]
      congr 1
      omega
    rw [hkept]
    generalize hL : (last - f.leastPlace).toNat = L
    have hr : L * f.binade + f.binade = (L + 1) * f.binade := by rw [Nat.add_mul, Nat.one_mul]
    have hfin : (L + 1) * f.binade < f.infRung := by
      rw [hinf]
      exact Nat.mul_lt_mul_of_pos_right (by omega) hbpos
    rw [hr, Nat.min_eq_left (Nat.le_of_lt hfin), read_word f s _ hfin]
    rw [if_neg (by rw [Nat.add_mul]; omega)]
    refine ⟨_, _, _, rfl, .inr ?_⟩
    rw [Nat.mul_mod_left, Nat.mul_div_cancel _ hbpos, Nat.add_zero]
    refine ⟨by omega, ?_⟩
    rw [hb]
    exact Nat.pow_le_pow_right (by omega) (by omega)
  · have hlt : m < 2 ^ (E - p).toNat := by omega
    have hlog := log2_lt h0 hlt
    have hl3 : last ≤ E - 1 - f.fractionBits := by omega
    have hk := kept_le f.fractionBits s m p last hl1
    generalize Toward.even.cut s (m <<< (p - last).toNat) (last - p).toNat = kept at hk
    generalize hL : (last - f.leastPlace).toNat = L
    rw [← hb] at hk
    have hrung : L * f.binade + kept ≤ (L + 2) * f.binade := by rw [Nat.add_mul]; omega
    have hfin : (L + 2) * f.binade < f.infRung := by
      rw [hinf]
      exact Nat.mul_lt_mul_of_pos_right (by omega) hbpos
    generalize hr : L * f.binade + kept = r at *
    rw [Nat.min_eq_left (by omega), read_word f s _ (by omega)]
    split
    · rename_i hsmall
      refine ⟨_, _, _, rfl, .inr ⟨by omega, Nat.le_trans (Nat.le_of_lt hsmall) ?_⟩⟩
      rw [hb]
      exact Nat.pow_le_pow_right (by omega) (by omega)
    · refine ⟨_, _, _, rfl, .inr ?_⟩
      have hmod := Nat.mod_lt r hbpos
      have h2 : r / f.binade ≤ L + 2 := by
        have := Nat.div_le_div_right (c := f.binade) hrung
        rwa [Nat.mul_div_cancel _ hbpos] at this
      refine ⟨by omega, ?_⟩
      by_cases h3 : r / f.binade = L + 2
      · have h4 : r % f.binade = 0 := by
          have h5 := Nat.div_add_mod r f.binade
          rw [h3] at h5
          have h6 : f.binade * (L + 2) = (L + 2) * f.binade := Nat.mul_comm _ _
          omega
        rw [h4, h3, Nat.add_zero, hb]
        exact Nat.pow_le_pow_right (by omega) (by omega)
      · have : f.binade + r % f.binade ≤ 2 ^ (f.fractionBits + 1) := by rw [Nat.pow_succ, ← hb]; omega
        exact Nat.le_trans this (Nat.pow_le_pow_right (by omega) (by omega))

/-- EXACTLY: a normal number of few digits, perhaps with zeros behind. -/
theorem write_exact_shift (f : Format) {s : Bool} {m k : Nat} {p : Int} (h0 : m ≠ 0) (hm : m.log2 ≤ f.fractionBits) (hlo : f.leastPlace ≤ p + m.log2 - f.fractionBits)
    (hhi : p + m.log2 - f.fractionBits - f.leastPlace + 2 ≤ (2 ^ f.exponentBits - 1 : Nat)) :
    f.read (f.write (.number s (m <<< k) (p - k))) = .number s (m <<< (f.fractionBits - m.log2)) (p + m.log2 - f.fractionBits) := by
  have hb : f.binade = 2 ^ f.fractionBits := rfl
  have hbpos : 0 < f.binade := Nat.two_pow_pos _
  have hinf : f.infRung = (2 ^ f.exponentBits - 1) * f.binade := rfl
  have hk0 : m <<< k ≠ 0 := by rw [Nat.shiftLeft_eq]; exact Nat.mul_ne_zero h0 (by have := Nat.two_pow_pos k; omega)
  have hklog : (m <<< k).log2 = m.log2 + k := log2_shl h0
  show f.read (f.nearest s (m <<< k) (p - k)) = _
  unfold Format.nearest
  rw [if_neg hk0]
  dsimp only
  have hl : max (p - k + ((m <<< k).log2 : Int) - f.fractionBits) f.leastPlace = p + (m.log2 : Int) - f.fractionBits := by omega
  rw [hl]
  have hcut : Toward.even.cut s (m <<< k <<< (p - k - (p + (m.log2 : Int) - f.fractionBits)).toNat) (p + (m.log2 : Int) - f.fractionBits - (p - k)).toNat = m <<< (f.fractionBits - m.log2) := by
    refine cut_exact s _ _ _ ?_
    rw [Nat.shiftLeft_eq, Nat.shiftLeft_eq, Nat.shiftLeft_eq, Nat.mul_assoc, Nat.mul_assoc, ← Nat.pow_add, ← Nat.pow_add]
    congr 2
    omega
  rw [hcut]
  generalize hL : (p + (m.log2 : Int) - f.fractionBits - f.leastPlace).toNat = L
  have hlog : (m <<< (f.fractionBits - m.log2)).log2 = f.fractionBits := by rw [log2_shl h0]; omega
  have hne : m <<< (f.fractionBits - m.log2) ≠ 0 := by rw [Nat.shiftLeft_eq]; exact Nat.mul_ne_zero h0 (by have := Nat.two_pow_pos (f.fractionBits - m.log2); omega)
  clear hcut
  generalize m <<< (f.fractionBits - m.log2) = q at *
  have hq1 : f.binade ≤ q := by rw [hb, ← hlog]; exact Nat.log2_self_le hne
  have hq2 : q < 2 * f.binade := by
    have := self_lt q
    rw [hlog, Nat.pow_succ, ← hb] at this
    omega
  have hfin : L * f.binade + q < f.infRung := by
    have : (L + 2) * f.binade ≤ f.infRung := by
      rw [hinf]
      exact Nat.mul_le_mul_right _ (by omega)
    rw [Nat.add_mul] at this
    omega
  rw [Nat.min_eq_left (Nat.le_of_lt hfin), read_word f s _ hfin, if_neg (by omega)]
  have hdiv : (L * f.binade + q) / f.binade = L + 1 := by
    have e : L * f.binade + q = (q - f.binade) + f.binade * (L + 1) := by
      rw [Nat.mul_add, Nat.mul_one, Nat.mul_comm]; omega
    rw [e, Nat.add_mul_div_left _ _ hbpos, Nat.div_eq_of_lt (by omega)]
    omega
  have hmod : (L * f.binade + q) % f.binade = q - f.binade := by
    have e : L * f.binade + q = (q - f.binade) + f.binade * (L + 1) := by
      rw [Nat.mul_add, Nat.mul_one, Nat.mul_comm]; omega
    rw [e, Nat.add_mul_mod_self_left, Nat.mod_eq_of_lt (by omega)]
  rw [hdiv, hmod]
  have e3 : f.binade + (q - f.binade) = q := by omega
  have e4 : f.leastPlace + ((L + 1 - 1 : Nat) : Int) = p + (m.log2 : Int) - f.fractionBits := by omega
  rw [e3, e4]
theorem write_exact (f : Format) {s : Bool} {m : Nat} {p : Int} (h0 : m ≠ 0) (hm : m.log2 ≤ f.fractionBits) (hlo : f.leastPlace ≤ p + m.log2 - f.fractionBits)
    (hhi : p + m.log2 - f.fractionBits - f.leastPlace + 2 ≤ (2 ^ f.exponentBits - 1 : Nat)) :
    f.read (f.write (.number s m p)) = .number s (m <<< (f.fractionBits - m.log2)) (p + m.log2 - f.fractionBits) := by
  have := write_exact_shift f (s := s) (k := 0) h0 hm hlo hhi
  simpa using this

/-- ROUNDING KEEPS a power of two as a bound from below. -/
theorem write_Ge (f : Format) {d : Datum} {E : Int} (h : Ge d E) (hlo : f.leastPlace + f.fractionBits ≤ E) (hbi : f.binade ≤ f.infRung) :
    Ge (f.read (f.write d)) E ∨ ∃ s, f.read (f.write d) = .infinity s := by
  obtain ⟨s, m, p, rfl, h0, hm⟩ := h
  have hb : f.binade = 2 ^ f.fractionBits := rfl
  have hbpos : 0 < f.binade := Nat.two_pow_pos _
  show Ge (f.read (f.nearest s m p)) E ∨ ∃ s', f.read (f.nearest s m p) = .infinity s'
  unfold Format.nearest
  simp only [h0, if_false]
  have hl : max (p + (m.log2 : Int) - f.fractionBits) f.leastPlace = p + (m.log2 : Int) - f.fractionBits := by omega
  rw [hl]
  generalize hlast : p + (m.log2 : Int) - f.fractionBits = last
  have hkept : f.binade ≤ Toward.even.cut s (m <<< (p - last).toNat) (last - p).toNat := by
    unfold Toward.cut
    dsimp only
    refine Nat.le_trans ?_ (Nat.le_add_right _ _)
    have hn0 : m <<< (p - last).toNat ≠ 0 := by rw [Nat.shiftLeft_eq]; exact Nat.mul_ne_zero h0 (by have := Nat.two_pow_pos (p - last).toNat; omega)
    have hlog : (m <<< (p - last).toNat).log2 = m.log2 + (p - last).toNat := log2_shl h0
    rw [Nat.shiftLeft_eq 1, Nat.one_mul, Nat.le_div_iff_mul_le (Nat.two_pow_pos _), hb, ← Nat.pow_add]
    exact (Nat.le_log2 hn0).1 (by omega)
  generalize Toward.even.cut s (m <<< (p - last).toNat) (last - p).toNat = kept at *
  generalize hL : (last - f.leastPlace).toNat = L
  by_cases hfin : L * f.binade + kept < f.infRung
  · left
    rw [Nat.min_eq_left (Nat.le_of_lt hfin), read_word f s _ hfin, if_neg (by omega)]
    refine ⟨_, _, _, rfl, by omega, ?_⟩
    have h1 : L + 1 ≤ (L * f.binade + kept) / f.binade := by
      rw [Nat.le_div_iff_mul_le hbpos, Nat.add_mul]; omega
    have h2 : f.fractionBits ≤ (f.binade + (L * f.binade + kept) % f.binade).log2 := (Nat.le_log2 (by omega)).2 (by rw [← hb]; omega)
    omega
  · right
    rw [Nat.min_eq_right (by omega)]
    exact ⟨s, read_inf f hbi s⟩

/- OPERATIONS -/
theorem shl_bound {m : Nat} {i E b : Int} (hb : b ≤ i) (h : m = 0 ∨ i ≤ E ∧ m ≤ 2 ^ (E - i).toNat) (hbE : b ≤ E) : m <<< (i - b).toNat ≤ 2 ^ (E - b).toNat := by
  rw [Nat.shiftLeft_eq]
  rcases h with h | ⟨h1, h2⟩
  · subst h; simp
  · refine Nat.le_trans (Nat.mul_le_mul_right _ h2) ?_
    rw [← Nat.pow_add]
    exact Nat.pow_le_pow_right (by omega) (by omega)

theorem le_bound {m n : Nat} {i j E b : Int} (hb : b = min i j) (hm : m = 0 ∨ i ≤ E ∧ m ≤ 2 ^ (E - i).toNat) (hn : n = 0 ∨ j ≤ E ∧ n ≤ 2 ^ (E - j).toNat) (h : m ≠ 0 ∨ n ≠ 0) : b ≤ E := by
  omega

theorem sum_Le {d e : Datum} {E : Int} (hd : Le d E) (he : Le e E) : ∃ r, d.sum e = some r ∧ Le r (E + 1) := by
  obtain ⟨s, m, i, rfl, hm⟩ := hd
  obtain ⟨t, n, j, rfl, hn⟩ := he
  refine ⟨_, rfl, _, _, _, rfl, ?_⟩
  generalize hb : min i j = b
  by_cases h0 : m = 0 ∧ n = 0
  · left; obtain ⟨rfl, rfl⟩ := h0; simp [signed]
  have hbE := le_bound hb.symm hm hn (by omega)
  refine .inr ⟨by omega, ?_⟩
  have h1 : (signed s m (i - b).toNat + signed t n (j - b).toNat).natAbs ≤ m <<< (i - b).toNat + n <<< (j - b).toNat := by
    rw [← signed_abs s m, ← signed_abs t n]
    exact Int.natAbs_add_le _ _
  have h2 := shl_bound (b := b) (by omega) hm hbE
  have h3 := shl_bound (b := b) (by omega) hn hbE
  have e : (E + 1 - b).toNat = (E - b).toNat + 1 := by omega
  rw [e, Nat.pow_succ]
  omega

/-- numbers of opposite signs: the sum is not greater than both -/
theorem sum_opp {s t : Bool} {m n : Nat} {i j E : Int} (hst : s ≠ t) (hm : Le (.number s m i) E) (hn : Le (.number t n j) E) : ∃ r, (Datum.number s m i).sum (.number t n j) = some r ∧ Le r E := by
  obtain ⟨_, _, _, h1, hm⟩ := hm
  obtain ⟨_, _, _, h2, hn⟩ := hn
  cases h1; cases h2
  refine ⟨_, rfl, _, _, _, rfl, ?_⟩
  generalize hb : min i j = b
  by_cases h0 : m = 0 ∧ n = 0
  · left; obtain ⟨rfl, rfl⟩ := h0; simp [signed]
  have hbE := le_bound hb.symm hm hn (by omega)
  refine .inr ⟨by omega, ?_⟩
  have h2 := shl_bound (b := b) (by omega) hm hbE
  have h3 := shl_bound (b := b) (by omega) hn hbE
  have h4 : (signed s m (i - b).toNat + signed t n (j - b).toNat).natAbs ≤ max (m <<< (i - b).toNat) (n <<< (j - b).toNat) := by
    have e1 : ∀ (s : Bool) (m k : Nat), signed s m k = if s then -((m <<< k : Nat) : Int) else ((m <<< k : Nat) : Int) := fun _ _ _ => rfl
    rw [e1, e1]
    generalize m <<< (i - b).toNat = x
    generalize n <<< (j - b).toNat = y
    revert hst
    cases s <;> cases t
    · intro h; exact absurd rfl h
    · intro _; simp only [Bool.false_eq_true, if_false, if_true]; omega
    · intro _; simp only [Bool.false_eq_true, if_false, if_true]; omega
    · intro h; exact absurd rfl h
  refine Nat.le_trans h4 ?_
  exact Nat.max_le.2 ⟨h2, h3⟩

/-- numbers of one sign: the sum is not less than the second -/
theorem sum_same_Ge {s : Bool} {m n : Nat} {i j E : Int} (hn : Ge (.number s n j) E) : ∃ r, (Datum.number s m i).sum (.number s n j) = some r ∧ Ge r E ∧ r.neg = s := by
  obtain ⟨_, _, _, h1, hn0, hn⟩ := hn
  cases h1
  generalize hb : min i j = b
  have hpos : n <<< (j - b).toNat ≠ 0 := by rw [Nat.shiftLeft_eq]; exact Nat.mul_ne_zero hn0 (by have := Nat.two_pow_pos (j - b).toNat; omega)
  have e1 : ∀ (s : Bool) (m k : Nat), signed s m k = if s then -((m <<< k : Nat) : Int) else ((m <<< k : Nat) : Int) := fun _ _ _ => rfl
  have hlog := log2_le' hpos (Nat.le_add_left (n <<< (j - b).toNat) (m <<< (i - b).toNat))
  rw [log2_shl hn0] at hlog
  have hsum : signed s m (i - b).toNat + signed s n (j - b).toNat = if s then -((m <<< (i - b).toNat + n <<< (j - b).toNat : Nat) : Int) else ((m <<< (i - b).toNat + n <<< (j - b).toNat : Nat) : Int) := by
    rw [e1, e1]
    generalize m <<< (i - b).toNat = x
    generalize n <<< (j - b).toNat = y
    cases s
    · simp only [Bool.false_eq_true, if_false]; omega
    · simp only [if_true]; omega
  have hx : m <<< (i - b).toNat + n <<< (j - b).toNat ≠ 0 := by
    generalize n <<< (j - b).toNat = y at *
    generalize m <<< (i - b).toNat = x at *
    omega
  refine ⟨_, rfl, ⟨_, _, _, rfl, ?_⟩, ?_⟩
  · rw [hb, hsum]
    generalize m <<< (i - b).toNat + n <<< (j - b).toNat = x at *
    have e : (if s = true then -((x : Nat) : Int) else ((x : Nat) : Int)).natAbs = x := by
      cases s
      · simp only [Bool.false_eq_true, if_false]; exact Int.natAbs_natCast _
      · simp only [if_true]; rw [Int.natAbs_neg]; exact Int.natAbs_natCast _
    rw [e]
    exact ⟨hx, by omega⟩
  · show (if signed s m (i - min i j).toNat + signed s n (j - min i j).toNat = 0 then s && s else decide (signed s m (i - min i j).toNat + signed s n (j - min i j).toNat < 0)) = s
    rw [hb, hsum]
    generalize m <<< (i - b).toNat + n <<< (j - b).toNat = x at *
    cases s
    · simp only [Bool.false_eq_true, if_false]
      rw [if_neg (by omega)]
      simp
    · simp only [if_true]
      rw [if_neg (by omega)]
      simp; omega

theorem opposite_Le {d : Datum} {E : Int} (h : Le d E) : Le d.opposite E := by
  obtain ⟨s, m, i, rfl, hm⟩ := h
  exact ⟨!s, m, i, rfl, hm⟩

theorem product_Le {d e : Datum} {E F : Int} (hd : Le d E) (he : Le e F) : ∃ r, d.product e = some r ∧ Le r (E + F) := by
  obtain ⟨s, m, i, rfl, hm⟩ := hd
  obtain ⟨t, n, j, rfl, hn⟩ := he
  refine ⟨_, rfl, _, _, _, rfl, ?_⟩
  by_cases hm0 : m = 0
  · exact .inl (by rw [hm0, Nat.zero_mul])
  by_cases hn0 : n = 0
  · exact .inl (by rw [hn0, Nat.mul_zero])
  obtain ⟨h1, h2⟩ := hm.resolve_left hm0
  obtain ⟨h3, h4⟩ := hn.resolve_left hn0
  refine .inr ⟨by omega, Nat.le_trans (Nat.mul_le_mul h2 h4) ?_⟩
  rw [← Nat.pow_add]
  exact Nat.pow_le_pow_right (by omega) (by omega)
theorem dividend_log2 {m n digits more : Nat} (hm : m ≠ 0) (h : digits + n.log2 - m.log2 = more) : digits + n.log2 ≤ (m <<< more).log2 := by
  rw [log2_shl hm]; omega

/-- the quotient's digits: q = 2 floor + sticky is at most 2 ^ (X + 1) where the dividend is at most n 2 ^ X -/
theorem digits_le {D n X : Nat} (h : D ≤ n * 2 ^ X) : 2 * (D / n) + (D % n != 0).toNat ≤ 2 ^ (X + 1) := by
  have h1 : D / n ≤ 2 ^ X := Nat.div_le_of_le_mul h
  have hm := Nat.div_add_mod D n
  rw [Nat.pow_succ]
  by_cases h2 : D % n = 0
  · rw [h2]; simp; omega
  · have h3 : D / n ≠ 2 ^ X := by
      intro h4
      rw [h4] at hm
      omega
    have : (D % n != 0).toNat ≤ 1 := by cases (D % n != 0) <;> decide
    omega

theorem quotient_Le {digits : Nat} {d e : Datum} {E F : Int} (hd : Le d E) (he : Ge e F) : ∃ r, d.quotient digits e = some r ∧ Le r (E - F) := by
  obtain ⟨s, m, i, rfl, hm⟩ := hd
  obtain ⟨t, n, j, rfl, hn0, hn⟩ := he
  unfold Datum.quotient
  simp only [hn0, if_false]
  refine ⟨_, rfl, _, _, _, rfl, ?_⟩
  generalize hmore : digits + n.log2 - m.log2 = more
  by_cases hm0 : m = 0
  · left; subst hm0; simp
  obtain ⟨hiE, hmE⟩ := hm.resolve_left hm0
  have hD1 := dividend_log2 hm0 hmore
  have hD2 : m <<< more ≤ 2 ^ ((E - i).toNat + more) := by
    rw [Nat.shiftLeft_eq, Nat.pow_add]
    exact Nat.mul_le_mul_right _ hmE
  have hDne : m <<< more ≠ 0 := by rw [Nat.shiftLeft_eq]; exact Nat.mul_ne_zero hm0 (by have := Nat.two_pow_pos more; omega)
  have hlog : (m <<< more).log2 ≤ (E - i).toNat + more := by
    have := log2_lt hDne (Nat.lt_of_le_of_lt hD2 (Nat.pow_lt_pow_right (by omega) (Nat.lt_succ_self _)))
    omega
  have hX : n.log2 ≤ (E - i).toNat + more := by omega
  have hle : m <<< more ≤ n * 2 ^ ((E - i).toNat + more - n.log2) := by
    refine Nat.le_trans hD2 ?_
    have e : (E - i).toNat + more = n.log2 + ((E - i).toNat + more - n.log2) := by omega
    rw [e, Nat.pow_add]
    have e2 : n.log2 + ((E - i).toNat + more - n.log2) - n.log2 = (E - i).toNat + more - n.log2 := by omega
    rw [e2]
    exact Nat.mul_le_mul_right _ (Nat.log2_self_le hn0)
  have hq := digits_le hle
  refine .inr ⟨by omega, Nat.le_trans hq (Nat.pow_le_pow_right (by omega) (by omega))⟩

/-- a quotient of what is not greater by what is not less is at most 1 -/
theorem quotient_one {digits : Nat} {s t : Bool} {m n : Nat} {i j : Int} (hn0 : n ≠ 0) (h : m <<< (i - min i j).toNat ≤ n <<< (j - min i j).toNat) :
    ∃ r, (Datum.number s m i).quotient digits (.number t n j) = some r ∧ Le r 0 := by
  unfold Datum.quotient
  simp only [hn0, if_false]
  refine ⟨_, rfl, _, _, _, rfl, ?_⟩
  generalize hmore : digits + n.log2 - m.log2 = more
  by_cases hm0 : m = 0
  · left; subst hm0; simp
  have hD1 := dividend_log2 hm0 hmore
  rw [log2_shl hm0] at hD1
  have hlog := log2_le' (by rw [Nat.shiftLeft_eq]; exact Nat.mul_ne_zero hm0 (by have := Nat.two_pow_pos (i - min i j).toNat; omega)) h
  rw [log2_shl hm0, log2_shl hn0] at hlog
  -- X = j - i + more is not negative
  have hX : 0 ≤ j - i + (more : Int) := by omega
  have hle : m <<< more ≤ n * 2 ^ (j - i + (more : Int)).toNat := by
    rw [Nat.shiftLeft_eq] at h ⊢
    rw [Nat.shiftLeft_eq] at h
    by_cases hij : i ≤ j
    · have e1 : (i - min i j).toNat = 0 := by omega
      have e2 : (j - min i j).toNat + more = (j - i + (more : Int)).toNat := by omega
      rw [e1, Nat.pow_zero, Nat.mul_one] at h
      rw [← e2, Nat.pow_add, ← Nat.mul_assoc]
      exact Nat.mul_le_mul_right _ h
    · have e1 : (j - min i j).toNat = 0 := by omega
      have e2 : more = (i - min i j).toNat + (j - i + (more : Int)).toNat := by omega
      rw [e1, Nat.pow_zero, Nat.mul_one] at h
      have e3 : 2 ^ more = 2 ^ (i - min i j).toNat * 2 ^ (j - i + (more : Int)).toNat := by rw [← Nat.pow_add, ← e2]
      rw [e3, ← Nat.mul_assoc]
      exact Nat.mul_le_mul_right _ h
  have hq := digits_le hle
  refine .inr ⟨by omega, Nat.le_trans hq (Nat.pow_le_pow_right (by omega) (by omega))⟩
end Go.Ie
