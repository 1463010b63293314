/- Rounding told quickly: the number of digits found by halving, then one division; what is written is read so. -/
import Derived.Test.YtdammgflmkamaabLg
namespace Go.Fq
open Ieee Go.Ie Go.Fl

theorem log2_div {m k : Nat} (h : 2 ^ k ≤ m) : (m / 2 ^ k).log2 = m.log2 - k := by
  have hk := Nat.two_pow_pos k
  have hm : m ≠ 0 := by omega
  have h1 : 2 ^ m.log2 ≤ m := Nat.log2_self_le hm
  have h2 := self_lt m
  have hkl : k ≤ m.log2 := (Nat.le_log2 hm).2 h
  have hd : m / 2 ^ k ≠ 0 := by have := Nat.div_pos h hk; omega
  refine Nat.le_antisymm ?_ ?_
  · have : (m / 2 ^ k).log2 < m.log2 - k + 1 := by
      refine log2_lt hd ?_
      rw [Nat.div_lt_iff_lt_mul hk, ← Nat.pow_add]
      have e : m.log2 - k + 1 + k = m.log2 + 1 := by omega
      rw [e]
      exact h2
    omega
  · refine (Nat.le_log2 hd).2 ?_
    rw [Nat.le_div_iff_mul_le hk, ← Nat.pow_add]
    have e : m.log2 - k + k = m.log2 := by omega
    rw [e]
    exact h1

/-- the number of binary digits but one, by halving how many are looked at -/
def lgGo : Nat → Nat → Nat → Nat
  | 0, _, acc => acc
  | j + 1, m, acc => cond (Nat.ble (2 ^ 2 ^ j) m) (lgGo j (m / 2 ^ 2 ^ j) (acc + 2 ^ j)) (lgGo j m acc)

theorem lgGo_eq : ∀ (j m acc : Nat), m ≠ 0 → m < 2 ^ 2 ^ j → lgGo j m acc = acc + m.log2 := by
  intro j
  induction j with
  | zero =>
    intro m acc h0 h
    have e : m = 1 := by
      have : (2 : Nat) ^ 2 ^ 0 = 2 := by decide
      omega
    subst e
    show acc = acc + Nat.log2 1
    have : Nat.log2 1 = 0 := by decide
    omega
  | succ j ih =>
    intro m acc h0 h
    have hp : (2 : Nat) ^ 2 ^ (j + 1) = 2 ^ 2 ^ j * 2 ^ 2 ^ j := by rw [← Nat.pow_add]; congr 1; rw [Nat.pow_succ]; omega
    have hpos := Nat.two_pow_pos (2 ^ j)
    unfold lgGo
    cases hb : Nat.ble (2 ^ 2 ^ j) m with
    | true =>
      have hle : 2 ^ 2 ^ j ≤ m := Nat.le_of_ble_eq_true hb
      have hd : m / 2 ^ 2 ^ j ≠ 0 := by have := Nat.div_pos hle hpos; omega
      rw [cond_true, ih _ _ hd (by rw [Nat.div_lt_iff_lt_mul hpos, ← hp]; exact h), log2_div hle]
      have : 2 ^ j ≤ m.log2 := (Nat.le_log2 h0).2 hle
      omega
    | false =>
      have hlt : m < 2 ^ 2 ^ j := by
        rcases Nat.lt_or_ge m (2 ^ 2 ^ j) with h | h
        · exact h
        · rw [Nat.ble_eq_true_of_le h] at hb; cases hb
      rw [cond_false, ih _ _ h0 hlt]

/-- what is kept of a magnitude of which d digits are dropped -/
def keptN (m d : Nat) : Nat := m / 2 ^ d + (Nat.blt (2 ^ d) (2 * (m % 2 ^ d)) || (Nat.beq (2 ^ d) (2 * (m % 2 ^ d)) && Nat.beq (m / 2 ^ d % 2) 1)).toNat
def kD (F : Nat) (s : Bool) (k : Nat) (q : Int) : Datum := cond (Nat.beq k (2 ^ F * 2)) (.number s (2 ^ F) (q + 1)) (.number s k q)
/-- no magnitude here is as great as at 11 -/
def top (j : Nat) : Nat := 2 ^ 2 ^ j
theorem lgGo_top (j m acc : Nat) (h0 : m ≠ 0) (h : m < top j) : lgGo j m acc = acc + m.log2 := lgGo_eq j m acc h0 h
def frndL (F H : Nat) (s : Bool) (m : Nat) (p : Int) (L : Nat) : Option Datum :=
  cond (Nat.blt m (top 11) && Nat.ble (p + L).natAbs H) (some (cond (Nat.ble L F) (.number s (m <<< (F - L)) (p + L - F)) (kD F s (keptN m (L - F)) (p + L - F)))) none
/-- rounded to F + 1 digits -/
def frnd (F : Nat) (lo : Int) (H : Nat) : Datum → Option Datum
  | .number s m p => cond (Nat.beq m 0) (some (.number s 0 lo)) (frndL F H s m p (lgGo 11 m 0))
  | _ => none

theorem dec_blt (a b : Nat) : decide (a < b) = Nat.blt a b := by
  by_cases h : a < b
  · rw [decide_eq_true h]
    exact (Nat.ble_eq_true_of_le h).symm
  · rw [decide_eq_false h]
    cases hb : Nat.blt a b with
    | false => rfl
    | true => exact absurd (Nat.le_of_ble_eq_true hb) h
theorem beq_nat (a b : Nat) : (a == b) = Nat.beq a b := by
  cases h : Nat.beq a b with
  | true => rw [Nat.eq_of_beq_eq_true h]; simp
  | false => simpa using Nat.ne_of_beq_eq_false h
theorem cut_kept (s : Bool) (m d : Nat) (h : d ≤ m.log2 + 2) : Toward.even.cut s m d = keptN m d := by
  unfold Toward.cut keptN
  have e : 1 <<< min d (m.log2 + 2) = 2 ^ d := by rw [Nat.min_eq_left h, Nat.shiftLeft_eq, Nat.one_mul]
  simp only [e]
  rw [dec_blt, beq_nat, beq_nat]

theorem frnd_ok (f : Format) (H : Nat) (hlo : f.leastPlace + f.fractionBits ≤ -(H : Int)) (hhi : (H : Int) - f.fractionBits - f.leastPlace + 3 ≤ (2 ^ f.exponentBits - 1 : Nat)) (hpos : 0 < f.infRung) {d d' : Datum} (h : frnd f.fractionBits f.leastPlace H d = some d') : f.read (f.write d) = d' := by
  cases d with
  | nan s t => cases h
  | infinity s => cases h
  | number s m p =>
    unfold frnd at h
    dsimp only at h
    cases hm : Nat.beq m 0 with
    | true =>
      rw [hm, cond_true] at h
      injection h with h
      have h0 : m = 0 := Nat.eq_of_beq_eq_true hm
      subst h0
      show f.read (f.nearest s 0 p) = _
      unfold Format.nearest
      rw [if_pos rfl, read_word f s 0 hpos, if_pos (show 0 < f.binade from Nat.two_pow_pos _)]
      exact h
    | false =>
      rw [hm, cond_false] at h
      have h0 : m ≠ 0 := by
        intro h
        subst h
        cases hm
      unfold frndL at h
      cases hc : (Nat.blt m (top 11) && Nat.ble (p + (lgGo 11 m 0 : Nat)).natAbs H) with
      | false => rw [hc] at h; cases h
      | true =>
        rw [hc, cond_true] at h
        simp only [Bool.and_eq_true] at hc
        obtain ⟨hb, h1⟩ := hc
        have h1 := Nat.le_of_ble_eq_true h1
        have eL := lgGo_top 11 m 0 h0 (Nat.le_of_ble_eq_true hb)
        clear hb
        rw [Nat.zero_add] at eL
        rw [eL] at h h1
        clear eL
        have h := Option.some.inj h
        cases hL : Nat.ble m.log2 f.fractionBits with
        | true =>
          rw [hL, cond_true] at h
          have hle := Nat.le_of_ble_eq_true hL
          rw [← h]
          exact write_exact f h0 hle (by omega) (by omega)
        | false =>
          rw [hL, cond_false] at h
          have hgt : f.fractionBits < m.log2 := by
            rcases Nat.lt_or_ge f.fractionBits m.log2 with h | h
            · exact h
            · rw [Nat.ble_eq_true_of_le h] at hL; cases hL
          clear hL hm
          have hbi : f.binade = 2 ^ f.fractionBits := rfl
          have hbpos : 0 < f.binade := Nat.two_pow_pos _
          have hinf : f.infRung = (2 ^ f.exponentBits - 1) * f.binade := rfl
          show f.read (f.nearest s m p) = _
          unfold Format.nearest
          rw [if_neg h0]
          dsimp only
          have hl : max (p + (m.log2 : Int) - f.fractionBits) f.leastPlace = p + (m.log2 : Int) - f.fractionBits := by omega
          rw [hl]
          have e1 : (p - (p + (m.log2 : Int) - f.fractionBits)).toNat = 0 := by omega
          have e2 : (p + (m.log2 : Int) - f.fractionBits - p).toNat = m.log2 - f.fractionBits := by omega
          rw [e1, e2, Nat.shiftLeft_zero, cut_kept s m _ (by omega)]
          have hk1 : 2 ^ f.fractionBits ≤ keptN m (m.log2 - f.fractionBits) := by
            unfold keptN
            refine Nat.le_trans ?_ (Nat.le_add_right _ _)
            rw [Nat.le_div_iff_mul_le (Nat.two_pow_pos _), ← Nat.pow_add]
            have e : f.fractionBits + (m.log2 - f.fractionBits) = m.log2 := by omega
            rw [e]
            exact Nat.log2_self_le h0
          have hk2 : keptN m (m.log2 - f.fractionBits) ≤ 2 ^ f.fractionBits * 2 := by
            have := kept_le f.fractionBits s m p (p + (m.log2 : Int) - f.fractionBits) (by omega)
            rw [e1, e2, Nat.shiftLeft_zero, cut_kept s m _ (by omega)] at this
            exact this
          generalize keptN m (m.log2 - f.fractionBits) = q at *
          generalize hLL : (p + (m.log2 : Int) - f.fractionBits - f.leastPlace).toNat = L
          rw [← hbi] at hk1 hk2
          have hfin : L * f.binade + q < f.infRung := by
            have : (L + 3) * f.binade ≤ f.infRung := by
              rw [hinf]
              exact Nat.mul_le_mul_right _ (by omega)
            rw [Nat.add_mul] at this
            omega
          rw [Nat.min_eq_left (Nat.le_of_lt hfin), read_word f s _ hfin, if_neg (by omega)]
          rw [← h]
          unfold kD
          rw [← hbi]
          cases hq : Nat.beq q (f.binade * 2) with
          | true =>
            have hq' : q = f.binade * 2 := Nat.eq_of_beq_eq_true hq
            subst hq'
            rw [cond_true]
            have hdiv : (L * f.binade + f.binade * 2) / f.binade = L + 2 := by
              have e : L * f.binade + f.binade * 2 = f.binade * (L + 2) := by rw [Nat.mul_add, Nat.mul_comm]
              rw [e, Nat.mul_div_cancel_left _ hbpos]
            have hmod : (L * f.binade + f.binade * 2) % f.binade = 0 := by
              have e : L * f.binade + f.binade * 2 = f.binade * (L + 2) := by rw [Nat.mul_add, Nat.mul_comm]
              rw [e, Nat.mul_mod_right]
            rw [hdiv, hmod]
            have e4 : f.leastPlace + ((L + 2 - 1 : Nat) : Int) = p + (m.log2 : Int) - f.fractionBits + 1 := by omega
            rw [e4, Nat.add_zero]
          | false =>
            have hq' : q < f.binade * 2 := by
              rcases Nat.lt_or_ge q (f.binade * 2) with h | h
              · exact h
              · have e : q = f.binade * 2 := by omega
                subst e
                rw [Nat.beq_refl] at hq; cases hq
            rw [cond_false]
            have hdiv : (L * f.binade + q) / f.binade = L + 1 := by
              have e : L * f.binade + q = (q - f.binade) + f.binade * (L + 1) := by
                rw [Nat.mul_add, Nat.mul_one, Nat.mul_comm]; omega
              rw [e, Nat.add_mul_div_left _ _ hbpos, Nat.div_eq_of_lt (by omega)]
              omega
            have hmod : (L * f.binade + q) % f.binade = q - f.binade := by
              have e : L * f.binade + q = (q - f.binade) + f.binade * (L + 1) := by
                rw [Nat.mul_add, Nat.mul_one, Nat.mul_comm]; omega
              rw [e, Nat.add_mul_mod_self_left, Nat.mod_eq_of_lt (by omega)]
            rw [hdiv, hmod]
            have e3 : f.binade + (q - f.binade) = q := by omega
            have e4 : f.leastPlace + ((L + 1 - 1 : Nat) : Int) = p + (m.log2 : Int) - f.fractionBits := by omega
            rw [e3, e4]
end Go.Fq
