/- Polynomials of integers with small terms: validity, mirrors, reaches, quotients by d x less n: what they are. No program is spoken of. -/
import Derived.Test.YtfhcfeafohcjpaaPl
namespace Go.Pl

/-- a valid one -/
def ValR (L : List Int) : Prop := 1 ≤ L.length ∧ L.length ≤ 9 ∧ inR (-1000) 1000 L ∧ L[L.length - 1]? ≠ some 0
instance (L : List Int) : Decidable (ValR L) := by unfold ValR; infer_instance
def valR (L : List Int) : Bool := decide (ValR L)
theorem valR_iff {L : List Int} : valR L = true ↔ ValR L := decide_eq_true_iff
theorem valR_no {L : List Int} (h : ¬ ValR L) : valR L = false := decide_eq_false h
theorem ValR.pos {L : List Int} (h : ValR L) : 1 ≤ L.length := h.1
theorem ValR.le {L : List Int} (h : ValR L) : L.length ≤ 9 := h.2.1
theorem ValR.inr {L : List Int} (h : ValR L) : inR (-1000) 1000 L := h.2.2.1
theorem ValR.at {L : List Int} (h : ValR L) (k : Nat) : -1000 ≤ at' L k ∧ at' L k ≤ 1000 := h.inr.at (by omega) (by omega) k
theorem ValR.last {L : List Int} (h : ValR L) : at' L (L.length - 1) ≠ 0 := fun e => h.2.2.2 (by
  have := h.pos
  rw [at_some L (L.length - 1) (by omega), e])
theorem ValR.ne {L : List Int} (h : ValR L) : L ≠ [] := by
  intro e
  have := h.1
  rw [e] at this
  simp at this
theorem ValR.mk {L : List Int} (h1 : 1 ≤ L.length) (h2 : L.length ≤ 9) (h3 : inR (-1000) 1000 L) (h4 : at' L (L.length - 1) ≠ 0) : ValR L :=
  ⟨h1, h2, h3, fun e => h4 (at_get e)⟩

/-- every second term is its opposite, of those before the index k -/
def mirk (L : List Int) (k : Nat) : List Int := (List.range L.length).map fun j => if j % 2 = 1 ∧ j < k then - at' L j else at' L j
def mir (L : List Int) : List Int := mirk L L.length
theorem mirk_len (L : List Int) (k : Nat) : (mirk L k).length = L.length := by simp [mirk]
theorem mirk_get (L : List Int) (k j : Nat) (h : j < L.length) : (mirk L k)[j]? = some (if j % 2 = 1 ∧ j < k then - at' L j else at' L j) := by simp [mirk, h]
theorem mirk_one (L : List Int) : mirk L 1 = L := by
  apply List.ext_getElem?
  intro j
  by_cases hj : j < L.length
  · rw [mirk_get L 1 j hj, at_some L j hj, if_neg (by omega)]
  · rw [List.getElem?_eq_none (by rw [mirk_len]; omega), List.getElem?_eq_none (by omega)]
theorem mirk_set (L : List Int) (k : Nat) (hk : k < L.length) (ho : k % 2 = 1) : (mirk L k).set k (- at' L k) = mirk L (k + 2) := by
  apply List.ext_getElem?
  intro j
  by_cases hj : j < L.length
  · rw [mirk_get L (k + 2) j hj]
    by_cases hjk : j = k
    · subst hjk
      rw [List.getElem?_set_self (by rw [mirk_len]; omega), if_pos ⟨ho, by omega⟩]
    · rw [List.getElem?_set_ne (by omega), mirk_get L k j hj]
      by_cases h : j % 2 = 1 ∧ j < k
      · rw [if_pos h, if_pos ⟨h.1, by omega⟩]
      · rw [if_neg h, if_neg (by omega)]
  · rw [List.getElem?_eq_none (by rw [List.length_set, mirk_len]; omega), List.getElem?_eq_none (by rw [mirk_len]; omega)]
theorem mirk_end (L : List Int) (k : Nat) (hk : L.length ≤ k) : mirk L k = mir L := by
  apply List.ext_getElem?
  intro j
  by_cases hj : j < L.length
  · rw [mir, mirk_get L k j hj, mirk_get L _ j hj]
    by_cases h : j % 2 = 1
    · rw [if_pos ⟨h, by omega⟩, if_pos ⟨h, by omega⟩]
    · rw [if_neg (fun x => h x.1), if_neg (fun x => h x.1)]
  · rw [mir, List.getElem?_eq_none (by rw [mirk_len]; omega), List.getElem?_eq_none (by rw [mirk_len]; omega)]
theorem mirk_at (L : List Int) (k : Nat) : at' (mirk L k) k = at' L k := by
  by_cases hk : k < L.length
  · rw [at_get (mirk_get L k k hk), if_neg (by omega)]
  · rw [at_out (by rw [mirk_len]; omega), at_out (by omega)]

/-- the greatest of the absolute values of the first k terms -/
def most (L : List Int) : Nat → Int
  | 0 => 0
  | k + 1 => max (max (most L k) (at' L k)) (-(at' L k))
theorem most_bd {L : List Int} (h : ValR L) : ∀ k, 0 ≤ most L k ∧ most L k ≤ 1000
  | 0 => ⟨by rw [most]; omega, by rw [most]; omega⟩
  | k + 1 => by
    have h1 := most_bd h k
    have h2 := h.at k
    rw [most]
    constructor <;> omega
/-- the least k for which by times 2 to the power k is greater than to -/
def rch (b t : Int) : Nat → Nat → Nat
  | 0, k => k
  | f + 1, k => if b * 2 ^ k ≤ t then rch b t f (k + 1) else k
theorem rch_go {b t : Int} {f k : Nat} (h : b * 2 ^ k ≤ t) : rch b t (f + 1) k = rch b t f (k + 1) := if_pos h
theorem rch_stop {b t : Int} {f k : Nat} (h : ¬ b * 2 ^ k ≤ t) : rch b t (f + 1) k = k := if_neg h
theorem rch_le (b t : Int) : ∀ f k, rch b t f k ≤ k + f
  | 0, k => by rw [rch]; omega
  | f + 1, k => by
    rw [rch]
    split
    · have := rch_le b t f (k + 1); omega
    · omega
/-- within which power of 2 all roots are -/
def reach (L : List Int) : Nat := if L.length ≤ 1 then 0 else rch (max (at' L (L.length - 1)) (-(at' L (L.length - 1)))) (max (at' L (L.length - 1)) (-(at' L (L.length - 1))) + most L (L.length - 1)) 12 0
theorem reach_le (L : List Int) : reach L ≤ 12 := by
  unfold reach
  split
  · omega
  · have := rch_le (max (at' L (L.length - 1)) (-(at' L (L.length - 1)))) (max (at' L (L.length - 1)) (-(at' L (L.length - 1))) + most L (L.length - 1)) 12 0
    omega
end Go.Pl
