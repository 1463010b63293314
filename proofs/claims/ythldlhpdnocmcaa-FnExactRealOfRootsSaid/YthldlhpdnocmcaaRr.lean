/- Products of x less integers: what they are, and that of a valid one all that comes on the way is small. No program is spoken of. -/
import Derived.Test.YthldlhpdnocmcaaOf
namespace Go.Pl

/-- P times x less r -/
def linp (P : List Int) (r : Int) : List Int := (List.range (P.length + 1)).map fun k => (if k = 0 then 0 else at' P (k - 1)) - r * at' P k
theorem linp_len (P : List Int) (r : Int) : (linp P r).length = P.length + 1 := by simp [linp]
theorem linp_at (P : List Int) (r : Int) (k : Nat) : at' (linp P r) k = (if k = 0 then 0 else at' P (k - 1)) - r * at' P k := by
  by_cases h : k < P.length + 1
  · have : (linp P r)[k]? = some ((if k = 0 then 0 else at' P (k - 1)) - r * at' P k) := by
      unfold linp
      rw [List.getElem?_map, List.getElem?_range h]; rfl
    exact at_get this
  · rw [at_out (by rw [linp_len]; omega), if_neg (by omega), at_out (L := P) (by omega), at_out (L := P) (by omega), Int.mul_zero, Int.sub_zero]
theorem sm_two {f : Nat → Int} {m : Nat} (hf : ∀ i, i < m → f i = 0) : sm f (m + 2) = f m + f (m + 1) := by
  rw [sm_succ, sm_succ, sm_zero m hf]; omega
/-- the program's product is the same -/
theorem prod_linp (P : List Int) (r : Int) : prod P [-r, 1] = linp P r := by
  refine ext_at (by rw [prod_len, linp_len]; simp) fun m hm => ?_
  rw [prod_len] at hm
  rw [prod_cv (by simp), linp_at]
  unfold cv
  have hL : ∀ j, at' [-r, 1] j = if j = 0 then -r else if j = 1 then 1 else 0 := by
    intro j
    match j with
    | 0 => rfl
    | 1 => rfl
    | j + 2 => rw [at_out (by simp), if_neg (by omega), if_neg (by omega)]
  cases m with
  | zero =>
    rw [sm_succ, sm, hL, if_pos rfl, if_pos rfl, Int.mul_neg, Int.mul_comm]; omega
  | succ m =>
    rw [sm_two (fun i hi => by rw [hL, if_neg (by omega), if_neg (by omega), Int.mul_zero])]
    rw [hL, hL, if_neg (by omega), if_pos (by omega), if_pos (by omega), if_neg (by omega), Int.mul_neg, Int.mul_comm (at' P (m + 1)), Nat.add_sub_cancel]
    omega
/-- the product of the first k -/
def prr (L : List Int) : Nat → List Int
  | 0 => [1]
  | k + 1 => linp (prr L k) (at' L k)
theorem prr_len (L : List Int) : ∀ k, (prr L k).length = k + 1
  | 0 => rfl
  | k + 1 => by rw [prr, linp_len, prr_len L k]
theorem prr_last (L : List Int) : ∀ k, at' (prr L k) k = 1
  | 0 => rfl
  | k + 1 => by
    rw [prr, linp_at, if_neg (by omega), Nat.add_sub_cancel, prr_last L k, at_out (L := prr L k) (by rw [prr_len]; omega), Int.mul_zero, Int.sub_zero]
theorem sm_nonneg {f : Nat → Int} (h : ∀ i, 0 ≤ f i) : ∀ n, 0 ≤ sm f n
  | 0 => by rw [sm]; omega
  | n + 1 => by
    have h1 := sm_nonneg h n
    have h2 := h n
    rw [sm_succ]; omega
theorem pb_pos : ∀ (s k : Nat), 0 ≤ at' (pb s) k
  | 0, k => by
    by_cases h : k < 9
    · rw [(rep9 k h).2]; omega
    · rw [at_out (by show (List.replicate 9 (1000 : Int)).length ≤ k; simp; omega)]; omega
  | s + 1, k => by
    by_cases h : k < 9
    · rw [pb_at s k h]
      exact sm_nonneg (pb_pos s) _
    · rw [at_out (by show ((List.range 9).map _).length ≤ k; simp; omega)]; omega
/-- bounds: s factors that are not x have been taken away, and z that are -/
def Smz (T : List Int) (s z : Nat) : Prop := ∀ k, k + z < 9 → ((at' T k).natAbs : Int) ≤ at' (pb s) (k + z)
theorem pb_sm {f : Nat → Int} {s z : Nat} (hf : ∀ k, k + z < 9 → f k ≤ at' (pb s) (k + z)) : ∀ k, k + z < 9 → sm f (k + 1) ≤ sm (at' (pb s)) (k + z + 1)
  | 0, h => by
    have h1 := hf 0 h
    have h2 := sm_nonneg (pb_pos s) (0 + z)
    have e1 : sm f (0 + 1) = f 0 := by rw [sm_succ, sm]; omega
    have e2 : sm (at' (pb s)) (0 + z + 1) = sm (at' (pb s)) (0 + z) + at' (pb s) (0 + z) := rfl
    omega
  | k + 1, h => by
    have h1 := pb_sm hf k (by omega)
    have h2 := hf (k + 1) h
    have e1 : sm f (k + 1 + 1) = sm f (k + 1) + f (k + 1) := rfl
    have e2 : sm (at' (pb s)) (k + 1 + z + 1) = sm (at' (pb s)) (k + z + 1) + at' (pb s) (k + z + 1) := by
      rw [show k + 1 + z + 1 = (k + z + 1) + 1 by omega]; rfl
    rw [show k + 1 + z = k + z + 1 by omega] at h2
    omega
theorem Smz.zero {T : List Int} {s z : Nat} (h : Smz (linp T 0) s z) : Smz T s (z + 1) := fun k hk => by
  have h1 := h (k + 1) (by omega)
  rw [linp_at, if_neg (by omega), Nat.add_sub_cancel, Int.zero_mul, Int.sub_zero, show k + 1 + z = k + (z + 1) by omega] at h1
  exact h1
theorem Smz.more {T : List Int} {r : Int} {s z : Nat} (hr : r ≠ 0) (h : Smz (linp T r) s z) : Smz T (s + 1) z := by
  have key : ∀ k, k + z < 9 → ((at' T k).natAbs : Int) ≤ sm (fun j => ((at' (linp T r) j).natAbs : Int)) (k + 1) := by
    intro k
    induction k with
    | zero =>
      intro _
      have h1 := linp_at T r 0
      rw [if_pos rfl] at h1
      have h2 : (r * at' T 0).natAbs = r.natAbs * (at' T 0).natAbs := Int.natAbs_mul _ _
      have h3 : (at' T 0).natAbs ≤ r.natAbs * (at' T 0).natAbs := Nat.le_mul_of_pos_left _ (by omega)
      rw [sm_succ, sm]
      omega
    | succ k ih =>
      intro hk
      have h0 := ih (by omega)
      have h1 := linp_at T r (k + 1)
      rw [if_neg (by omega), Nat.add_sub_cancel] at h1
      have h2 : (r * at' T (k + 1)).natAbs = r.natAbs * (at' T (k + 1)).natAbs := Int.natAbs_mul _ _
      have h3 : (at' T (k + 1)).natAbs ≤ r.natAbs * (at' T (k + 1)).natAbs := Nat.le_mul_of_pos_left _ (by omega)
      rw [sm_succ]
      omega
  intro k hk
  rw [pb_at s (k + z) hk]
  have h1 := key k hk
  have h2 := pb_sm (f := fun j => ((at' (linp T r) j).natAbs : Int)) h k hk
  omega
/-- of a valid product, each one on the way is small -/
theorem prr_small {L : List Int} {n : Nat} (hv : ValR (prr L n)) : ∀ j, j ≤ n → ∃ s z, s + z = j ∧ Smz (prr L (n - j)) s z
  | 0, _ => ⟨0, 0, rfl, fun k hk => by
    have := hv.at k
    rw [Nat.sub_zero, (rep9 (k + 0) hk).2]; omega⟩
  | j + 1, hj => by
    obtain ⟨s, z, hsz, h⟩ := prr_small hv j (by omega)
    have e : prr L (n - j) = linp (prr L (n - (j + 1))) (at' L (n - (j + 1))) := by
      rw [show n - j = (n - (j + 1)) + 1 by omega]; rfl
    rw [e] at h
    by_cases hr : at' L (n - (j + 1)) = 0
    · rw [hr] at h
      exact ⟨s, z + 1, by omega, h.zero⟩
    · exact ⟨s + 1, z, by omega, h.more hr⟩
theorem prr_bd {L : List Int} {n : Nat} (hv : ValR (prr L n)) (j : Nat) (hj : j ≤ n) (k : Nat) : -1000000 ≤ at' (prr L j) k ∧ at' (prr L j) k ≤ 1000000 := by
  have hn : n ≤ 8 := by have := hv.le; rw [prr_len] at this; omega
  obtain ⟨s, z, hsz, h⟩ := prr_small hv (n - j) (by omega)
  rw [show n - (n - j) = j by omega] at h
  by_cases hk : k < j + 1
  · have h1 := h k (by omega)
    have h2 := (pb_ck s (List.mem_range.2 (by omega)) (k + z) (List.mem_range.2 (by omega))).1 (by omega)
    omega
  · rw [at_out (by rw [prr_len]; omega)]; omega
theorem prr_val {L : List Int} {n : Nat} (hv : ValR (prr L n)) (j : Nat) (hj : j ≤ n) : Val (prr L j) := by
  have hn : n ≤ 8 := by have := hv.le; rw [prr_len] at this; omega
  refine ⟨by rw [prr_len]; omega, by rw [prr_len]; omega, inR_of fun k z _ hz => ?_, .inr ?_⟩
  · have := prr_bd hv j hj k
    rw [at_get hz] at this
    exact this
  · rw [prr_len, Nat.add_sub_cancel, at_some _ j (by rw [prr_len]; omega), prr_last]
    decide
end Go.Pl
