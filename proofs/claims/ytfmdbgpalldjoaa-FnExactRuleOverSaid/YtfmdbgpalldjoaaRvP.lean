/- The shortest rule of a list over a prime: what is found, step by step. No program is spoken of. -/
import Derived.Test.YtfmdbgpalldjoaaRuP
import Derived.Test.YtfmdbgpalldjoaaPo
namespace Go.Ru
open Go.Pl

theorem md_emod (x : Int) {p : Int} (hp : 0 < p) : md x p = x % p := by
  have h := tm_range x hp
  unfold md
  rw [Int.tmod_eq_emod_of_nonneg (by omega), Int.add_emod_right, Int.tmod_def, Int.sub_eq_add_neg, ← Int.mul_neg, Int.add_mul_emod_self_left]
theorem md_times (a t b : Int) {p : Int} (hp : 0 < p) (ht : 0 ≤ t) : md (a - Int.tmod t p * b) p = md (a - t * b) p := by
  rw [md_emod _ hp, md_emod _ hp, Int.tmod_eq_emod_of_nonneg ht, Int.sub_emod, Int.mul_emod, Int.emod_emod_of_dvd _ (Int.dvd_refl p), ← Int.mul_emod, ← Int.sub_emod]
theorem md_add (a s : Int) {p : Int} (hp : 0 < p) : md (a + md s p) p = md (a + s) p := by
  rw [md_emod _ hp, md_emod _ hp, md_emod _ hp, Int.add_emod, Int.emod_emod_of_dvd _ (Int.dvd_refl p), ← Int.add_emod]

/-- what is known behind so many numbers: terms, those before they became longer, how many numbers the rule has, how far the elder ones are moved up, and what they missed -/
structure St where
  c : Nat → Int
  b : Nat → Int
  l : Nat
  m : Nat
  x : Int

/-- the sum of the products of the terms 1 to l and the numbers before k -/
def dc (c : Nat → Int) (L : List Int) (k : Nat) : Nat → Int
  | 0 => 0
  | l + 1 => dc c L k l + c (l + 1) * at' L (k - 1 - l)
theorem dc_zero (c : Nat → Int) (L : List Int) (k : Nat) : dc c L k 0 = 0 := rfl
theorem dc_succ (c : Nat → Int) (L : List Int) (k l : Nat) : dc c L k (l + 1) = dc c L k l + c (l + 1) * at' L (k - 1 - l) := rfl
/-- what the rule misses at k -/
def ms (p : Int) (L : List Int) (k : Nat) (s : St) : Int := md (at' L k + dc s.c L k s.l) p
/-- terms less so many times elder ones that are moved up -/
def ls (p : Int) (c b : Nat → Int) (m : Nat) (f : Int) (j : Nat) : Int := if j < m then c j else md (c j - f * b (j - m)) p
def st (p : Int) (L : List Int) (k : Nat) (s : St) : St :=
  if ms p L k s = 0 then { s with m := s.m + 1 }
  else if 2 * s.l ≤ k then { c := ls p s.c s.b s.m (ms p L k s * inv s.x p), b := s.c, l := k + 1 - s.l, m := 1, x := ms p L k s }
  else { c := ls p s.c s.b s.m (ms p L k s * inv s.x p), b := s.b, l := s.l, m := s.m + 1, x := s.x }
def un (j : Nat) : Int := if j = 0 then 1 else 0
def st0 : St := { c := un, b := un, l := 0, m := 1, x := 1 }
def sts (p : Int) (L : List Int) : Nat → St
  | 0 => st0
  | k + 1 => st p L k (sts p L k)
theorem sts_succ (p : Int) (L : List Int) (k : Nat) : sts p L (k + 1) = st p L k (sts p L k) := rfl
theorem st_zero {p : Int} {L : List Int} {k : Nat} {s : St} (h : ms p L k s = 0) : st p L k s = { s with m := s.m + 1 } := if_pos h
theorem st_long {p : Int} {L : List Int} {k : Nat} {s : St} (h : ms p L k s ≠ 0) (h2 : 2 * s.l ≤ k) : st p L k s = { c := ls p s.c s.b s.m (ms p L k s * inv s.x p), b := s.c, l := k + 1 - s.l, m := 1, x := ms p L k s } := by
  rw [st, if_neg h, if_pos h2]
theorem st_same {p : Int} {L : List Int} {k : Nat} {s : St} (h : ms p L k s ≠ 0) (h2 : ¬ 2 * s.l ≤ k) : st p L k s = { c := ls p s.c s.b s.m (ms p L k s * inv s.x p), b := s.b, l := s.l, m := s.m + 1, x := s.x } := by
  rw [st, if_neg h, if_neg h2]

/-- what holds of them behind k numbers -/
structure Ok (p : Int) (k : Nat) (s : St) : Prop where
  c : ∀ j, 0 ≤ s.c j ∧ s.c j < p
  b : ∀ j, 0 ≤ s.b j ∧ s.b j < p
  l : s.l ≤ k
  m1 : 1 ≤ s.m
  m2 : s.m ≤ k + 1
  x : 0 < s.x ∧ s.x < p
theorem un_in {p : Int} (hp : 2 ≤ p) (j : Nat) : 0 ≤ un j ∧ un j < p := by
  unfold un
  split <;> omega
theorem ls_in {p : Int} (hp : 2 ≤ p) {c b : Nat → Int} {m : Nat} {f : Int} (hc : ∀ j, 0 ≤ c j ∧ c j < p) (j : Nat) : 0 ≤ ls p c b m f j ∧ ls p c b m f j < p := by
  unfold ls
  split
  · exact hc j
  · exact md_range _ (by omega)
theorem ms_in {p : Int} (hp : 2 ≤ p) (L : List Int) (k : Nat) (s : St) : 0 ≤ ms p L k s ∧ ms p L k s < p := md_range _ (by omega)
theorem Ok.step {p : Int} (hp : 2 ≤ p) {L : List Int} {k : Nat} {s : St} (h : Ok p k s) : Ok p (k + 1) (st p L k s) := by
  have hm := ms_in hp L k s
  have h1 := h.l
  have h2 := h.m1
  have h3 := h.m2
  by_cases h0 : ms p L k s = 0
  · rw [st_zero h0]
    exact ⟨h.c, h.b, by show s.l ≤ _; omega, by show 1 ≤ s.m + 1; omega, by show s.m + 1 ≤ _; omega, h.x⟩
  · by_cases h4 : 2 * s.l ≤ k
    · rw [st_long h0 h4]
      exact ⟨ls_in hp h.c, h.c, by show k + 1 - s.l ≤ _; omega, by show 1 ≤ 1; omega, by show 1 ≤ _; omega, ⟨by show 0 < ms p L k s; omega, hm.2⟩⟩
    · rw [st_same h0 h4]
      exact ⟨ls_in hp h.c, h.b, by show s.l ≤ _; omega, by show 1 ≤ s.m + 1; omega, by show s.m + 1 ≤ _; omega, h.x⟩
theorem sts_ok {p : Int} (hp : 2 ≤ p) (L : List Int) : ∀ k : Nat, Ok p k (sts p L k)
  | 0 => ⟨un_in hp, un_in hp, Nat.le_refl _, Nat.le_refl _, by show 1 ≤ 0 + 1; omega, ⟨by show (0 : Int) < 1; omega, by show (1 : Int) < p; omega⟩⟩
  | k + 1 => (sts_ok hp L k).step hp
theorem dc_bd {c : Nat → Int} {L : List Int} {p : Int} (hp : 2 ≤ p ∧ p ≤ 13) (hc : ∀ j, 0 ≤ c j ∧ c j < p) (hL : inR 0 (p - 1) L) (k : Nat) : ∀ l : Nat, 0 ≤ dc c L k l ∧ dc c L k l ≤ 144 * (l : Int)
  | 0 => by rw [dc_zero]; omega
  | l + 1 => by
    have h := dc_bd hp hc hL k l
    have h1 := hc (l + 1)
    have h2 := hL.at (by omega) (by omega) (k - 1 - l)
    have h3 := mul_ab (A := 12) (B := 12) (a := c (l + 1)) (b := at' L (k - 1 - l)) (by omega) (by omega)
    have h4 : 0 ≤ c (l + 1) * at' L (k - 1 - l) := Int.mul_nonneg h1.1 h2.1
    rw [dc_succ]
    omega

/-- the rule that is found -/
def rl (p : Int) (s : St) : List Int := (List.range s.l).map fun i => md (-(s.c (i + 1))) p
theorem rl_len (p : Int) (s : St) : (rl p s).length = s.l := by simp [rl]
/-- so many terms -/
def ca (c : Nat → Int) (n : Nat) : List Int := (List.range n).map c
theorem ca_len (c : Nat → Int) (n : Nat) : (ca c n).length = n := by simp [ca]
theorem ca_get (c : Nat → Int) (n j : Nat) (h : j < n) : (ca c n)[j]? = some (c j) := by simp [ca, h]
theorem ca_at (c : Nat → Int) (n j : Nat) (h : j < n) : at' (ca c n) j = c j := at_get (ca_get c n j h)
theorem ca_set (c : Nat → Int) (n k : Nat) (z : Int) : (ca c n).set k z = ca (fun j => if j = k then z else c j) n := by
  apply List.ext_getElem?
  intro j
  by_cases hj : j < n
  · by_cases e : j = k
    · subst e
      rw [List.getElem?_set_self (by rw [ca_len]; exact hj), ca_get _ _ _ hj, if_pos rfl]
    · rw [List.getElem?_set_ne (by omega), ca_get _ _ _ hj, ca_get _ _ _ hj, if_neg e]
  · rw [List.getElem?_eq_none (by rw [List.length_set, ca_len]; omega), List.getElem?_eq_none (by rw [ca_len]; omega)]
/-- terms of which those below j have been lessened -/
def lj (p : Int) (c b : Nat → Int) (m : Nat) (f : Int) (j : Nat) (i : Nat) : Int := if i < j then ls p c b m f i else c i
theorem lj_start (p : Int) (c b : Nat → Int) (m : Nat) (f : Int) : lj p c b m f m = c := by
  funext i
  unfold lj ls
  split <;> rfl
theorem lj_step (p : Int) (c b : Nat → Int) (m : Nat) (f : Int) (j : Nat) (h : m ≤ j) (n : Nat) : (ca (lj p c b m f j) n).set j (md (c j - f * b (j - m)) p) = ca (lj p c b m f (j + 1)) n := by
  rw [ca_set]
  congr 1
  funext i
  by_cases e : i = j
  · subst e
    rw [if_pos rfl, lj, if_pos (by omega), ls, if_neg (by omega)]
  · rw [if_neg e, lj, lj]
    by_cases h2 : i < j
    · rw [if_pos h2, if_pos (by omega)]
    · rw [if_neg h2, if_neg (by omega)]
theorem lj_end (p : Int) (c b : Nat → Int) (m : Nat) (f : Int) (n : Nat) : ca (lj p c b m f n) n = ca (ls p c b m f) n := by
  apply List.ext_getElem?
  intro j
  by_cases hj : j < n
  · rw [ca_get _ _ _ hj, ca_get _ _ _ hj, lj, if_pos hj]
  · rw [List.getElem?_eq_none (by rw [ca_len]; omega), List.getElem?_eq_none (by rw [ca_len]; omega)]
theorem lj_at (p : Int) (c b : Nat → Int) (m : Nat) (f : Int) (j : Nat) : lj p c b m f j j = c j := by rw [lj, if_neg (by omega)]
end Go.Ru
