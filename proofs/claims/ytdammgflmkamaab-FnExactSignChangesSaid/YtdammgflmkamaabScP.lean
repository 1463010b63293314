/- Changes of sign: by products, and by signs. No program is spoken of. -/
import Derived.Test.YtdammgflmkamaabPr
namespace Go.Pl
def sgn (x : Int) : Int := if x < 0 then -1 else if x = 0 then 0 else 1
/-- changes behind the first k numbers, and the last one that is not 0 -/
def chg (L : List Int) : Nat → Int × Int
  | 0 => (0, 0)
  | k + 1 => (if at' L k * (chg L k).2 < 0 then (chg L k).1 + 1 else (chg L k).1, if at' L k = 0 then (chg L k).2 else at' L k)
/-- the same of signs -/
def chs (S : List Int) : Nat → Int × Int
  | 0 => (0, 0)
  | k + 1 => (if at' S k ≠ 0 ∧ (chs S k).2 ≠ 0 ∧ at' S k ≠ (chs S k).2 then (chs S k).1 + 1 else (chs S k).1, if at' S k = 0 then (chs S k).2 else at' S k)
theorem sgn_at (L : List Int) (k : Nat) : at' (L.map sgn) k = sgn (at' L k) := by
  unfold at'
  rw [List.getElem?_map]
  cases L[k]? with
  | none => rfl
  | some z => rfl
theorem mul_neg_iff (a b : Int) : a * b < 0 ↔ sgn a ≠ 0 ∧ sgn b ≠ 0 ∧ sgn a ≠ sgn b := by
  have h1 : ∀ a b : Int, 0 < a → 0 < b → 0 < a * b := fun a b => Int.mul_pos
  unfold sgn
  rcases Int.lt_trichotomy a 0 with ha | ha | ha <;> rcases Int.lt_trichotomy b 0 with hb | hb | hb
  · have := h1 (-a) (-b) (by omega) (by omega)
    rw [Int.neg_mul_neg] at this
    rw [if_pos ha, if_pos hb]
    constructor
    · omega
    · intro h; exact absurd rfl h.2.2
  · subst hb
    rw [Int.mul_zero, if_neg (show ¬ (0 : Int) < 0 by omega), if_pos rfl]
    constructor
    · omega
    · intro h; exact absurd rfl h.2.1
  · have := h1 (-a) b (by omega) hb
    rw [Int.neg_mul] at this
    rw [if_pos ha, if_neg (by omega), if_neg (by omega)]
    constructor
    · intro _; decide
    · omega
  · subst ha
    rw [Int.zero_mul, if_neg (show ¬ (0 : Int) < 0 by omega), if_pos rfl]
    constructor
    · omega
    · intro h; exact absurd rfl h.1
  · subst ha
    rw [Int.zero_mul, if_neg (show ¬ (0 : Int) < 0 by omega), if_pos rfl]
    constructor
    · omega
    · intro h; exact absurd rfl h.1
  · subst ha
    rw [Int.zero_mul, if_neg (show ¬ (0 : Int) < 0 by omega), if_pos rfl]
    constructor
    · omega
    · intro h; exact absurd rfl h.1
  · have := h1 a (-b) ha (by omega)
    rw [Int.mul_neg] at this
    rw [if_neg (by omega), if_neg (by omega), if_pos hb]
    constructor
    · intro _; decide
    · omega
  · subst hb
    rw [Int.mul_zero, if_neg (show ¬ (0 : Int) < 0 by omega), if_pos rfl]
    constructor
    · omega
    · intro h; exact absurd rfl h.2.1
  · have := h1 a b ha hb
    rw [if_neg (by omega), if_neg (by omega), if_neg (by omega), if_neg (by omega)]
    constructor
    · omega
    · intro h; exact absurd rfl h.2.2
theorem sgn_zero (x : Int) : sgn x = 0 ↔ x = 0 := by
  unfold sgn
  split
  · omega
  · split <;> omega
theorem chs_chg (L : List Int) : ∀ k, (chs (L.map sgn) k).1 = (chg L k).1 ∧ (chs (L.map sgn) k).2 = sgn (chg L k).2
  | 0 => ⟨rfl, rfl⟩
  | k + 1 => by
    obtain ⟨h1, h2⟩ := chs_chg L k
    rw [chs, chg, sgn_at, h1, h2]
    constructor
    · show (if _ then _ else _) = (if _ then _ else _)
      by_cases h : at' L k * (chg L k).2 < 0
      · rw [if_pos h, if_pos ((mul_neg_iff _ _).1 h)]
      · rw [if_neg h, if_neg (fun h' => h ((mul_neg_iff _ _).2 h'))]
    · show (if _ then _ else _) = sgn (if _ then _ else _)
      by_cases h : at' L k = 0
      · rw [if_pos h, if_pos ((sgn_zero _).2 h)]
      · rw [if_neg h, if_neg (fun h' => h ((sgn_zero _).1 h'))]
theorem chg_bd {L : List Int} (h : inR (-1000) 1000 L) : ∀ k : Nat, (0 ≤ (chg L k).1 ∧ (chg L k).1 ≤ k) ∧ -1000 ≤ (chg L k).2 ∧ (chg L k).2 ≤ 1000
  | 0 => by show (0 ≤ (0 : Int) ∧ (0 : Int) ≤ 0) ∧ -1000 ≤ (0 : Int) ∧ (0 : Int) ≤ 1000; omega
  | k + 1 => by
    have h1 := chg_bd h k
    have h2 := h.at (by omega) (by omega) k
    rw [chg]
    dsimp only
    constructor
    · split <;> omega
    · split <;> omega
theorem chs_bd {S : List Int} (h : inR (-1) 1 S) : ∀ k : Nat, (0 ≤ (chs S k).1 ∧ (chs S k).1 ≤ k) ∧ -1 ≤ (chs S k).2 ∧ (chs S k).2 ≤ 1
  | 0 => by show (0 ≤ (0 : Int) ∧ (0 : Int) ≤ 0) ∧ -1 ≤ (0 : Int) ∧ (0 : Int) ≤ 1; omega
  | k + 1 => by
    have h1 := chs_bd h k
    have h2 := h.at (by omega) (by omega) k
    rw [chs]
    dsimp only
    constructor
    · split <;> omega
    · split <;> omega
theorem sgn_in (L : List Int) : inR (-1) 1 (L.map sgn) := fun z hz => by
  obtain ⟨y, _, rfl⟩ := List.mem_map.1 hz
  unfold sgn
  split
  · omega
  · split <;> omega
end Go.Pl
