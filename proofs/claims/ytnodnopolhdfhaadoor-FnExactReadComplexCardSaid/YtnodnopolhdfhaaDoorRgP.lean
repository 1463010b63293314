/- The items of a list's text, whatever they are; hexadecimal digits read. -/
import Derived.Test.YtnodnopolhdfhaaDoorRlP
import Derived.Test.YtnodnopolhdfhaaDoorFl
namespace Go.Rg
open Go.Lib Go.Rl

section
variable (ok : List UInt8 → Bool) (most : Nat) (el : List UInt8 → Value)
/-- is the text of a list of at most so many -/
def good (s : List UInt8) : Bool := decide (s = none_) || (decide ((cutA [] s).length ≤ most) && (cutA [] s).all ok)
def vals (s : List UInt8) : List Value := if s = none_ then [] else (cutA [] s).map el
def lst (s : List UInt8) : List Value := if good ok most s then vals el s else []
end
section
variable {ok : List UInt8 → Bool} {most : Nat} {el : List UInt8 → Value} {s : List UInt8}
theorem good_none (h : s = none_) : good ok most s = true := by unfold good; rw [decide_eq_true h]; rfl
theorem lst_none (h : s = none_) : lst ok most el s = [] := by unfold lst vals; rw [good_none h, if_pos rfl, if_pos h]
theorem good_many (h : s ≠ none_) (h2 : most < (cutA [] s).length) : good ok most s = false := by
  unfold good; rw [decide_eq_false h, decide_eq_false (by omega : ¬ _ ≤ most)]; rfl
theorem good_bad (h : s ≠ none_) {p : List UInt8} (hp : p ∈ cutA [] s) (hk : ok p = false) : good ok most s = false := by
  unfold good
  rw [decide_eq_false h, Bool.false_or, Bool.and_eq_false_iff]
  exact .inr (List.all_eq_false.2 ⟨p, hp, by rw [hk]; simp⟩)
theorem good_all (h2 : (cutA [] s).length ≤ most) (h : ∀ p ∈ cutA [] s, ok p = true) : good ok most s = true := by
  unfold good
  rw [decide_eq_true h2, List.all_eq_true.2 h]
  simp
theorem lst_all (hn : s ≠ none_) (h2 : (cutA [] s).length ≤ most) (h : ∀ p ∈ cutA [] s, ok p = true) : lst ok most el s = (cutA [] s).map el := by
  unfold lst vals; rw [good_all h2 h, if_pos rfl, if_neg hn]
theorem lst_len : (lst ok most el s).length ≤ most := by
  unfold lst
  cases hg : good ok most s with
  | false => simp
  | true =>
    unfold vals
    by_cases hn : s = none_
    · simp [hn]
    · unfold good at hg
      simp only [hn, decide_false, Bool.false_or, Bool.and_eq_true, decide_eq_true_eq] at hg
      simp [hn]
      exact hg.1
end

/-- the number of a digit, 16 if it is none -/
def dv (c : Nat) : Nat := if 48 ≤ c ∧ c ≤ 57 then c - 48 else if 97 ≤ c ∧ c ≤ 102 then c - 87 else 16
def isd (c : UInt8) : Bool := decide (dv c.toNat < 16)
def hval (l : List UInt8) : Nat := l.foldl (fun n c => 16 * n + dv c.toNat) 0
theorem hval_snoc (l : List UInt8) (c : UInt8) : hval (l ++ [c]) = 16 * hval l + dv c.toNat := by simp [hval]
theorem hval_lt : ∀ (l : List UInt8), (∀ c ∈ l, isd c = true) → hval l < 16 ^ l.length := by
  intro l h
  have key : ∀ (r : List UInt8) (a m : Nat), a < m → (∀ c ∈ r, isd c = true) → r.foldl (fun n c => 16 * n + dv c.toNat) a < m * 16 ^ r.length := by
    intro r
    induction r with
    | nil => intro a m h _; simpa using h
    | cons c r ih =>
      intro a m hm hr
      have hc : dv c.toNat < 16 := of_decide_eq_true (hr c (List.mem_cons_self ..))
      have := ih (16 * a + dv c.toNat) (16 * m) (by omega) (fun c h => hr c (List.mem_cons_of_mem _ h))
      rw [List.foldl_cons, List.length_cons, Nat.pow_succ, Nat.mul_comm (16 ^ r.length) 16, ← Nat.mul_assoc, Nat.mul_comm m 16]
      exact this
  have := key l 0 1 (by omega) h
  simpa [hval] using this
theorem dv_dig {c : Nat} (h0 : 48 ≤ c) (h1 : c ≤ 57) : dv c = c - 48 := by unfold dv; rw [if_pos ⟨h0, h1⟩]
theorem dv_let {c : Nat} (h0 : 97 ≤ c) (h1 : c ≤ 102) : dv c = c - 87 := by unfold dv; rw [if_neg (by omega), if_pos ⟨h0, h1⟩]
theorem dv_not {c : Nat} (h : c < 48 ∨ 57 < c ∧ c < 97 ∨ 102 < c) : dv c = 16 := by unfold dv; rw [if_neg (by omega), if_neg (by omega)]
theorem dv_16 {c : Nat} (h : ¬ dv c < 16) : dv c = 16 := by
  rcases (by omega : (48 ≤ c ∧ c ≤ 57) ∨ (97 ≤ c ∧ c ≤ 102) ∨ c < 48 ∨ (57 < c ∧ c < 97) ∨ 102 < c) with ⟨h0, h1⟩ | ⟨h0, h1⟩ | h0 | h0 | h0
  · have := dv_dig h0 h1; omega
  · have := dv_let h0 h1; omega
  · exact dv_not (.inl h0)
  · exact dv_not (.inr (.inl h0))
  · exact dv_not (.inr (.inr h0))
/-- what a byte is -/
theorem kinds (c : Nat) : (48 ≤ c ∧ c ≤ 57) ∨ (97 ≤ c ∧ c ≤ 102) ∨ c < 48 ∨ (57 < c ∧ c < 97) ∨ 102 < c := by omega
/-- the bits of which no other bits are told -/
def can (b : Nat) : Nat := if Go.Fl.isN .f32 b then 2143289344 else b
/-- is the text of a number's bits -/
def okn (l : List UInt8) : Bool := decide (l.length = 8) && (l.all isd && decide (can (hval l) = hval l))
theorem okn_len {l : List UInt8} (h : l.length ≠ 8) : okn l = false := by unfold okn; rw [decide_eq_false h]; rfl
theorem okn_dig {l : List UInt8} {c : UInt8} (hc : c ∈ l) (h : isd c = false) : okn l = false := by
  unfold okn
  rw [List.all_eq_false.2 ⟨c, hc, by rw [h]; simp⟩]
  simp
theorem okn_can {l : List UInt8} (h : can (hval l) ≠ hval l) : okn l = false := by unfold okn; rw [decide_eq_false h]; simp
theorem okn_yes {l : List UInt8} (h1 : l.length = 8) (h2 : ∀ c ∈ l, isd c = true) (h3 : can (hval l) = hval l) : okn l = true := by
  unfold okn; rw [decide_eq_true h1, decide_eq_true h3, List.all_eq_true.2 h2]; rfl
end Go.Rg
