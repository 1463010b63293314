/- Parts between commas; the numbers of a list's text. -/
import Derived.Lib.Split
import Derived.Lib.SplitLaws
import Derived.Lib.IndexBytes
import Derived.Lib.Bytealg
import Derived.Test.YtdeoemeibbkdoaaDoorRdP
namespace Go.Rl
open Go.Lib Go.Rd

/-- the parts between commas -/
def cutA (cur : List UInt8) : List UInt8 → List (List UInt8)
  | [] => [cur]
  | c :: r => if c = 44 then cur :: cutA [] r else cutA (cur ++ [c]) r

def pref (cur : List UInt8) : List (List UInt8) → List (List UInt8)
  | [] => []
  | p :: ps => (cur ++ p) :: ps
theorem pref_nil (l : List (List UInt8)) : pref [] l = l := by cases l <;> rfl

theorem idx_zero (r : List UInt8) : indexByte (44 :: r) 44 = 0 := by simp [indexByte]
theorem idx_pos : ∀ (l : List UInt8), 0 < l.count 44 → ∃ i : Nat, indexByte l 44 = i
  | [], h => by simp at h
  | c :: r, h => by
    by_cases hc : c = 44
    · exact ⟨0, by subst hc; exact idx_zero r⟩
    · have h' : 0 < r.count 44 := by rwa [List.count_cons_of_ne (by exact hc)] at h
      obtain ⟨i, hi⟩ := idx_pos r h'
      exact ⟨i + 1, by simp [indexByte, hc, hi]⟩
theorem idx_succ (c : UInt8) (r : List UInt8) (i : Nat) (hc : c ≠ 44) (hi : indexByte r 44 = i) : indexByte (c :: r) 44 = ((i + 1 : Nat) : Int) := by
  simp [indexByte, hc, hi]

theorem splitK_step (k : Nat) (l : List UInt8) (i : Nat) (h : indexByte l 44 = i) : splitK [44] 0 (k + 1) l = l.take i :: splitK [44] 0 k (l.drop (i + 1)) := by
  have hm : ¬ ((i : Int) == -1) = true := fun e => by have := beq_iff_eq.1 e; omega
  rw [splitK, index_one, h, if_neg hm]
  simp

theorem cut_eq : ∀ (l cur : List UInt8), cutA cur l = pref cur (splitK [44] 0 (l.count 44) l)
  | [], cur => by simp [cutA, splitK, pref]
  | c :: r, cur => by
    by_cases hc : c = 44
    · subst hc
      rw [List.count_cons_self, splitK_step _ _ 0 (idx_zero r), cutA, if_pos rfl, cut_eq r [], pref_nil]
      simp [pref]
    · rw [List.count_cons_of_ne (by exact hc), cutA, if_neg hc, cut_eq r (cur ++ [c])]
      cases hk : r.count 44 with
      | zero => simp [splitK, pref]
      | succ k =>
        obtain ⟨i, hi⟩ := idx_pos r (by omega)
        rw [splitK_step k r i hi, splitK_step k (c :: r) (i + 1) (idx_succ c r i hc hi)]
        simp [pref]
theorem cut_split (l : List UInt8) : cutA [] l = splitK [44] 0 (l.count 44) l := by rw [cut_eq, pref_nil]
theorem cut_length : ∀ (l cur : List UInt8), (cutA cur l).length = l.count 44 + 1
  | [], _ => rfl
  | c :: r, cur => by
    by_cases hc : c = 44
    · subst hc
      rw [List.count_cons_self, cutA, if_pos rfl, List.length_cons, cut_length r []]
    · rw [List.count_cons_of_ne (by exact hc), cutA, if_neg hc, cut_length r]

/-- is the text of a number -/
def ok (l : List UInt8) : Bool := decide (-1000000000000000 ≤ zof l ∧ zof l ≤ 1000000000000000 ∧ itoa (zof l) = l)
theorem out_yes {l : List UInt8} {v : Int} (h : Out l v true) : ok l = true ∧ v = zof l := by
  rcases h with ⟨_, h0, h1, h2⟩ | ⟨hb, _⟩
  · have e : zof l = v := by rw [← h2, zof_itoa]
    exact ⟨decide_eq_true ⟨by omega, by omega, by rw [e, h2]⟩, e.symm⟩
  · cases hb
theorem out_not {l : List UInt8} {v : Int} (h : Out l v false) : ok l = false ∧ v = 0 := by
  rcases h with ⟨hb, _⟩ | ⟨_, h0, h1⟩
  · cases hb
  · refine ⟨decide_eq_false fun h => h1 _ h.1 h.2.1 h.2.2, h0⟩

def none_ : List UInt8 := [110, 111, 110, 101]
/-- the numbers, if it is the text of a list -/
def good (s : List UInt8) : Bool := decide (s = none_) || (decide ((cutA [] s).length ≤ 64) && (cutA [] s).all ok)
def vals (s : List UInt8) : List Int := if s = none_ then [] else (cutA [] s).map zof

theorem cutA_com (cur : List UInt8) (r : List UInt8) : cutA cur (44 :: r) = cur :: cutA [] r := by rw [cutA, if_pos rfl]
theorem cutA_let (cur : List UInt8) (c : UInt8) (r : List UInt8) (h : c ≠ 44) : cutA cur (c :: r) = cutA (cur ++ [c]) r := by rw [cutA, if_neg h]
end Go.Rl
