/- Parts between newlines. -/
import Derived.Lib.Split
import Derived.Lib.SplitLaws
import Derived.Lib.IndexBytes
import Derived.Lib.Bytealg
namespace Go.Ln
open Go.Lib

/-- the parts between newlines -/
def cutA (cur : List UInt8) : List UInt8 → List (List UInt8)
  | [] => [cur]
  | c :: r => if c = 10 then cur :: cutA [] r else cutA (cur ++ [c]) r

def pref (cur : List UInt8) : List (List UInt8) → List (List UInt8)
  | [] => []
  | p :: ps => (cur ++ p) :: ps
theorem pref_nil (l : List (List UInt8)) : pref [] l = l := by cases l <;> rfl

theorem idx_zero (r : List UInt8) : indexByte (10 :: r) 10 = 0 := by simp [indexByte]
theorem idx_pos : ∀ (l : List UInt8), 0 < l.count 10 → ∃ i : Nat, indexByte l 10 = i
  | [], h => by simp at h
  | c :: r, h => by
    by_cases hc : c = 10
    · exact ⟨0, by subst hc; exact idx_zero r⟩
    · have h' : 0 < r.count 10 := by rwa [List.count_cons_of_ne (by exact hc)] at h
      obtain ⟨i, hi⟩ := idx_pos r h'
      exact ⟨i + 1, by simp [indexByte, hc, hi]⟩
theorem idx_succ (c : UInt8) (r : List UInt8) (i : Nat) (hc : c ≠ 10) (hi : indexByte r 10 = i) : indexByte (c :: r) 10 = ((i + 1 : Nat) : Int) := by
  simp [indexByte, hc, hi]

theorem splitK_step (k : Nat) (l : List UInt8) (i : Nat) (h : indexByte l 10 = i) : splitK [10] 0 (k + 1) l = l.take i :: splitK [10] 0 k (l.drop (i + 1)) := by
  have hm : ¬ ((i : Int) == -1) = true := fun e => by have := beq_iff_eq.1 e; omega
  rw [splitK, index_one, h, if_neg hm]
  simp

theorem cut_eq : ∀ (l cur : List UInt8), cutA cur l = pref cur (splitK [10] 0 (l.count 10) l)
  | [], cur => by simp [cutA, splitK, pref]
  | c :: r, cur => by
    by_cases hc : c = 10
    · subst hc
      rw [List.count_cons_self, splitK_step _ _ 0 (idx_zero r), cutA, if_pos rfl, cut_eq r [], pref_nil]
      simp [pref]
    · rw [List.count_cons_of_ne (by exact hc), cutA, if_neg hc, cut_eq r (cur ++ [c])]
      cases hk : r.count 10 with
      | zero => simp [splitK, pref]
      | succ k =>
        obtain ⟨i, hi⟩ := idx_pos r (by omega)
        rw [splitK_step k r i hi, splitK_step k (c :: r) (i + 1) (idx_succ c r i hc hi)]
        simp [pref]
theorem cut_split (l : List UInt8) : cutA [] l = splitK [10] 0 (l.count 10) l := by rw [cut_eq, pref_nil]
theorem cut_length : ∀ (l cur : List UInt8), (cutA cur l).length = l.count 10 + 1
  | [], _ => rfl
  | c :: r, cur => by
    by_cases hc : c = 10
    · subst hc
      rw [List.count_cons_self, cutA, if_pos rfl, List.length_cons, cut_length r []]
    · rw [List.count_cons_of_ne (by exact hc), cutA, if_neg hc, cut_length r]

theorem cutA_com (cur : List UInt8) (r : List UInt8) : cutA cur (10 :: r) = cur :: cutA [] r := by rw [cutA, if_pos rfl]
theorem cutA_let (cur : List UInt8) (c : UInt8) (r : List UInt8) (h : c ≠ 10) : cutA cur (c :: r) = cutA (cur ++ [c]) r := by rw [cutA, if_neg h]
end Go.Ln
