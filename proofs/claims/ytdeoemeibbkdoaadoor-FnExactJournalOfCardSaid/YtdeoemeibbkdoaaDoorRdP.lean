import Derived.Lib.ItoaNum
import Derived.Lib.ParseIntBCases
import Derived.Lib.ParseIntBTie
import Derived.Lib.AtoiAll
namespace Go.Rd
open Go.Lib

def isDig (c : UInt8) : Prop := 48 ≤ c.toNat ∧ c.toNat ≤ 57
instance (c : UInt8) : Decidable (isDig c) := by unfold isDig; infer_instance
/-- one byte into the number -/
def dstep (n : Nat) (c : UInt8) : Nat := if isDig c then 10 * n + (c.toNat - 48) else n
def fold (l : List UInt8) : Nat := l.foldl dstep 0
def zof (l : List UInt8) : Int := if l.head? = some 45 then -(fold l : Int) else fold l

theorem toNat_dig {d : Nat} (h : d < 10) : (UInt8.ofNat (48 + d)).toNat = 48 + d := by
  simp only [UInt8.toNat_ofNat']
  omega
theorem dstep_dig (n : Nat) {d : Nat} (h : d < 10) : dstep n (UInt8.ofNat (48 + d)) = 10 * n + d := by
  unfold dstep
  rw [if_pos (by unfold isDig; rw [toNat_dig h]; omega), toNat_dig h]
  omega

theorem dd_step {u : Nat} (h : ¬ u < 10) : decDigits u = decDigits (u / 10) ++ [UInt8.ofNat (48 + u % 10)] := by
  rw [decDigits, dif_neg h]

theorem fold_dd : ∀ u : Nat, (decDigits u).foldl dstep 0 = u := by
  intro u
  induction u using Nat.strongRecOn with
  | _ u ih =>
    by_cases h : u < 10
    · rw [decDigits_one h]; show dstep 0 _ = u; rw [dstep_dig 0 h]; omega
    · rw [dd_step h, List.foldl_append, ih (u / 10) (by omega)]
      show dstep _ _ = u
      rw [dstep_dig _ (Nat.mod_lt _ (by omega))]; omega

theorem mem_dd : ∀ (u : Nat) (c : UInt8), c ∈ decDigits u → isDig c := by
  intro u
  induction u using Nat.strongRecOn with
  | _ u ih =>
    intro c hc
    by_cases h : u < 10
    · rw [decDigits_one h] at hc
      obtain rfl := List.mem_singleton.1 hc
      unfold isDig; rw [toNat_dig h]; omega
    · rw [dd_step h] at hc
      rcases List.mem_append.1 hc with hc | hc
      · exact ih (u / 10) (by omega) c hc
      · obtain rfl := List.mem_singleton.1 hc
        have := Nat.mod_lt u (show 10 > 0 by omega)
        unfold isDig; rw [toNat_dig this]; omega

theorem nd_le : ∀ (k u : Nat), 1 ≤ k → u < 10 ^ k → nDigits u ≤ k
  | 0, _, h, _ => by omega
  | 1, u, _, h => by rw [nDigits_small (by simpa using h)]; exact Nat.le_refl _
  | k + 2, u, _, h => by
    by_cases h10 : u < 10
    · rw [nDigits_small h10]; omega
    · rw [nDigits_big h10]
      have := nd_le (k + 1) (u / 10) (by omega) (by
        rw [Nat.pow_succ] at h
        exact Nat.div_lt_of_lt_mul (by rw [Nat.mul_comm]; exact h))
      omega

theorem le_fold : ∀ (l : List UInt8) (a : Nat), a ≤ l.foldl dstep a
  | [], a => Nat.le_refl _
  | c :: r, a => by
    refine Nat.le_trans ?_ (le_fold r (dstep a c))
    unfold dstep
    split <;> omega
theorem fold_lt : ∀ (l : List UInt8) (a : Nat), l.foldl dstep a < (a + 1) * 10 ^ l.length
  | [], a => by simp
  | c :: r, a => by
    refine Nat.lt_of_lt_of_le (fold_lt r (dstep a c)) ?_
    rw [List.length_cons, Nat.pow_succ, Nat.mul_comm (10 ^ r.length) 10, ← Nat.mul_assoc]
    refine Nat.mul_le_mul_right _ ?_
    unfold dstep
    by_cases h : isDig c
    · rw [if_pos h]; unfold isDig at h; omega
    · rw [if_neg h]; omega

theorem parse_fold : ∀ (l : List UInt8) (a : Nat), (∀ c ∈ l, isDig c) → l.foldl dstep a < 18446744073709551616 → parseUint10 a l = .ok (l.foldl dstep a)
  | [], a, _, _ => rfl
  | c :: r, a, hd, hf => by
    have hc := hd c (List.mem_cons_self ..)
    have e : dstep a c = a * 10 + (c.toNat - 48) := by unfold dstep; rw [if_pos hc, Nat.mul_comm]
    rw [List.foldl_cons] at hf ⊢
    have hle := le_fold r (dstep a c)
    simp only [parseUint10]
    unfold isDig at hc
    rw [if_pos hc, if_neg (by omega), if_neg (by omega), ← e]
    exact parse_fold r _ (fun c h => hd c (List.mem_cons_of_mem _ h)) hf

theorem dd_ne (u : Nat) : decDigits u ≠ [] := by
  intro h
  have := decDigits_length u
  rw [h] at this
  have := nDigits_pos u
  simp at *
  omega

theorem parse_itoa (v : Int) (h0 : -9223372036854775808 ≤ v) (h1 : v ≤ 9223372036854775807) : parseIntB 64 (itoa v) = .ok v := by
  have hu : ∀ u : Nat, u < 18446744073709551616 → parseUintB 64 (decDigits u) = .ok u := fun u h => by
    rw [parseUintB_64, parseMag, if_neg (dd_ne u), parse_fold _ _ (mem_dd u) (by rw [fold_dd]; exact h), fold_dd]
  unfold itoa
  by_cases hv : v < 0
  · rw [if_pos hv, parseIntB_minus, hu _ (by omega)]
    simp only [signedC]
    rw [if_neg (by simp; omega)]
    congr 1; omega
  · rw [if_neg hv]
    cases hd : decDigits v.toNat with
    | nil => exact absurd hd (dd_ne _)
    | cons c r =>
      have hc : isDig c := mem_dd v.toNat c (by rw [hd]; exact List.mem_cons_self ..)
      unfold isDig at hc
      rw [parseIntB_plain 64 c r (by omega) (by omega), ← hd, hu _ (by omega)]
      simp only [signlessC]
      rw [if_neg (by simp; omega)]
      congr 1; omega

theorem zof_itoa (v : Int) : zof (itoa v) = v := by
  unfold zof fold itoa
  by_cases hv : v < 0
  · rw [if_pos hv]
    rw [if_pos (by rfl), List.foldl_cons]
    have e : dstep 0 45 = 0 := by decide
    rw [e, fold_dd]; omega
  · rw [if_neg hv]
    rw [if_neg, fold_dd]
    · omega
    · intro h
      have hm : (45 : UInt8) ∈ decDigits v.toNat := List.mem_of_head? h
      have := mem_dd _ _ hm
      revert this; decide

theorem itoa_len (v : Int) (h0 : -1000000000000000 ≤ v) (h1 : v ≤ 1000000000000000) : 1 ≤ (itoa v).length ∧ (itoa v).length ≤ 17 := by
  have hn := nd_le 16 v.natAbs (by omega) (by have : (10 : Nat) ^ 16 = 10000000000000000 := by decide
                                              omega)
  have hp := nDigits_pos v.natAbs
  unfold itoa
  by_cases hv : v < 0
  · rw [if_pos hv, List.length_cons, decDigits_length]; omega
  · have e : v.toNat = v.natAbs := by omega
    rw [if_neg hv, e, decDigits_length]; omega

/-- what both sides answer -/
def Out (l : List UInt8) (v : Int) (b : Bool) : Prop :=
  (b = true ∧ -1000000000000000 ≤ v ∧ v ≤ 1000000000000000 ∧ itoa v = l) ∨ (b = false ∧ v = 0 ∧ ∀ z : Int, -1000000000000000 ≤ z → z ≤ 1000000000000000 → itoa z ≠ l)

theorem out_same {l : List UInt8} {v v' : Int} {b b' : Bool} (h : Out l v b) (h' : Out l v' b') : v = v' ∧ b = b' := by
  rcases h with ⟨hb, h0, h1, h2⟩ | ⟨hb, h0, h1⟩
  · rcases h' with ⟨hb', h0', h1', h2'⟩ | ⟨hb', h0', h1'⟩
    · refine ⟨?_, by rw [hb, hb']⟩
      rw [← zof_itoa v, h2, ← h2', zof_itoa]
    · exact absurd h2 (h1' v h0 h1)
  · rcases h' with ⟨hb', h0', h1', h2'⟩ | ⟨hb', h0', h1'⟩
    · exact absurd h2' (h1 v' h0' h1')
    · exact ⟨by rw [h0, h0'], by rw [hb, hb']⟩
end Go.Rd
