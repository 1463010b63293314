/- Exact quotients that are not 0: their highest term is not 0, and how long they are. No program is spoken of. -/
import Derived.Test.YtbbdhbamooaloaaLd
namespace Go.Pl

theorem ldv_keep {go : Int → Option Int} {kp : Int → Int} {b : List Int} {n : Nat} : ∀ (k : Nat) (Q R : List Int) {S : List Int × List Int}, ldv go kp b n k Q R = some S → ∀ j, k ≤ j → S.1[j]? = Q[j]?
  | 0, Q, R, S, h, j, _ => by rw [ldv_zero] at h; injection h with h; rw [← h]
  | k + 1, Q, R, S, h, j, hj => by
    cases hg : go (at' R (k + n)) with
    | none => rw [ldv_none hg] at h; cases h
    | some t =>
      rw [ldv_some hg] at h
      rw [ldv_keep k _ _ h j (by omega), List.getElem?_set_ne (by omega)]
theorem gox_ne {last x t : Int} (h : gox last x = some t) (hx : x ≠ 0) : t ≠ 0 := by
  unfold gox at h
  by_cases hb : gbx last x = true
  · rw [if_pos hb] at h
    injection h with h
    unfold gbx at hb
    rw [Bool.and_eq_true] at hb
    have h1 := of_decide_eq_true hb.1
    intro ht
    rw [h, ht, Int.zero_mul] at h1
    exact hx h1.symm
  · rw [if_neg hb] at h; cases h
theorem exq_top {A B : List Int} (hA : Val A) (hB : Val B) (hA0 : A ≠ [0]) (h : exok A B = true) :
    B.length ≤ A.length ∧ (exq A B).length = A.length - B.length + 1 ∧ at' (exq A B) (A.length - B.length) ≠ 0 := by
  have hs : ¬ A.length < B.length := fun hs => by
    rw [ex_short hs (by rw [trim_val hA]; exact hA0)] at h
    cases h
  have hB1 := hB.pos
  cases hr : exr A B with
  | none => rw [ex_none hr] at h; cases h
  | some S =>
    rw [(ex_some hr).2]
    unfold exr at hr
    have hl := (ldv_len _ _ _ hr).1
    rw [List.length_replicate] at hl
    have hk : A.length - (B.length - 1) = (A.length - B.length) + 1 := by omega
    have hlast : at' A (A.length - 1) ≠ 0 := fun e => by
      have := (trim_last (R := A)).1 (by rw [trim_val hA]; exact e)
      rw [trim_val hA] at this
      exact hA0 this
    rw [hk] at hr hl
    refine ⟨by omega, by omega, ?_⟩
    have hx : (A.length - B.length) + (B.length - 1) = A.length - 1 := by omega
    cases hg : gox (at' B (B.length - 1)) (at' A ((A.length - B.length) + (B.length - 1))) with
    | none => rw [ldv_none hg] at hr; cases hr
    | some t =>
      rw [ldv_some hg] at hr
      have h1 := ldv_keep _ _ _ hr (A.length - B.length) (Nat.le_refl _)
      rw [List.getElem?_set_self (by rw [List.length_replicate]; omega)] at h1
      rw [at_get h1]
      exact gox_ne hg (by rw [hx]; exact hlast)
theorem exq_trim {A B : List Int} (hA : Val A) (hB : Val B) (hA0 : A ≠ [0]) (h : exok A B = true) :
    trim (exq A B) = exq A B := by
  have ht := exq_top hA hB hA0 h
  refine trim_id (fun e => by rw [e] at ht; simp at ht) (Or.inr fun e => ht.2.2 ?_)
  rw [ht.2.1, Nat.add_sub_cancel] at e
  exact at_get e
theorem exq_ne0 {A B : List Int} (hA : Val A) (hB : Val B) (hA0 : A ≠ [0]) (h : exok A B = true) : exq A B ≠ [0] := by
  have ht := exq_top hA hB hA0 h
  intro e
  have h1 : A.length - B.length = 0 := by
    have := ht.2.1
    rw [e] at this
    simp at this
    omega
  rw [h1, e] at ht
  exact ht.2.2 rfl
end Go.Pl
