/- SquareFree: what both sides answer, as lists of lists. No program is spoken of, but for the four functions' answers. -/
import Derived.Test.YtbbdhbamooaloaaSqL
import Derived.Test.YtbbdhbamooaloaaPrimitiveOfF
import Derived.Test.YtbbdhbamooaloaaSlopeWholeF
import Derived.Test.YtbbdhbamooaloaaExactQuotientF
import Derived.Test.YtbbdhbamooaloaaCommonWholeF
namespace Go.Proofs.Ytbbdhbamooaloaa.fSquareFree
open Go.RowKit Go.Pl Go.Proofs.Ytbbdhbamooaloaa.wh

theorem cw_val {A B : List Int} (h : fCommonWhole.ok A B = true) : Val A ∧ Val B ∧ Val (fCommonWhole.R A B) := by
  unfold fCommonWhole.ok at h
  rw [Bool.and_eq_true, Bool.and_eq_true] at h
  obtain ⟨h1, h2, h3⟩ := h
  refine ⟨val_iff.1 h1, val_iff.1 h2, ?_⟩
  unfold fCommonWhole.R
  rw [if_pos ⟨h1, h2⟩]
  revert h3
  cases CW A B with
  | none => intro h3; cases h3
  | some D =>
    intro h3
    have h4 : val (trim D) = true := h3
    show Val (gv D)
    rw [gv_yes h4]
    exact val_iff.1 h4
theorem eq_ok {A B : List Int} (h : fExactQuotient.ok A B = true) : Val A ∧ Val B ∧ exok A B = true ∧ Val (fExactQuotient.R A B) ∧ fExactQuotient.R A B = trim (exq A B) := by
  unfold fExactQuotient.ok at h
  rw [Bool.and_eq_true, Bool.and_eq_true, Bool.and_eq_true, Bool.and_eq_true] at h
  obtain ⟨h1, h2, h3, h4, h5⟩ := h
  have h3' : fExactQuotient.zr B = false := by
    cases hz : fExactQuotient.zr B with
    | false => rfl
    | true => rw [hz] at h3; cases h3
  have e : fExactQuotient.R A B = trim (exq A B) := by
    unfold fExactQuotient.R
    rw [if_pos ⟨h1, h2, h3', h4⟩, gv_yes h5]
  exact ⟨val_iff.1 h1, val_iff.1 h2, h4, by rw [e]; exact val_iff.1 h5, e⟩
theorem eq_zr {A B : List Int} (h : fExactQuotient.ok A B = true) : B ≠ [0] := fun e => by
  unfold fExactQuotient.ok at h
  rw [Bool.and_eq_true, Bool.and_eq_true, Bool.and_eq_true] at h
  have h3 := h.2.2.1
  rw [e] at h3
  cases h3
/-- the quotient of one that is not 0 -/
theorem eq_len {A B : List Int} (h : fExactQuotient.ok A B = true) (hA0 : A ≠ [0]) : (fExactQuotient.R A B).length + B.length = A.length + 1 ∧ fExactQuotient.R A B ≠ [0] := by
  obtain ⟨hA, hB, hx, _, e⟩ := eq_ok h
  have ht := exq_top hA hB hA0 hx
  rw [e, exq_trim hA hB hA0 hx]
  have := hB.pos
  exact ⟨by omega, exq_ne0 hA hB hA0 hx⟩

/-- one round goes -/
def go (w c : List Int) : Bool := fCommonWhole.ok w c && (fExactQuotient.ok w (fCommonWhole.R w c) && fExactQuotient.ok c (fCommonWhole.R w c))
/-- how many rounds there are at most -/
def mq (w c : List Int) : Nat := if w.length ≤ 1 then 0 else c.length
def sq : Nat → List Int → List Int → List (List Int) → Option (List (List Int))
  | 0, _, _, out => some out
  | n + 1, w, c, out =>
    if w.length ≤ 1 then some out else
    if go w c = true then sq n (fCommonWhole.R w c) (fExactQuotient.R c (fCommonWhole.R w c)) (out ++ [fExactQuotient.R w (fCommonWhole.R w c)]) else none
/-- what the rounds from w and c on make of out -/
def SQ (w c : List Int) (out : List (List Int)) : Option (List (List Int)) := sq (mq w c) w c out
/-- of a list that is kept through the rounds -/
def Inv (w c : List Int) (out : List (List Int)) : Prop := Val w ∧ Val c ∧ c ≠ [0] ∧ (∀ L ∈ out, Val L) ∧ out.length + mq w c ≤ 17

theorem mq_less {w c : List Int} (hc0 : c ≠ [0]) (hw : ¬ w.length ≤ 1) (h : go w c = true) : mq (fCommonWhole.R w c) (fExactQuotient.R c (fCommonWhole.R w c)) < mq w c := by
  unfold go at h
  rw [Bool.and_eq_true, Bool.and_eq_true] at h
  obtain ⟨h1, h2, h3⟩ := h
  have hl := (eq_len h3 hc0).1
  have hc := (cw_val h1).2.1.pos
  have e : mq w c = c.length := if_neg hw
  rw [e]
  unfold mq
  by_cases hy : (fCommonWhole.R w c).length ≤ 1
  · rw [if_pos hy]; omega
  · rw [if_neg hy]; omega
theorem mq_pos {w c : List Int} (hc : Val c) (hw : ¬ w.length ≤ 1) : 1 ≤ mq w c := by
  unfold mq
  rw [if_neg hw]
  exact hc.pos
theorem go_oks {w c : List Int} (h : go w c = true) : fCommonWhole.ok w c = true ∧ fExactQuotient.ok w (fCommonWhole.R w c) = true ∧ fExactQuotient.ok c (fCommonWhole.R w c) = true := by
  unfold go at h
  rw [Bool.and_eq_true, Bool.and_eq_true] at h
  exact h
theorem sq_more : ∀ (f g : Nat) (w c : List Int) (out : List (List Int)), Val c → c ≠ [0] → mq w c ≤ f → mq w c ≤ g → sq f w c out = sq g w c out
  | f, g, w, c, out, hc, hc0, hf, hg => by
    by_cases hw : w.length ≤ 1
    · have h1 : ∀ n, sq n w c out = some out := fun n => by cases n with
        | zero => rfl
        | succ n => rw [sq, if_pos hw]
      rw [h1, h1]
    · have hp := mq_pos hc hw
      cases f with
      | zero => omega
      | succ f =>
        cases g with
        | zero => omega
        | succ g =>
          rw [sq, sq, if_neg hw, if_neg hw]
          by_cases h : go w c = true
          · rw [if_pos h, if_pos h]
            have hm := mq_less hc0 hw h
            have h3 := (go_oks h).2.2
            exact sq_more f g _ _ _ (eq_ok h3).2.2.2.1 (eq_len h3 hc0).2 (by omega) (by omega)
          · rw [if_neg h, if_neg h]
theorem SQ_stop {w c : List Int} {out : List (List Int)} (hw : w.length ≤ 1) : SQ w c out = some out := by
  unfold SQ mq
  rw [if_pos hw]
  rfl
theorem SQ_no {w c : List Int} {out : List (List Int)} (hc : Val c) (hc0 : c ≠ [0]) (hw : ¬ w.length ≤ 1) (h : ¬ go w c = true) : SQ w c out = none := by
  unfold SQ
  rw [sq_more _ (mq w c + 1) _ _ _ hc hc0 (Nat.le_refl _) (by omega), sq, if_neg hw, if_neg h]
theorem SQ_go {w c : List Int} {out : List (List Int)} (hc : Val c) (hc0 : c ≠ [0]) (hw : ¬ w.length ≤ 1) (h : go w c = true) :
    SQ w c out = SQ (fCommonWhole.R w c) (fExactQuotient.R c (fCommonWhole.R w c)) (out ++ [fExactQuotient.R w (fCommonWhole.R w c)]) := by
  have h3 := (go_oks h).2.2
  have hm := mq_less hc0 hw h
  unfold SQ
  rw [sq_more _ (mq w c + 1) _ _ _ hc hc0 (Nat.le_refl _) (by omega), sq, if_neg hw, if_pos h]
  exact sq_more _ _ _ _ _ (eq_ok h3).2.2.2.1 (eq_len h3 hc0).2 (by omega) (Nat.le_refl _)
theorem Inv.next {w c : List Int} {out : List (List Int)} (hi : Inv w c out) (hw : ¬ w.length ≤ 1) (h : go w c = true) :
    Inv (fCommonWhole.R w c) (fExactQuotient.R c (fCommonWhole.R w c)) (out ++ [fExactQuotient.R w (fCommonWhole.R w c)]) := by
  obtain ⟨h1, h2, h3⟩ := go_oks h
  have hm := mq_less hi.2.2.1 hw h
  refine ⟨(cw_val h1).2.2, (eq_ok h3).2.2.2.1, (eq_len h3 hi.2.2.1).2, ?_, ?_⟩
  · intro L hL
    rw [List.mem_append] at hL
    rcases hL with hL | hL
    · exact hi.2.2.2.1 L hL
    · rw [List.mem_singleton] at hL
      rw [hL]
      exact (eq_ok h2).2.2.2.1
  · have := hi.2.2.2.2
    rw [List.length_append]
    simp only [List.length_singleton]
    omega

/-- the whole without its content, its slope, what both have in common, and the quotient -/
def W (A : List Int) : List Int := fPrimitiveOf.R A
def S (A : List Int) : List Int := fSlopeWhole.R (W A)
def C (A : List Int) : List Int := fCommonWhole.R (W A) (S A)
def V (A : List Int) : List Int := fExactQuotient.R (W A) (C A)
def good (A : List Int) : Bool := val A && (decide (2 ≤ A.length) && (fCommonWhole.ok (W A) (S A) && fExactQuotient.ok (W A) (C A)))
def ans (A : List Int) : Option (List (List Int)) := if good A = true then SQ (V A) (C A) [] else none
theorem good_inv {A : List Int} (h : good A = true) : Inv (V A) (C A) [] := by
  unfold good at h
  rw [Bool.and_eq_true, Bool.and_eq_true, Bool.and_eq_true] at h
  obtain ⟨_, _, h1, h2⟩ := h
  have hv := cw_val h1
  refine ⟨(eq_ok h2).2.2.2.1, hv.2.2, eq_zr h2, (fun L hL => by cases hL), ?_⟩
  have hc : (C A).length ≤ 17 := hv.2.2.le
  unfold mq
  split <;> simp <;> omega
theorem SQ_inv : ∀ (n : Nat) (w c : List Int) (out O : List (List Int)), mq w c ≤ n → Inv w c out → SQ w c out = some O → (∀ L ∈ O, Val L) ∧ O.length ≤ 17
  | n, w, c, out, O, hn, hi, ho => by
    by_cases hw : w.length ≤ 1
    · rw [SQ_stop hw] at ho
      injection ho with ho
      rw [← ho]
      exact ⟨hi.2.2.2.1, by have := hi.2.2.2.2; omega⟩
    · by_cases h : go w c = true
      · rw [SQ_go hi.2.1 hi.2.2.1 hw h] at ho
        have hm := mq_less hi.2.2.1 hw h
        cases n with
        | zero => omega
        | succ n => exact SQ_inv n _ _ _ _ (by omega) (hi.next hw h) ho
      · rw [SQ_no hi.2.1 hi.2.2.1 hw h] at ho
        cases ho
theorem ans_inv {A : List Int} {O : List (List Int)} (h : ans A = some O) : (∀ L ∈ O, Val L) ∧ O.length ≤ 17 := by
  unfold ans at h
  by_cases hg : good A = true
  · rw [if_pos hg] at h
    exact SQ_inv _ _ _ _ _ (Nat.le_refl _) (good_inv hg) h
  · rw [if_neg hg] at h
    cases h
end Go.Proofs.Ytbbdhbamooaloaa.fSquareFree
