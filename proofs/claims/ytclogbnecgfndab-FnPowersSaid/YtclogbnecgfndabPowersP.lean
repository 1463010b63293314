/- All that the law FnPowers asks of numbers, at each pair of eighths from -4 to 4. -/
import Derived.Test.YtclogbnecgfndabExpW
import Derived.Test.YtclogbnecgfndabLogIW
import Derived.Test.YtclogbnecgfndabPwB
import Derived.Test.YtclogbnecgfndabPwC
namespace Go.Proofs.Ytclogbnecgfndab.powers
open Go.RowKit Go.Fl Go.Proofs.Ytclogbnecgfndab.expo Go.Proofs.Ytclogbnecgfndab.fnExactLogNumberW

theorem and2 {a b : Bool} (h : (a && b) = true) : a = true ∧ b = true := by simpa using h
theorem and3 {a b c : Bool} (h : (a && b && c) = true) : a = true ∧ b = true ∧ c = true := by
  obtain ⟨h1, h2⟩ := and2 h
  exact ⟨(and2 h1).1, (and2 h1).2, h2⟩

theorem tells_eq {op : BinOp} {k : FloatKind} {x y r : Nat} (h : tells op k x y r = true) : floatBits op k x y = some r := by
  unfold tells at h
  simpa using h
theorem turns_eq {s d : FloatKind} {x r : Nat} (h : turns s d x r = true) : floatToFloatBits s x d = some r := by
  unfold turns at h
  simpa using h
theorem narrows_eq {x r : Nat} (h : narrows x r = true) : floatToFloatBits .f64 x .f32 = some r := by
  unfold narrows at h
  simpa using h
theorem cv_of {s d : FloatKind} {x r : Nat} (h : floatToFloatBits s x d = some r) : cv s d x = r := by
  unfold cv
  rw [h]; rfl
theorem ord_eq {o : Option Ordering} {r : Ordering} (h : (o == some r) = true) : o = some r := by simpa using h
theorem some_ar {op : BinOp} {k : FloatKind} {x y : Nat} (h : (floatBits op k x y).isSome = true) : floatBits op k x y = some (ar op k x y) := by
  unfold ar
  cases hb : floatBits op k x y with
  | some r => rfl
  | none => rw [hb] at h; cases h

theorem not_nan_of_gt {k : FloatKind} {x y : Nat} {o : Ordering} (h : k.format.order x y = some o) : isN k x = false := by
  cases hn : isN k x with
  | false => rfl
  | true =>
    have : k.format.order x y = none := order_nan_left (d := k.format.read x) hn
    rw [this] at h; cases h

theorem facts_x (k : Nat) (hk : k < 129) : floatBits .quo .f32 (floatOfInt .f32 ((k : Int) - 64)) 1090519040 = some (xA k) ∧ FloatKind.f32.format.order (xA k) 1128792064 = some .lt ∧ FloatKind.f32.format.order (xA k) 3276275712 = some .gt := by
  obtain ⟨h1, h2, h3⟩ := and3 (tab_x ⟨k, hk⟩)
  exact ⟨tells_eq h1, ord_eq h2, ord_eq h3⟩
theorem facts_w (k : Nat) (hk : k < 129) : floatToFloatBits .f32 (eA k) .f64 = some (wA k) ∧ floatBits .mul .f64 4562254508917369340 (wA k) = some (hA k) ∧ FloatKind.f32.format.order (eA k) 0 = some .gt := by
  obtain ⟨h1, h2, h3⟩ := and3 (tab_w ⟨k, hk⟩)
  exact ⟨turns_eq h1, tells_eq h2, ord_eq h3⟩

theorem exp_eq (k : Nat) (hk : k < 129) (w : World) : Calls Try.prog 15 #[.float .f32 (xA k)] w fun e w' => e = .returned (.float .f32 (eA k)) ∧ ∃ n, w' = w.drewN n := by
  obtain ⟨_, h1, h2⟩ := facts_x k hk
  have h3 := narrows_eq (tab_e ⟨k, hk⟩)
  have h3' : floatToFloatBits .f64 (exW (cv .f32 .f64 (xA k))) .f32 = some (eA k) := h3
  have h4 := not_nan_of_gt (facts_w k hk).2.2
  refine (exp_any (xA k) h1 h2 (.inr (by rw [h3']; rfl)) w).mono ?_
  rintro e w' ⟨r, n, rfl, rfl, hr⟩
  have e1 : exN (xA k) = eA k := cv_of h3'
  rw [e1] at hr
  exact ⟨by rw [(hr.symm.eq_of_not h4).symm], n, rfl⟩

theorem wide_pos_of {b r m : Nat} {p : Int} (h : FloatKind.f32.format.order b 0 = some .gt) (hf : floatToFloatBits .f64 (lgW (cv .f32 .f64 b)) .f32 = some r) (hn : Ieee.single.read b = .number false m p) : lgN b = r := by
  have ho := order_zero .f32 b
  have e : FloatKind.f32.format.read b = Ieee.single.read b := rfl
  rw [h, e, hn] at ho
  unfold lgN
  rw [hn]
  by_cases h0 : m = 0
  · simp [h0] at ho
  · simp only [h0, if_false, Bool.false_eq_true]
    exact cv_of hf
set_option maxRecDepth 100000 in
theorem num_e : ∀ k : Fin 129, (match Ieee.single.read (eA k.val) with | .number false _ _ => decide (eA k.val < 4294967296) | _ => false) = true := by
  decide +kernel

theorem log_eq (k : Nat) (hk : k < 65) (w : World) : Calls Try.prog 16 #[.float .f32 (eA (k + 32))] w fun e w' => e = .returned (.float .f32 (lA k)) ∧ ∃ n, w' = w.drewN n := by
  have h1 := (facts_w (k + 32) (by omega)).2.2
  have h2 : floatToFloatBits .f64 (lgW (cv .f32 .f64 (eA (k + 32)))) .f32 = some (lA k) := narrows_eq (tab_l ⟨k, hk⟩)
  have h3 := num_e ⟨k + 32, by omega⟩
  have h5 : turns .f32 .f64 (lA k) (mA k) = true := (and2 (tab_y ⟨k, hk⟩)).1
  have h4 : gapLt (mA k) (yA k) 4562254508917369340 = true := tab_log ⟨k, hk⟩
  dsimp only at h3
  cases hn : Ieee.single.read (eA (k + 32)) with
  | nan s f => rw [hn] at h3; cases h3
  | infinity s => rw [hn] at h3; cases h3
  | number s m p =>
    rw [hn] at h3
    cases s with
    | true => cases h3
    | false =>
      have hlt : eA (k + 32) < 4294967296 := by simpa using h3
      have e1 := wide_pos_of h1 h2 hn
      refine (fnExactLogNumberW.impl_any (eA (k + 32)) (by omega) w).mono ?_
      rintro e w' ⟨r, n, rfl, rfl, hr⟩
      rw [e1] at hr
      have h6 : isN .f32 (lA k) = false := by
        cases hb : isN .f32 (lA k) with
        | false => rfl
        | true =>
          have h7 := turns_eq h5
          have h8 := cv_nan (s := .f32) (d := .f64) (by decide) hb
          unfold cv at h8
          rw [h7] at h8
          have h9 : mA k = qn .f64 := h8
          unfold gapLt at h4
          rw [h9] at h4
          have h10 : Ieee.double.order (qn .f64) (yA k) = none := order_nan_left (d := Ieee.double.read (qn .f64)) (by decide)
          rw [h10] at h4
          simp at h4
      exact ⟨by rw [(hr.symm.eq_of_not h6).symm], n, rfl⟩

theorem gap_call {a b c : Nat} (h : gapLt a b c = true) (w : World) : Calls Try.prog 9 #[.float .f64 a, .float .f64 b] w fun e w' => e = .returned (.float .f64 (gap a b)) ∧ w = w' := by
  unfold gapLt at h
  obtain ⟨h, h4⟩ := and2 h
  obtain ⟨h1, h2, h3⟩ := and3 h
  have r1 : ∀ t w, (binOp .sub t (.float .f64 b) (.float .f64 a)).run Try.prog w = .ok (.float .f64 (ar .sub .f64 b a)) w := fun t w => run_float_arith w .sub t .f64 b a _ (some_ar h2)
  have r2 : ∀ t w, (binOp .sub t (.float .f64 a) (.float .f64 b)).run Try.prog w = .ok (.float .f64 (ar .sub .f64 a b)) w := fun t w => run_float_arith w .sub t .f64 a b _ (some_ar h3)
  have hg : gap a b = if FloatKind.f64.format.order a b == some .lt then ar .sub .f64 b a else ar .sub .f64 a b := rfl
  have h1' : (FloatKind.f64.format.order a b).isSome = true := h1
  clear h1 h2 h3 h4
  generalize ar .sub .f64 b a = s1 at *
  generalize ar .sub .f64 a b = s2 at *
  generalize gap a b = g at *
  subst hg
  cases ho : FloatKind.f64.format.order a b with
  | none => rw [ho] at h1'; cases h1'
  | some o =>
    clear h1'
    cases o
    all_goals
      go_enter Try.func9, Try.ntmps9
      go_wp2
      go_ret
      exact ⟨rfl, rfl⟩
end Go.Proofs.Ytclogbnecgfndab.powers
