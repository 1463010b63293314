/- The cosine of a quotient of turns: both sides tell the same. -/
import Derived.Test.YtibpahkjjjhapabSineTurnsW
namespace Go.Proofs.Ytibpahkjjjhapab.cos
open Go.RowKit Go.Fl Go.Proofs.Ytibpahkjjjhapab.abs Go.Proofs.Ytibpahkjjjhapab.nan Go.Proofs.Ytibpahkjjjhapab.fin Go.Proofs.Ytibpahkjjjhapab.sin Go.Proofs.Ytibpahkjjjhapab.sameFloat Go.Proofs.Ytibpahkjjjhapab.fnExactSineTurnsW

/-- the sine of a 32-bit number of turns -/
def tz (X : Nat) : Nat := if fin X = true then (if FloatKind.f64.format.order (absN (cv .f32 .f64 X)) 4841369599423283200 = some .lt then cv .f64 .f32 (sinW (cv .f32 .f64 X)) else 0) else qn .f32
theorem tz_no {X : Nat} (h : fin X = false) : tz X = qn .f32 := if_neg (by rw [h]; decide)
theorem turn_both (r : Nat) : (∀ w, Calls Try.prog 45 #[.float .f32 r] w (SmPost (tz r) w)) ∧ ∃ y, Fits .f64 .f32 y ∧ cv .f64 .f32 y = tz r ∧
    ∀ Y, Sm .f64 Y (cv .f32 .f64 r) → ∀ w, Calls Try.prog 44 #[.float .f64 Y] w fun e w' => e = .returned (.float .f64 y) ∧ ∃ n, w' = w.drewN n := by
  have hnan : cv .f64 .f32 9221120237041090561 = qn .f32 := cv_nan (by decide) nan_isN
  cases hF : fin r with
  | true =>
    obtain ⟨s, m0, i0, hdx⟩ := (fin_iff r).1 hF
    obtain ⟨m, i, hD⟩ := wide_num_read hdx
    have hN : isN .f64 (cv .f32 .f64 r) = false := by rw [wide_isN]; exact num_not_nan hdx
    rcases big_cases hD with ⟨b1, b2, b3, hw⟩ | ⟨b1, b2⟩
    · have hy := nm_whole hD hw
      have hfit := ok_fits (nm_sinW hD hw).ok (by omega)
      have ez : tz r = cv .f64 .f32 (sinW (cv .f32 .f64 r)) := by unfold tz; rw [if_pos hF, if_pos b1]
      rw [ez]
      refine ⟨fun w => impl_small rfl hN hF hD hy hw b1 hfit w, _, hfit, rfl, fun Y hY w => ?_⟩
      obtain rfl := (hY.symm.eq_of_not hN).symm
      exact (sinS.wide_any hD hy hw b2 b3 w).mono fun e w' ⟨he, hw⟩ => ⟨he, 0, hw.symm⟩
    · have hn : ¬ FloatKind.f64.format.order (absN (cv .f32 .f64 r)) 4841369599423283200 = some .lt := by
        rcases b1 with b1 | b1 <;> rw [b1] <;> decide
      have ez : tz r = 0 := by unfold tz; rw [if_pos hF, if_neg hn]
      rw [ez]
      refine ⟨fun w => impl_big rfl hN hF b1 w, 0, .inr (by decide), by decide, fun Y hY w => ?_⟩
      obtain rfl := (hY.symm.eq_of_not hN).symm
      exact (sinS.wide_big hD b2 w).mono fun e w' ⟨he, hw⟩ => ⟨he, 0, hw.symm⟩
  | false =>
    have ez : tz r = qn .f32 := tz_no hF
    rw [ez]
    refine ⟨fun w => impl_not hF w, _, fits_nan nan_isN, hnan, fun Y hY w => ?_⟩
    exact sinS.wide_not Y (fun r' hr => sub_self_not (k := .f64) (not_num_wide hF hY) hr) w

/-- the same for all that is the same up to the bits of a not-a-number -/
theorem turn_all (X : Nat) : ∀ r, Sm .f32 r X → (∀ w, Calls Try.prog 45 #[.float .f32 r] w (SmPost (tz X) w)) ∧ ∃ y, Fits .f64 .f32 y ∧ cv .f64 .f32 y = tz X ∧
    ∀ Y, Sm .f64 Y (cv .f32 .f64 r) → ∀ w, Calls Try.prog 44 #[.float .f64 Y] w fun e w' => e = .returned (.float .f64 y) ∧ ∃ n, w' = w.drewN n := by
  have nofin : ∀ r, isN .f32 r = true → fin r = false := fun r hr => by
    cases h : fin r with
    | false => rfl
    | true =>
      obtain ⟨s, m, p, hd⟩ := (fin_iff r).1 h
      rw [num_not_nan hd] at hr
      cases hr
  intro r hr
  cases hN : isN .f32 X with
  | false =>
    have e := hr.symm.eq_of_not hN
    rw [← e]
    exact turn_both X
  | true =>
    have hF : fin r = false := nofin r (by rw [hr.isN]; exact hN)
    have ez : tz X = tz r := (tz_no (nofin X hN)).trans (tz_no hF).symm
    rw [ez]
    exact turn_both r

/-- the number that both tell -/
def cz (a b : Nat) : Nat := tz (ar .add .f32 (ar .quo .f32 a b) 1048576000)
theorem icos_any (a b : Nat) (w : World) : Calls Try.prog 25 #[.float .f32 a, .float .f32 b] w (SmPost (cz a b) w) := by
  have HZ := Lib.hid (turn_all (ar .add .f32 (ar .quo .f32 a b) 1048576000))
  have HS : Hid (∀ r s, Sm .f32 r (ar .quo .f32 a b) → Sm .f32 s (ar .add .f32 r 1048576000) → Sm .f32 s (ar .add .f32 (ar .quo .f32 a b) 1048576000)) := fun r s h1 h2 => by
    rw [ar_congr h1 (Sm.refl _ _)] at h2
    exact h2
  have HC : Hid (cz a b = tz (ar .add .f32 (ar .quo .f32 a b) 1048576000)) := rfl
  rw [HC.out]
  clear HC
  generalize tz (ar .add .f32 (ar .quo .f32 a b) 1048576000) = z at *
  go_enter Try.func25, Try.ntmps25
  go_wp2_with (first | (refine wpList_ar rfl .quo 42 42 _ _ rfl (by simp) .f32 _ _ rfl rfl ?_; intro r q1 hr hw1) | (refine wpList_ar rfl .add 42 42 _ _ rfl (by simp) .f32 _ _ rfl rfl ?_; intro s q2 hs hw2; have H := (HZ.out s (HS.out _ _ (by assumption) hs)).1) | (go_at_call 45; refine (H _).mono ?_; rintro e w' ⟨v, n, rfl, rfl, hv⟩))
  go_ret
  exact ⟨_, _, rfl, rfl, by assumption⟩
theorem scos_any (a b : Nat) (w : World) : Calls Try.prog 23 #[.float .f32 a, .float .f32 b] w (SmPost (cz a b) w) := by
  have HZ := Lib.hid (turn_all (ar .add .f32 (ar .quo .f32 a b) 1048576000))
  have huf : (Try.prog.underlying 42).isSome = true := by rw [Try.underlying42]; rfl
  have HS : Hid (∀ r s, Sm .f32 r (ar .quo .f32 a b) → Sm .f32 s (ar .add .f32 r 1048576000) → Sm .f32 s (ar .add .f32 (ar .quo .f32 a b) 1048576000)) := fun r s h1 h2 => by
    rw [ar_congr h1 (Sm.refl _ _)] at h2
    exact h2
  have HC : Hid (cz a b = tz (ar .add .f32 (ar .quo .f32 a b) 1048576000)) := rfl
  rw [HC.out]
  clear HC
  generalize tz (ar .add .f32 (ar .quo .f32 a b) 1048576000) = z at *
  go_enter Try.func23, Try.ntmps23
  go_wp2_with (first | (refine wpList_ar rfl .quo 42 42 _ _ rfl (by simp) .f32 _ _ rfl rfl ?_; intro r q1 hr hw1) | (refine wpList_ar rfl .add 42 42 _ _ rfl (by simp) .f32 _ _ rfl rfl ?_; intro s q2 hs hw2; obtain ⟨y, hfit, hyz, hwide⟩ := (HZ.out s (HS.out _ _ (by assumption) hs)).2) | (refine wpList_cv rfl 42 45 _ rfl .f32 .f64 (by decide) _ rfl huf Try.underlying45 (fits_wide _) ?_; intro Y q3 hY hwy) | (go_at_call 44; refine (hwide _ hY _).mono ?_; rintro e w' ⟨rfl, n, rfl⟩) | (go_at_call 43; refine (nan.narrow_spec hfit _).mono ?_; rintro e w' ⟨v, n, rfl, rfl, hv⟩; rw [hyz] at hv))
  go_ret
  exact ⟨_, _, rfl, rfl, by assumption⟩
end Go.Proofs.Ytibpahkjjjhapab.cos
