/- RootNumber and its model return the same at every number. -/
import Derived.Test.YtncapcflhchpmabSqrtW
import Derived.Test.YtncapcflhchpmabSameFloatW
import Derived.Test.YtncapcflhchpmabPost
namespace Go.Proofs.Ytncapcflhchpmab.fnExactRootNumberW
open Go.RowKit Go.Fl Go.Proofs.Ytncapcflhchpmab.sqrt Go.Proofs.Ytncapcflhchpmab.sameFloat

/-- the root of a 32-bit number fits -/
theorem root_fits {b x r : Nat} (hx : Sm .f64 x (cv .f32 .f64 b)) (hr : Sm .f64 r (sq x)) : Fits .f64 .f32 r := by
  have h : Ok r 70 ∨ isN .f64 r = true ∨ ∃ s, Ieee.double.read r = .infinity s := by
    rw [sq_congr hx] at hr
    cases hn : isN .f32 b with
    | true =>
      refine .inl (.inl ?_)
      rw [hr.isN]
      have : isN .f64 (cv .f32 .f64 b) = true := by rw [wide_isN]; exact hn
      rw [sq_congr (.inr ⟨this, qn_isN .f64⟩)]; decide
    | false =>
      rcases read_not_nan hn with ⟨s, m, p, h⟩ | ⟨s, h⟩
      · exact .inl ((ok_sq (ok_wide h) (E := 70) (by omega) (by omega) (by omega)).congr hr)
      · have h1 := wide_inf h
        have h2 : sq (cv .f32 .f64 b) = if s then qn .f64 else 9218868437227405312 := by
          unfold sq Ieee.Format.sqrt
          rw [h1]
          cases s <;> rfl
        rw [h2] at hr
        cases s with
        | true => exact .inr (.inl (by rw [hr.isN]; decide))
        | false =>
          obtain rfl : r = 9218868437227405312 := (hr.symm.eq_of_not (by decide)).symm
          exact .inr (.inr ⟨false, by decide⟩)
  rcases h with h | h | ⟨s, h⟩
  · exact ok_fits h (by omega)
  · exact .inl h
  · right
    have hd : FloatKind.f64.decode r = .infinity s := h
    unfold floatToFloatBits
    rw [if_neg (by decide), hd]; rfl

/-- the root of a 32-bit number, narrowed -/
def rt (b : Nat) : Nat := cv .f64 .f32 (sq (cv .f32 .f64 b))

def RtPost (b : Nat) (w : World) (e : Ending) (w' : World) : Prop := ∃ r n, e = .returned (.float .f32 r) ∧ w' = w.drewN n ∧ Sm .f32 r (rt b)

theorem narrow_impl {b : Nat} (hf : Fits .f64 .f32 b) (w : World) :
    Calls Try.prog 33 #[.float .f64 b] w fun e w' => ∃ r n, e = .returned (.float .f32 r) ∧ w' = w.drewN n ∧ Sm .f32 r (cv .f64 .f32 b) := by
  have huf : (Try.prog.underlying 25).isSome = true := by rw [Try.underlying25]; rfl
  go_enter Try.func33, Try.ntmps33
  go_wp2_with (first | (refine wpList_cv rfl 25 22 _ rfl .f64 .f32 (by decide) _ rfl huf Try.underlying22 hf ?_; intro r n hr hw))
  go_ret
  exact ⟨_, _, rfl, rfl, hr⟩
theorem narrow_spec {b : Nat} (hf : Fits .f64 .f32 b) (w : World) :
    Calls Try.prog 57 #[.float .f64 b] w fun e w' => ∃ r n, e = .returned (.float .f32 r) ∧ w' = w.drewN n ∧ Sm .f32 r (cv .f64 .f32 b) := by
  have huf : (Try.prog.underlying 25).isSome = true := by rw [Try.underlying25]; rfl
  go_enter Try.func57, Try.ntmps57
  go_wp2_with (first | (refine wpList_cv rfl 25 22 _ rfl .f64 .f32 (by decide) _ rfl huf Try.underlying22 hf ?_; intro r n hr hw))
  go_ret
  exact ⟨_, _, rfl, rfl, hr⟩

theorem rt_of {b x r z : Nat} (hx : Sm .f64 x (cv .f32 .f64 b)) (hr : Sm .f64 r (sq x)) (hz : Sm .f32 z (cv .f64 .f32 r)) : Sm .f32 z (rt b) := by
  unfold rt
  rw [← sq_congr hx, ← cv_congr (by decide) hr]
  exact hz

theorem impl_any (b : Nat) (w : World) : Calls Try.prog 13 #[.float .f32 b] w (RtPost b w) := by
  have huf : (Try.prog.underlying 22).isSome = true := by rw [Try.underlying22]; rfl
  go_enter Try.func13, Try.ntmps13
  go_wp2_with (first | (refine wpList_cv rfl 22 25 _ rfl .f32 .f64 (by decide) _ rfl huf Try.underlying25 (fits_wide _) ?_; intro x n hx hw) | (go_at_call 34; refine (sqrt_any _ _).mono ?_; rintro e w' ⟨r, n, rfl, rfl, hr, hw⟩) | (go_at_call 33; refine (narrow_impl (root_fits (by assumption) (by assumption)) _).mono ?_; rintro e w' ⟨z, n, rfl, rfl, hz⟩))
  go_ret
  exact ⟨_, _, rfl, rfl, rt_of hx hr hz⟩

theorem l01_any (b : Nat) (w : World) : Calls Try.prog 32 #[.float .f32 b] w (RtPost b w) := by
  have huf : (Try.prog.underlying 22).isSome = true := by rw [Try.underlying22]; rfl
  go_enter Try.func32, Try.ntmps32
  go_wp2_with (first | (refine wpList_cv rfl 22 25 _ rfl .f32 .f64 (by decide) _ rfl huf Try.underlying25 (fits_wide _) ?_; intro x n hx hw) | (go_at_call 34; refine (sqrt_any _ _).mono ?_; rintro e w' ⟨r, n, rfl, rfl, hr, hw⟩) | (go_at_call 57; refine (narrow_spec (root_fits (by assumption) (by assumption)) _).mono ?_; rintro e w' ⟨z, n, rfl, rfl, hz⟩))
  go_ret
  exact ⟨_, _, rfl, rfl, rt_of hx hr hz⟩

theorem spec_any (b : Nat) (w : World) : Calls Try.prog 12 #[.float .f32 b] w (RtPost b w) := by
  go_enter Try.func12, Try.ntmps12
  go_wp2_with (first | (go_at_call 32; refine (l01_any _ _).mono ?_; rintro e w' ⟨r, n, rfl, rfl, hr⟩))
  go_ret
  exact ⟨_, _, rfl, rfl, hr⟩

theorem walk (a0 : Nat) (_w0 : (Lit.float .f32 a0).wf = true) (w : World) :
    Calls Try.prog 3 #[.float .f32 a0] w fun e w' => e = .returned (.bool true) ∧ Below w.heap.size w w' := by
  have huf : (Try.prog.underlying 22).isSome = true := by rw [Try.underlying22]; rfl
  go_enter Try.func3, Try.ntmps3
  go_wp2_with fail
  refine (spec_any a0 _).mono ?_
  rintro e w' ⟨x, n, rfl, rfl, hx⟩
  go_wp2_with fail
  refine (impl_any a0 _).mono ?_
  rintro e w' ⟨y, n', rfl, rfl, hy⟩
  have hxy : ∀ r r', Sm .f64 r (cv .f32 .f64 y) → Sm .f64 r' (cv .f32 .f64 x) → Sm .f64 r r' := fun r r' h h' => by
    rw [cv_congr (by decide) (hy.trans hx.symm)] at h
    exact h.trans h'.symm
  clear hx hy
  go_wp2_with (first | (refine wpList_cv rfl 22 25 _ rfl .f32 .f64 (by decide) _ rfl huf Try.underlying25 (fits_wide _) ?_; intro r n hr hw) | (go_at_call 14; refine (same_any _ _ (hxy _ _ (by assumption) (by assumption)) _).mono ?_; rintro e w' ⟨rfl, n, rfl⟩))
  go_ret
  exact ⟨rfl, Go.Pst.below_draws ⟨_, rfl⟩⟩
end Go.Proofs.Ytncapcflhchpmab.fnExactRootNumberW
