/- What is finite: in the program and in its model. -/
import Derived.Test.YtfmdbgpalldjoabRows
import Derived.WalkKit
import Derived.WalkLawsBesides
import Derived.Deep.Draws
import Derived.Test.YtfmdbgpalldjoabAbsW
import Derived.Test.YtfmdbgpalldjoabPost
namespace Go.Proofs.Ytfmdbgpalldjoab.fin
open Go.RowKit Go.Fl Go.Proofs.Ytfmdbgpalldjoab.abs

/-- is a number -/
def fin (b : Nat) : Bool := match Ieee.single.read b with | .number _ _ _ => true | _ => false

theorem fin_iff (b : Nat) : fin b = true ↔ ∃ s m p, Ieee.single.read b = .number s m p := by
  unfold fin
  cases h : Ieee.single.read b with
  | number s m p => simp
  | infinity s => simp
  | nan s f => simp

theorem l01_any (b : Nat) (w : World) :
    Calls Try.prog 25 #[.float .f32 b] w fun e w' => e = .returned (.bool (fin b)) ∧ ∃ n, w' = w.drewN n := by
  go_enter Try.func25, Try.ntmps25
  go_wp2_with (first | (refine wpList_ar rfl .sub 31 31 _ _ rfl (by simp) .f32 _ _ rfl rfl ?_; intro r n hr hw))
  go_ret
  refine ⟨?_, _, rfl⟩
  have h1 : FloatKind.f32.format.order r 0 = FloatKind.f32.format.order (ar .sub .f32 b b) 0 := ord_congr hr (Sm.refl _ _)
  have h2 := sub_self (k := .f32) (b := b)
  have h3 := fin_iff b
  rw [h1]
  have h4 : (FloatKind.f32.format.order (ar .sub .f32 b b) 0 == some .eq) = fin b := by
    rw [Bool.eq_iff_iff, beq_iff_eq, h2, h3]; rfl
  rw [h4]
  rfl


theorem sm_lt {k : FloatKind} {r c : Nat} (h : Sm k r c) : isN k r = isN k c := h.isN

theorem wide_inf_iff {b r : Nat} (h : Sm .f64 r (cv .f32 .f64 b)) : (!isN .f64 r && !infB r) = fin b := by
  have hn := h.isN
  rw [wide_isN] at hn
  cases hb : isN .f32 b with
  | true =>
    rw [hn, hb]
    have : (Ieee.single.read b).isNaN = true := hb
    unfold fin
    cases hd : Ieee.single.read b with
    | nan s f => rfl
    | number s m p => rw [hd] at this; cases this
    | infinity s => rw [hd] at this; cases this
  | false =>
    rw [hb] at hn
    obtain rfl := h.eq_of_not hn
    rw [hn]
    rcases read_not_nan hb with ⟨s, m, p, hd⟩ | ⟨s, hd⟩
    · have hd' : Ieee.single.read b = .number s m p := hd
      have h1 : infB (cv .f32 .f64 b) = false := Lt_not_inf (wide_Lt hd')
      rw [h1]
      unfold fin
      rw [hd']; rfl
    · have hd' : Ieee.single.read b = .infinity s := hd
      have h1 : infB (cv .f32 .f64 b) = true := by unfold infB; rw [wide_inf hd']; rfl
      rw [h1]
      unfold fin
      rw [hd']; rfl

theorem fin64_any (b : Nat) (hb : (b : Int) ≤ 18446744073709551615) (w : World) :
    Calls Try.prog 44 #[.float .f64 b] w fun e w' => e = .returned (.bool (!isN .f64 b && !infB b)) ∧ w = w' := by
  cases hn : isN .f64 b with
  | true =>
    go_enter Try.func44, Try.ntmps44
    go_wp2_with (first | (go_at_call 49; refine (isNaN_any b _).mono ?_; rw [hn]; rintro e w' ⟨rfl, rfl⟩) | (go_at_call 50; refine (isInf_any b hb _).mono ?_; rintro e w' ⟨rfl, rfl⟩))
    go_ret
    exact ⟨rfl, rfl⟩
  | false =>
    go_enter Try.func44, Try.ntmps44
    go_wp2_with (first | (go_at_call 49; refine (isNaN_any b _).mono ?_; rw [hn]; rintro e w' ⟨rfl, rfl⟩) | (go_at_call 50; refine (isInf_any b hb _).mono ?_; rintro e w' ⟨rfl, rfl⟩))
    go_ret
    exact ⟨rfl, rfl⟩

theorem impl_any (b : Nat) (w : World) :
    Calls Try.prog 31 #[.float .f32 b] w fun e w' => e = .returned (.bool (fin b)) ∧ ∃ n, w' = w.drewN n := by
  have huf : (Try.prog.underlying 31).isSome = true := by rw [Try.underlying31]; rfl
  go_enter Try.func31, Try.ntmps31
  go_wp2_with (first | (refine wpList_cv rfl 31 36 _ rfl .f32 .f64 (by decide) _ rfl huf Try.underlying36 (fits_wide _) ?_; intro r n hr hw) | (go_at_call 44; refine (fin64_any _ (f64_le (by assumption)) _).mono ?_; rw [wide_inf_iff (by assumption)]; rintro e w' ⟨rfl, rfl⟩))
  go_ret
  exact ⟨rfl, _, rfl⟩

end Go.Proofs.Ytfmdbgpalldjoab.fin
