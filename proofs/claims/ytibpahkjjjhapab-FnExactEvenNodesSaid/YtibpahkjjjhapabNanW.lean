/- The library's NaN and Inf, narrowing, and IsInf of one sign. -/
import Derived.Test.YtibpahkjjjhapabAbsW
import Derived.Test.YtibpahkjjjhapabFlZ
namespace Go.Proofs.Ytibpahkjjjhapab.nan
open Go.RowKit Go.Fl Go.Proofs.Ytibpahkjjjhapab.abs

theorem nan_any (w : World) : Calls Try.prog 58 #[] w fun e w' => e = .returned (.float .f64 9221120237041090561) ∧ w = w' := by
  have h2 : ∀ w, (callFunc 69 #[.int .u64 9221120237041090561]).run Try.prog w = .ok (.value (.float .f64 9221120237041090561)) w := fun w => call_f64from 9221120237041090561 w
  go_enter Try.func58, Try.ntmps58
  go_wp2
  go_ret
  exact ⟨rfl, rfl⟩
theorem nan_isN : isN .f64 9221120237041090561 = true := by decide
theorem fits_nan {x : Nat} (h : isN .f64 x = true) : Fits .f64 .f32 x := .inl h
theorem fits_inf {x : Nat} {s : Bool} (h : Ieee.double.read x = .infinity s) : Fits .f64 .f32 x := by
  right
  have hd : FloatKind.f64.decode x = .infinity s := h
  unfold floatToFloatBits
  rw [if_neg (by decide), hd]; rfl

def NarrowPost (b : Nat) (w : World) (e : Ending) (w' : World) : Prop := ∃ r n, e = .returned (.float .f32 r) ∧ w' = w.drewN n ∧ Sm .f32 r (cv .f64 .f32 b)

theorem narrow_impl {b : Nat} (hf : Fits .f64 .f32 b) (w : World) : Calls Try.prog 61 #[.float .f64 b] w (NarrowPost b w) := by
  have huf : (Try.prog.underlying 45).isSome = true := by rw [Try.underlying45]; rfl
  go_enter Try.func61, Try.ntmps61
  go_wp2_with (first | (refine wpList_cv rfl 45 42 _ rfl .f64 .f32 (by decide) _ rfl huf Try.underlying42 hf ?_; intro r n hr hw))
  go_ret
  exact ⟨_, _, rfl, rfl, hr⟩
theorem narrow_spec {b : Nat} (hf : Fits .f64 .f32 b) (w : World) : Calls Try.prog 43 #[.float .f64 b] w (NarrowPost b w) := by
  have huf : (Try.prog.underlying 45).isSome = true := by rw [Try.underlying45]; rfl
  go_enter Try.func43, Try.ntmps43
  go_wp2_with (first | (refine wpList_cv rfl 45 42 _ rfl .f64 .f32 (by decide) _ rfl huf Try.underlying42 hf ?_; intro r n hr hw))
  go_ret
  exact ⟨_, _, rfl, rfl, hr⟩
end Go.Proofs.Ytibpahkjjjhapab.nan
