/- IsSubnormal and its model return the same at every number. -/
import Derived.Test.YtncapcflhchpmabSubW
import Derived.Test.YtncapcflhchpmabPost
namespace Go.Proofs.Ytncapcflhchpmab.fnExactIsSubnormalW
open Go.RowKit Go.Fl Go.Proofs.Ytncapcflhchpmab.abs Go.Proofs.Ytncapcflhchpmab.bits Go.Proofs.Ytncapcflhchpmab.sub

/-- is subnormal -/
def subB (b : Nat) : Bool := FloatKind.f32.format.order b 0 != some .eq && expB b

theorem impl_any (b : Nat) (hb : (b : Int) ≤ 4294967295) (w : World) :
    Calls Try.prog 16 #[.float .f32 b] w fun e w' => e = .returned (.bool (subB b)) ∧ ∃ n, w' = w.drewN n := by
  have huf : (Try.prog.underlying 22).isSome = true := by rw [Try.underlying22]; rfl
  have hs : ∀ r, Sm .f64 r (cv .f32 .f64 b) → (FloatKind.f64.format.order (absN r) 4039728865751334912 == some .lt) = expB b := fun r h => abs_small hb h
  unfold subB
  cases h0 : (FloatKind.f32.format.order b 0 != some .eq) with
  | false =>
    go_enter Try.func16, Try.ntmps16
    go_wp2
    go_ret
    exact ⟨by simp, 0, rfl⟩
  | true =>
    go_enter Try.func16, Try.ntmps16
    go_wp2_with (first | (go_at_call 36; refine (abs_any _ (f64_le (by assumption)) _).mono ?_; rintro e w' ⟨rfl, rfl⟩) | (refine wpList_cvw rfl 22 25 _ rfl .f32 .f64 (by decide) _ rfl huf Try.underlying25 (fits_wide _) ?_; intro r n hr hw; have hs' := hs r hr))
    go_ret
    exact ⟨by simp, _, rfl⟩

theorem field_bits (b : Nat) (hb : (b : Int) ≤ 4294967295) : (Go.bits .and .i64 (bitsOf b) 2139095040 == 0) = expB b := by
  cases hn : isN .f32 b with
  | true =>
    have : bitsOf b = 2143289344 := by simp [bitsOf, hn]
    rw [this, expB_nan hn]
    decide
  | false =>
    have : bitsOf b = b := by simp [bitsOf, hn]
    rw [this]
    exact field_zero b hb

theorem spec_any (b : Nat) (hb : (b : Int) ≤ 4294967295) (w : World) :
    Calls Try.prog 15 #[.float .f32 b] w fun e w' => e = .returned (.bool (subB b)) ∧ ∃ n, w' = w.drewN n := by
  have hf := field_bits b hb
  unfold subB
  cases h0 : (FloatKind.f32.format.order b 0 != some .eq) with
  | false =>
    go_enter Try.func15, Try.ntmps15
    go_wp2
    go_ret
    exact ⟨by simp, 0, rfl⟩
  | true =>
    go_enter Try.func15, Try.ntmps15
    go_wp2_with (first | (go_at_call 35; refine (bits_spec b hb _).mono ?_; rintro e w' ⟨rfl, rfl⟩))
    go_ret
    exact ⟨by simp, 0, rfl⟩

theorem walk (a0 : Nat) (w0 : (Lit.float .f32 a0).wf = true) (w : World) :
    Calls Try.prog 4 #[.float .f32 a0] w fun e w' => e = .returned (.bool true) ∧ Below w.heap.size w w' := by
  have hb := f32_le w0
  go_enter Try.func4, Try.ntmps4
  go_wp2_with (first | (go_at_call 15; refine (spec_any a0 hb _).mono ?_; rintro e w' ⟨rfl, n, rfl⟩) | (go_at_call 16; refine (impl_any a0 hb _).mono ?_; rintro e w' ⟨rfl, n, rfl⟩))
  go_ret
  exact ⟨rfl, Go.Pst.below_draws ⟨_, rfl⟩⟩
end Go.Proofs.Ytncapcflhchpmab.fnExactIsSubnormalW
