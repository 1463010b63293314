/- BitsOf and its model return the same at every number. -/
import Derived.Test.YtncapcflhchpmaaBitsW
namespace Go.Proofs.Ytncapcflhchpmaa.fnExactBitsOfW
open Go.RowKit Go.Fl Go.Proofs.Ytncapcflhchpmaa.bits

theorem spec_any (b : Nat) (hb : (b : Int) ≤ 4294967295) (w : World) :
    Calls Try.prog 12 #[.float .f32 b] w fun e w' => e = .returned (.int .i64 (bitsOf b)) ∧ w = w' := by
  go_enter Try.func12, Try.ntmps12
  go_wp2_with (go_at_call 22; refine (bits_spec b hb _).mono ?_; rintro e w' ⟨rfl, rfl⟩)
  go_ret
  exact ⟨rfl, rfl⟩

theorem walk (a0 : Nat) (w0 : (Lit.float .f32 a0).wf = true) (w : World) :
    Calls Try.prog 5 #[.float .f32 a0] w fun e w' => e = .returned (.bool true) ∧ Below w.heap.size w w' := by
  have hb := f32_le w0
  go_enter Try.func5, Try.ntmps5
  go_wp2_with (first | (go_at_call 12; refine (spec_any a0 hb _).mono ?_; rintro e w' ⟨rfl, rfl⟩) | (go_at_call 13; refine (bits_impl a0 hb _).mono ?_; rintro e w' ⟨rfl, rfl⟩))
  go_ret
  exact ⟨rfl, Below.refl _ _⟩
end Go.Proofs.Ytncapcflhchpmaa.fnExactBitsOfW
