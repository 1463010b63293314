/- The library's Abs, IsNaN, IsInf. -/
import Derived.Test.YtfmdbgpalldjoabRows
import Derived.WalkKit
import Derived.WalkLawsBesides
import Derived.Deep.Draws
import Derived.Test.YtfmdbgpalldjoabFlC
namespace Go.Proofs.Ytfmdbgpalldjoab.abs
open Go.RowKit Go.Fl

theorem call_f64bits (b : Nat) (w : World) : (callFunc 59 #[.float .f64 b]).run Try.prog w = .ok (.value (.int .u64 b)) w := by
  rw [run_callFunc_extern Try.func59 (by kernel_rfl) (by kernel_rfl) (by kernel_rfl) (e := Extern.MathFloatBits.float64bits) (by kernel_rfl)]
  rfl
theorem call_f64from (b : Nat) (w : World) : (callFunc 58 #[.int .u64 (b : Int)]).run Try.prog w = .ok (.value (.float .f64 b)) w := by
  rw [run_callFunc_extern Try.func58 (by kernel_rfl) (by kernel_rfl) (by kernel_rfl) (e := Extern.MathFloatBits.float64frombits) (by kernel_rfl)]
  rfl

theorem abs_any (b : Nat) (hb : (b : Int) ≤ 18446744073709551615) (w : World) :
    Calls Try.prog 55 #[.float .f64 b] w fun e w' => e = .returned (.float .f64 (absN b)) ∧ w = w' := by
  have h1 := call_f64bits
  have h2 : ∀ w, (callFunc 58 #[.int .u64 (bits BinOp.andNot IntKind.u64 (↑b) 9223372036854775808)]).run Try.prog w = .ok (.value (.float .f64 (absN b))) w := fun w => by
    rw [abs_bits b (by omega)]
    exact call_f64from _ w
  go_enter Try.func55, Try.ntmps55
  go_wp2
  go_ret
  exact ⟨rfl, rfl⟩

theorem isNaN_any (b : Nat) (w : World) : Calls Try.prog 49 #[.float .f64 b] w fun e w' => e = .returned (.bool (isN .f64 b)) ∧ w = w' := by
  have ho := order_self .f64 b
  have hf : (FloatKind.f64.format.order b b != some .eq) = isN .f64 b := by rw [ho]; cases isN .f64 b <;> rfl
  clear ho
  go_enter Try.func49, Try.ntmps49
  go_wp2
  go_ret
  exact ⟨rfl, rfl⟩
theorem isInf_any (b : Nat) (hb : (b : Int) ≤ 18446744073709551615) (w : World) : Calls Try.prog 50 #[.float .f64 b, .int .i64 0] w fun e w' => e = .returned (.bool (infB b)) ∧ w = w' := by
  have ho := gt_max b
  go_enter Try.func50, Try.ntmps50
  go_wp2_with (go_at_call 55; refine (abs_any b hb _).mono ?_; rintro e w' ⟨rfl, rfl⟩)
  go_ret
  exact ⟨rfl, rfl⟩
theorem f64_le {b : Nat} (h : (Lit.float .f64 b).wf = true) : (b : Int) ≤ 18446744073709551615 := by
  simp [Lit.wf] at h
  omega
end Go.Proofs.Ytfmdbgpalldjoab.abs
