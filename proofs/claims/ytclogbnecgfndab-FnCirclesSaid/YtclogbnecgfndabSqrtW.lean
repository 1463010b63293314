/- The library's Sqrt. -/
import Derived.Test.YtclogbnecgfndabRows
import Derived.WalkKit
import Derived.WalkLawsBesides
import Derived.Deep.Draws
import Derived.Test.YtclogbnecgfndabFlD
namespace Go.Proofs.Ytclogbnecgfndab.sqrt
open Go.RowKit Go.Fl

theorem call_sqrt (b : Nat) (w : World) : ∃ r n, (callFunc 45 #[.float .f64 b]).run Try.prog w = .ok (.value (.float .f64 r)) (w.drewN n) ∧ Sm .f64 r (sq b) ∧ (Lit.float .f64 r).wf = true := by
  rw [run_callFunc_extern Try.func45 (by kernel_rfl) (by kernel_rfl) (by kernel_rfl) (e := Extern.MathSqrt.sqrt) (by kernel_rfl)]
  have e : Extern.MathSqrt.sqrt #[.float .f64 b] = (match FloatKind.f64.format.sqrt b with | some r => pure (.float .f64 r) | none => do pure (.float .f64 (← choose (.nanBits .f64 b b)))) := rfl
  cases h : FloatKind.f64.format.sqrt b with
  | some r =>
    refine ⟨r, 0, ?_, .inl ?_, ?_⟩
    · rw [e, h]; simp [Result.andThen]; rfl
    · have h' : Ieee.double.sqrt b = some r := h
      unfold sq; rw [h']; rfl
    · exact wf_of_lt .f64 r (Ieee.double.sqrt_lt h)
  | none =>
    refine ⟨(Question.nanBits .f64 b b).cut (w.tape w.drawn (.nanBits .f64 b b)), 1, ?_, .inr ⟨cut_nan .f64 _ _ (.inl ⟨b, b, rfl⟩), ?_⟩, cut_wf .f64 _ _ (.inl ⟨b, b, rfl⟩)⟩
    · rw [e, h]; simp [Result.andThen, Question.forced]; rfl
    · have h' : Ieee.double.sqrt b = none := h
      unfold sq; rw [h']; exact qn_isN .f64

/-- what Sqrt hands back -/
def SqrtPost (b : Nat) (w : World) (e : Ending) (w' : World) : Prop := ∃ r n, e = .returned (.float .f64 r) ∧ w' = w.drewN n ∧ Sm .f64 r (sq b) ∧ (Lit.float .f64 r).wf = true

theorem sqrt_any (b : Nat) (w : World) : Calls Try.prog 42 #[.float .f64 b] w (SqrtPost b w) := by
  obtain ⟨r, n, hr, hs, hw⟩ := call_sqrt b w
  have hq : Calls Try.prog 42 #[.float .f64 b] w fun e w' => e = .returned (.float .f64 r) ∧ w' = w.drewN n := by
    clear hs hw
    go_enter Try.func42, Try.ntmps42
    go_wp2
    go_ret
    exact ⟨rfl, rfl⟩
  exact hq.mono fun e w' ⟨he, hww⟩ => ⟨r, n, he, hww, hs, hw⟩

/-- the root of what has one -/
theorem sqrt_num {b r : Nat} (h : Ieee.double.sqrt b = some r) (w : World) : Calls Try.prog 42 #[.float .f64 b] w fun e w' => e = .returned (.float .f64 r) ∧ w = w' := by
  have hc : ∀ w, (callFunc 45 #[.float .f64 b]).run Try.prog w = .ok (.value (.float .f64 r)) w := fun w => by
    rw [run_callFunc_extern Try.func45 (by kernel_rfl) (by kernel_rfl) (by kernel_rfl) (e := Extern.MathSqrt.sqrt) (by kernel_rfl)]
    have e : Extern.MathSqrt.sqrt #[.float .f64 b] = (match FloatKind.f64.format.sqrt b with | some r => pure (.float .f64 r) | none => do pure (.float .f64 (← choose (.nanBits .f64 b b)))) := rfl
    have h' : FloatKind.f64.format.sqrt b = some r := h
    rw [e, h']; simp [Result.andThen]
  clear h
  go_enter Try.func42, Try.ntmps42
  go_wp2
  go_ret
  exact ⟨rfl, rfl⟩
end Go.Proofs.Ytclogbnecgfndab.sqrt
