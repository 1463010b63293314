/- The bits of a number, in the program and in its model: what both functions return. -/
import Derived.Test.YtnodnopolhdfhaaDoorRows
import Derived.WalkKit
import Derived.WalkLawsBesides
import Derived.Deep.Draws
import Derived.Test.YtnodnopolhdfhaaDoorFlB
namespace Go.Proofs.YtnodnopolhdfhaaDoor.bits
open Go.RowKit Go.Fl

theorem call_f32bits (b : Nat) (w : World) : (callFunc 60 #[.float .f32 b]).run Tryd.prog w = .ok (.value (.int .u32 b)) w := by
  rw [run_callFunc_extern Tryd.func60 (by kernel_rfl) (by kernel_rfl) (by kernel_rfl) (e := Extern.MathFloatBits.float32bits) (by kernel_rfl)]
  rfl

/-- the bits of a number -/
def bitsOf (b : Nat) : Int := if isN .f32 b then 2143289344 else b


theorem bits_spec (b : Nat) (hb : (b : Int) ≤ 4294967295) (w : World) :
    Calls Tryd.prog 105 #[.float .f32 b] w fun e w' => e = .returned (.int .i64 (bitsOf b)) ∧ w = w' := by
  have h23 := call_f32bits
  cases hn : isN .f32 b with
  | true =>
    have ho := order_self_nan hn
    have hv : bitsOf b = 2143289344 := by simp [bitsOf, hn]
    rw [hv]; clear hv hn
    go_enter Tryd.func105, Tryd.ntmps105
    go_wp2
    go_ret
    exact ⟨rfl, rfl⟩
  | false =>
    have ho := order_self_num hn
    have hv : bitsOf b = b := by simp [bitsOf, hn]
    rw [hv]; clear hv hn
    go_enter Tryd.func105, Tryd.ntmps105
    go_wp2
    go_ret
    exact ⟨rfl, rfl⟩

theorem f32_le {b : Nat} (h : (Lit.float .f32 b).wf = true) : (b : Int) ≤ 4294967295 := by
  simp [Lit.wf] at h
  omega
end Go.Proofs.YtnodnopolhdfhaaDoor.bits
