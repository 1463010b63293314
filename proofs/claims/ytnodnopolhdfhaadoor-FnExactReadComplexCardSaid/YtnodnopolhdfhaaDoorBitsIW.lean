/- The bits of a number, in the program. -/
import Derived.Test.YtnodnopolhdfhaaDoorBitsW
namespace Go.Proofs.YtnodnopolhdfhaaDoor.bits
open Go.RowKit Go.Fl

theorem bits_impl (b : Nat) (hb : (b : Int) ≤ 4294967295) (w : World) :
    Calls Tryd.prog 11 #[.float .f32 b] w fun e w' => e = .returned (.int .i64 (bitsOf b)) ∧ w = w' := by
  have h23 := call_f32bits
  cases hn : isN .f32 b with
  | true =>
    have ho := order_self_nan hn
    have hv : bitsOf b = 2143289344 := by simp [bitsOf, hn]
    rw [hv]; clear hv hn
    go_enter Tryd.func11, Tryd.ntmps11
    go_wp2
    go_ret
    exact ⟨rfl, rfl⟩
  | false =>
    have ho := order_self_num hn
    have hv : bitsOf b = b := by simp [bitsOf, hn]
    rw [hv]; clear hv hn
    go_enter Tryd.func11, Tryd.ntmps11
    go_wp2
    go_ret
    exact ⟨rfl, rfl⟩

end Go.Proofs.YtnodnopolhdfhaaDoor.bits
