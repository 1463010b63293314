/- The laws' own comparison of floats says yes to what is the same up to the bits of a not-a-number. -/
import Derived.Test.YtfmdbgpalldjoabRows
import Derived.WalkKit
import Derived.WalkLawsBesides
import Derived.Deep.Draws
import Derived.Test.YtfmdbgpalldjoabFlB
namespace Go.Proofs.Ytfmdbgpalldjoab.sameFloat
open Go.RowKit Go.Fl

theorem same_nan (a b : Nat) (ha : isN .f64 a = true) (hb : isN .f64 b = true) (w : World) :
    Calls Try.prog 13 #[.float .f64 a, .float .f64 b] w fun e w' => e = .returned (.bool true) ∧ ∃ n, w' = w.drewN n := by
  have h1 := order_self_nan ha
  have h2 := order_self_nan hb
  clear ha hb
  go_enter Try.func13, Try.ntmps13
  go_wp2
  go_ret
  exact ⟨rfl, 0, rfl⟩

theorem same_zero (a : Nat) (ha : isN .f64 a = false) (h0 : FloatKind.f64.format.order a 0 = some .eq) (w : World) :
    Calls Try.prog 13 #[.float .f64 a, .float .f64 a] w fun e w' => e = .returned (.bool true) ∧ ∃ n, w' = w.drewN n := by
  obtain ⟨r, hr⟩ := one_over_zero h0
  have h1 := order_self_num ha
  clear ha
  have hop : ∀ t w, (binOp .quo t (.float .f64 4607182418800017408) (.float .f64 a)).run Try.prog w = .ok (.float .f64 r) w := fun t w => run_float_arith w .quo t .f64 _ a r hr
  clear hr
  go_enter Try.func13, Try.ntmps13
  go_wp2
  go_ret
  exact ⟨by simp, 0, rfl⟩

theorem same_num (a : Nat) (ha : isN .f64 a = false) (h0 : (FloatKind.f64.format.order a 0 == some .eq) = false) (w : World) :
    Calls Try.prog 13 #[.float .f64 a, .float .f64 a] w fun e w' => e = .returned (.bool true) ∧ ∃ n, w' = w.drewN n := by
  have h1 := order_self_num ha
  clear ha
  go_enter Try.func13, Try.ntmps13
  go_wp2
  go_ret
  exact ⟨rfl, 0, rfl⟩

theorem same_any (a b : Nat) (h : Sm .f64 a b) (w : World) :
    Calls Try.prog 13 #[.float .f64 a, .float .f64 b] w fun e w' => e = .returned (.bool true) ∧ ∃ n, w' = w.drewN n := by
  cases hn : isN .f64 a with
  | true => exact same_nan a b hn (by rw [← h.isN]; exact hn) w
  | false =>
    obtain rfl := h.eq_of_not hn
    by_cases h0 : FloatKind.f64.format.order a 0 = some .eq
    · exact same_zero a hn h0 w
    · exact same_num a hn (by simpa using h0) w
end Go.Proofs.Ytfmdbgpalldjoab.sameFloat
