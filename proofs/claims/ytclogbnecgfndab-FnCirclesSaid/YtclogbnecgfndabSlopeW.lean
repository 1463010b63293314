/- The angle of a slope, in the program. -/
import Derived.Test.YtclogbnecgfndabSqrtW
import Derived.Test.YtclogbnecgfndabAng
namespace Go.Proofs.Ytclogbnecgfndab.slope
open Go.RowKit Go.Fl Go.Proofs.Ytclogbnecgfndab.sqrt

theorem slope_impl {t : Nat} (h : Nm t 0) (w : World) :
    Calls Try.prog 37 #[.float .f64 t] w fun e w' => e = .returned (.float .f64 (slp t)) ∧ w = w' := by
  have HT : Hid (Nm t 0) := h
  clear h
  go_enter Try.func37, Try.ntmps37
  go_wp2
  go_loop [0, 6] (fun x i => ∃ j : Nat, j ≤ 3 ∧ i = .int .i64 (j : Int) ∧ x = .float .f64 (tit t j)) (fun _ i => (3 - intOf i).toNat)
  case atStart => exact ⟨0, by omega, by go_num, rfl⟩
  case round =>
    obtain ⟨j, hj, rfl, rfl⟩ := hrel
    by_cases hlt : j < 3
    · obtain ⟨a, b, hclr, o1, o2, o3, o4, o5⟩ := tit_ops (P := Try.prog) HT.out j
      clear hclr
      have O3 : Hid (Ieee.double.sqrt (tW (tit t j)) = some (sq (tW (tit t j)))) := o3
      clear o3
      go_wp2_with (first | (go_at_call 42; refine (sqrt_num O3.out _).mono ?_; rintro e w' ⟨rfl, rfl⟩))
      go_round
      case rel => exact ⟨j + 1, by omega, by go_num, rfl⟩
      case measure => simp [intOf]; omega
    · obtain rfl : j = 3 := by omega
      obtain ⟨u, a, b, hu, hclr, p1, p2, p3, p4⟩ := slp_ops (P := Try.prog) HT.out
      clear hclr
      have HU : Hid (Nm u 0) := hu
      clear hu
      go_wp2
      go_loop [4, 5] (fun q k => ∃ i : Nat, i ≤ 8 ∧ k = .int .i64 (15 - 2 * (i : Int)) ∧ q = .float .f64 (lp u i)) (fun _ k => (intOf k + 100).toNat)
      case atStart => exact ⟨0, by omega, by go_num, rfl⟩
      case round =>
        obtain ⟨i, hi, rfl, rfl⟩ := hrel
        by_cases hlt : i < 8
        · obtain ⟨a', b', r1, r2, r3⟩ := lp_ops (P := Try.prog) HU.out hlt
          go_wp2
          go_round
          case rel => exact ⟨i + 1, by omega, by go_num, rfl⟩
          case measure => simp [intOf]; omega
        · obtain rfl : i = 8 := by omega
          go_wp2
          go_ret
          exact ⟨rfl, rfl⟩
end Go.Proofs.Ytclogbnecgfndab.slope
