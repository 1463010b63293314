/- The angle of a point, in the model. -/
import Derived.Test.YtncapcflhchpmabSqrtW
import Derived.Test.YtncapcflhchpmabNanW
import Derived.Test.YtncapcflhchpmabAng
namespace Go.Proofs.Ytncapcflhchpmab.angleS
open Go.RowKit Go.Fl Go.Proofs.Ytncapcflhchpmab.abs Go.Proofs.Ytncapcflhchpmab.nan Go.Proofs.Ytncapcflhchpmab.sqrt

def neg4 (b : Bool) (a : Nat) : Nat := if b then Op.negFloat .f64 a else a

set_option maxHeartbeats 8000000 in
theorem wide_core (Y X A B t0 e2 e3 : Nat) (st bx bn zx : Bool) (hA : A = absN Y) (hB : B = absN X) (hYle : (Y : Int) ≤ 18446744073709551615) (hXle : (X : Int) ≤ 18446744073709551615)
    (hsy : ∀ t w, (binOp .sub t (.float .f64 Y) (.float .f64 Y)).run Try.prog w = .ok (.float .f64 0) w) (hsx : ∀ t w, (binOp .sub t (.float .f64 X) (.float .f64 X)).run Try.prog w = .ok (.float .f64 0) w)
    (hst : (FloatKind.f64.format.order A B == some .gt) = st) (hox : (FloatKind.f64.format.order X 0 == some .lt) = bx) (hoy : (FloatKind.f64.format.order Y 0 == some .lt) = bn)
    (hzx : (FloatKind.f64.format.order X 0 == some .eq) = zx) (hzy : zx = true → (FloatKind.f64.format.order Y 0 == some .eq) = false)
    (hq : ∀ t w, (binOp .quo t (.float .f64 (if st then B else A)) (.float .f64 (if st then A else B))).run Try.prog w = .ok (.float .f64 t0) w) (ht : Nm t0 0)
    (h2 : ∀ t w, (binOp .sub t (.float .f64 4598175219545276416) (.float .f64 (slp t0))).run Try.prog w = .ok (.float .f64 e2) w)
    (h3 : ∀ t w, (binOp .sub t (.float .f64 4602678819172646912) (.float .f64 (if st then e2 else slp t0))).run Try.prog w = .ok (.float .f64 e3) w) (w : World) :
    Calls Try.prog 67 #[.float .f64 Y, .float .f64 X] w fun e w' => e = .returned (.float .f64 (neg4 bn (if bx then e3 else if st then e2 else slp t0))) ∧ w = w' := by
  have HT : Hid (Nm t0 0) := ht
  have hneg : ∀ (b : Nat) (w : World), (Op.unary .neg (.float .f64 b)).run Try.prog w = .ok (.float .f64 (Op.negFloat .f64 b)) w := fun _ _ => rfl
  have h00 : FloatKind.f64.format.order 0 0 = some .eq := by decide
  subst hA hB
  clear ht
  cases zx
  all_goals
    first | (have hzy' := hzy rfl; clear hzy) | clear hzy
    cases st <;> simp only [if_true, if_false, Bool.false_eq_true] at hq h3 ⊢
  all_goals
    go_enter Try.func67, Try.ntmps67
    go_wp2_with (first | (go_at_call 36; refine (abs_any _ (by first | exact hYle | exact hXle) _).mono ?_; rintro e w' ⟨rfl, rfl⟩))
    go_loop [8, 9] (fun x i => ∃ j : Nat, j ≤ 3 ∧ i = .int .i64 (j : Int) ∧ x = .float .f64 (tit t0 j)) (fun _ i => (3 - intOf i).toNat)
    case atStart => exact ⟨0, by omega, by go_num, rfl⟩
    case round =>
      obtain ⟨j, hj, rfl, rfl⟩ := hrel
      by_cases hlt : j < 3
      · obtain ⟨a, b, hclr, o1, o2, o3, o4, o5⟩ := tit_ops (P := Try.prog) HT.out j
        clear hclr hq h2 h3 hsy hsx
        have O3 : Hid (Ieee.double.sqrt (tW (tit t0 j)) = some (sq (tW (tit t0 j)))) := o3
        clear o3
        go_wp2_with (first | (go_at_call 34; refine (sqrt_num O3.out _).mono ?_; rintro e w' ⟨rfl, rfl⟩))
        go_round
        case rel => exact ⟨j + 1, by omega, by go_num, rfl⟩
        case measure => simp [intOf]; omega
      · obtain rfl : j = 3 := by omega
        obtain ⟨u, a, b, hu, hclr, p1, p2, p3, p4⟩ := slp_ops (P := Try.prog) HT.out
        have HU : Hid (Nm u 0) := hu
        clear hu hclr hq hsy hsx
        go_wp2
        go_loop [11, 12] (fun q k => ∃ i : Nat, i ≤ 8 ∧ k = .int .i64 (15 - 2 * (i : Int)) ∧ q = .float .f64 (lp u i)) (fun _ k => (intOf k + 100).toNat)
        case atStart => exact ⟨0, by omega, by go_num, rfl⟩
        case round =>
          obtain ⟨i, hi, rfl, rfl⟩ := hrel
          by_cases hlt : i < 8
          · obtain ⟨a', b', r1, r2, r3⟩ := lp_ops (P := Try.prog) HU.out hlt
            clear h2 h3 p1 p2 p3 p4
            go_wp2
            go_round
            case rel => exact ⟨i + 1, by omega, by go_num, rfl⟩
            case measure => simp [intOf]; omega
          · obtain rfl : i = 8 := by omega
            cases bx <;> cases bn
            all_goals
              go_wp2
              go_ret
              exact ⟨rfl, rfl⟩

theorem wide_zero0 (Y X : Nat) (hsy : ∀ t w, (binOp .sub t (.float .f64 Y) (.float .f64 Y)).run Try.prog w = .ok (.float .f64 0) w) (hsx : ∀ t w, (binOp .sub t (.float .f64 X) (.float .f64 X)).run Try.prog w = .ok (.float .f64 0) w)
    (hzy : FloatKind.f64.format.order Y 0 = some .eq) (hzx : FloatKind.f64.format.order X 0 = some .eq) (w : World) :
    Calls Try.prog 67 #[.float .f64 Y, .float .f64 X] w fun e w' => e = .returned (.float .f64 0) ∧ w = w' := by
  have h00 : FloatKind.f64.format.order 0 0 = some .eq := by decide
  go_enter Try.func67, Try.ntmps67
  go_wp2
  go_ret
  exact ⟨rfl, rfl⟩

theorem wide_not1 (Y X : Nat) (hY : ∀ r, Sm .f64 r (ar .sub .f64 Y Y) → FloatKind.f64.format.order r 0 = none) (w : World) :
    Calls Try.prog 67 #[.float .f64 Y, .float .f64 X] w fun e w' => e = .returned (.float .f64 9221120237041090561) ∧ ∃ n, w' = w.drewN n := by
  go_enter Try.func67, Try.ntmps67
  go_wp2_with (first | (refine wpList_ar rfl .sub 25 25 _ _ rfl (by simp) .f64 _ _ rfl rfl ?_; intro r n hr hw; have ho := hY r hr; clear hr hw) | (go_at_call 41; refine (nan_any _).mono ?_; rintro e w' ⟨rfl, rfl⟩))
  go_ret
  exact ⟨rfl, _, rfl⟩

theorem wide_not2 (Y X : Nat) (hsy : ∀ t w, (binOp .sub t (.float .f64 Y) (.float .f64 Y)).run Try.prog w = .ok (.float .f64 0) w) (hX : ∀ r, Sm .f64 r (ar .sub .f64 X X) → FloatKind.f64.format.order r 0 = none) (w : World) :
    Calls Try.prog 67 #[.float .f64 Y, .float .f64 X] w fun e w' => e = .returned (.float .f64 9221120237041090561) ∧ ∃ n, w' = w.drewN n := by
  have h00 : FloatKind.f64.format.order 0 0 = some .eq := by decide
  go_enter Try.func67, Try.ntmps67
  go_wp2_with (first | (refine wpList_arw rfl .sub 25 25 (.tmp 19) (.tmp 20) rfl (by simp) .f64 _ _ rfl rfl ?_; intro r n hr hw; have ho := hX r hr; clear hr hw) | (go_at_call 41; refine (nan_any _).mono ?_; rintro e w' ⟨rfl, rfl⟩))
  go_ret
  exact ⟨rfl, _, rfl⟩
end Go.Proofs.Ytncapcflhchpmab.angleS
