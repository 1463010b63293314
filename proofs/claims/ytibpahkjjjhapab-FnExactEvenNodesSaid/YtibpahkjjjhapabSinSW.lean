/- The sine of turns, in the model. -/
import Derived.Test.YtibpahkjjjhapabSinW
import Derived.Test.YtibpahkjjjhapabNanW
namespace Go.Proofs.Ytibpahkjjjhapab.sinS
open Go.RowKit Go.Fl Go.Proofs.Ytibpahkjjjhapab.sin Go.Proofs.Ytibpahkjjjhapab.nan

set_option maxHeartbeats 8000000 in
theorem wide_low {y g f : Nat} (hc : ∀ w, (convert 45 2 (.float .f64 y)).run Try.prog w = .ok (.int .i64 (trunc y)) w)
    (o1 : ∀ t w, (binOp .sub t (.float .f64 y) (.float .f64 (floatOfInt .f64 (trunc y)))).run Try.prog w = .ok (.float .f64 g) w)
    (hs : ∀ t w, (binOp .sub t (.float .f64 y) (.float .f64 y)).run Try.prog w = .ok (.float .f64 0) w)
    (hb1 : FloatKind.f64.format.order y 4841369599423283200 = some .lt) (hb2 : FloatKind.f64.format.order y 14064741636278059008 = some .gt)
    (ho : FloatKind.f64.format.order g 0 = some .lt) (o2 : ∀ t w, (binOp .add t (.float .f64 g) (.float .f64 4607182418800017408)).run Try.prog w = .ok (.float .f64 f) w)
    (hf : Nm f 0) (HS : Hid (sinW y = ngf (geh f) (sv (f3f (gtq (f2f (geh f) f)) (f2f (geh f) f))))) (w : World) :
    Calls Try.prog 44 #[.float .f64 y] w fun e w' => e = .returned (.float .f64 (sinW y)) ∧ w = w' := by
  have hneg : ∀ (b : Nat) (w : World), (Op.unary .neg (.float .f64 b)).run Try.prog w = .ok (.float .f64 (Op.negFloat .f64 b)) w := fun _ _ => rfl
  have h00 : FloatKind.f64.format.order 0 0 = some .eq := by decide
  obtain ⟨f2, f3, F⟩ := fold_of Try.prog hf
  rw [← F.e2, ← F.e3] at HS
  obtain ⟨z, u, hu, _, p1, p2, p3⟩ := sv_ops (P := Try.prog) F.n3
  have HU : Hid (Nm u 6) := hu
  clear hu
  rcases geh_cases hf with ⟨ho1, hg1⟩ | ⟨ho1, hg1⟩ <;> rcases gtq_cases F.n2 with ⟨ho2, hg2⟩ | ⟨ho2, hg2⟩
  · -- neither
    have E2 := F.e2
    rw [hg1] at E2
    obtain rfl : f2 = f := E2
    have E3 := F.e3
    rw [hg2] at E3
    obtain rfl : f3 = f2 := E3
    have HR : Hid (sv f3 = sinW y) := by have h := HS.out; rw [hg1] at h; exact h.symm
    clear HS F hg1 hg2 hf
    rcases ho2 with ho2 | ho2
    all_goals
      go_enter Try.func44, Try.ntmps44
      go_wp2
      go_loop [7, 8] (fun q k => ∃ j : Nat, j ≤ 8 ∧ k = .int .i64 (8 - (j : Int)) ∧ q = .float .f64 (sp u j)) (fun _ k => (intOf k + 100).toNat)
      case atStart => exact ⟨0, by omega, by go_num, rfl⟩
      case round =>
        obtain ⟨j, hj, rfl, rfl⟩ := hrel
        by_cases hlt : j < 8
        · obtain ⟨a', b', r1, r2, r3⟩ := sp_ops (P := Try.prog) HU.out hlt
          have hk1 := k_wrap hlt
          have hk2 : wrap64 (2 * (8 - (j : Int)) * (2 * (8 - (j : Int)) + 1)) = 2 * (8 - (j : Int)) * (2 * (8 - (j : Int)) + 1) := by
            obtain ⟨h1, h2⟩ := k_bounds hlt
            exact IntWalk.wrap64_in _ ⟨by omega, by omega⟩
          clear p3
          go_wp2
          go_round
          case rel => exact ⟨j + 1, by omega, by go_num, rfl⟩
          case measure => simp [intOf]; omega
        · obtain rfl : j = 8 := by omega
          go_wp2
          go_ret
          exact ⟨by rw [← HR.out]; rfl, rfl⟩
  · -- the second alone
    have E2 := F.e2
    rw [hg1] at E2
    obtain rfl : f2 = f := E2
    have r3 := F.r3 hg2
    have HR : Hid (sv f3 = sinW y) := by have h := HS.out; rw [hg1] at h; exact h.symm
    clear HS F hg1 hg2 hf
    all_goals
      go_enter Try.func44, Try.ntmps44
      go_wp2
      clear r3
      go_loop [7, 8] (fun q k => ∃ j : Nat, j ≤ 8 ∧ k = .int .i64 (8 - (j : Int)) ∧ q = .float .f64 (sp u j)) (fun _ k => (intOf k + 100).toNat)
      case atStart => exact ⟨0, by omega, by go_num, rfl⟩
      case round =>
        obtain ⟨j, hj, rfl, rfl⟩ := hrel
        by_cases hlt : j < 8
        · obtain ⟨a', b', r1, r2, r3⟩ := sp_ops (P := Try.prog) HU.out hlt
          have hk1 := k_wrap hlt
          have hk2 : wrap64 (2 * (8 - (j : Int)) * (2 * (8 - (j : Int)) + 1)) = 2 * (8 - (j : Int)) * (2 * (8 - (j : Int)) + 1) := by
            obtain ⟨h1, h2⟩ := k_bounds hlt
            exact IntWalk.wrap64_in _ ⟨by omega, by omega⟩
          clear p3
          go_wp2
          go_round
          case rel => exact ⟨j + 1, by omega, by go_num, rfl⟩
          case measure => simp [intOf]; omega
        · obtain rfl : j = 8 := by omega
          go_wp2
          go_ret
          exact ⟨by rw [← HR.out]; rfl, rfl⟩
  · -- the first alone
    have r2 := F.r2 hg1
    have E3 := F.e3
    rw [hg2] at E3
    obtain rfl : f3 = f2 := E3
    have HR : Hid (Op.negFloat .f64 (sv f3) = sinW y) := by have h := HS.out; rw [hg1] at h; exact h.symm
    clear HS F hg1 hg2 hf
    rcases ho1 with ho1 | ho1 <;> rcases ho2 with ho2 | ho2
    all_goals
      go_enter Try.func44, Try.ntmps44
      go_wp2
      clear r2
      go_loop [7, 8] (fun q k => ∃ j : Nat, j ≤ 8 ∧ k = .int .i64 (8 - (j : Int)) ∧ q = .float .f64 (sp u j)) (fun _ k => (intOf k + 100).toNat)
      case atStart => exact ⟨0, by omega, by go_num, rfl⟩
      case round =>
        obtain ⟨j, hj, rfl, rfl⟩ := hrel
        by_cases hlt : j < 8
        · obtain ⟨a', b', r1, r2, r3⟩ := sp_ops (P := Try.prog) HU.out hlt
          have hk1 := k_wrap hlt
          have hk2 : wrap64 (2 * (8 - (j : Int)) * (2 * (8 - (j : Int)) + 1)) = 2 * (8 - (j : Int)) * (2 * (8 - (j : Int)) + 1) := by
            obtain ⟨h1, h2⟩ := k_bounds hlt
            exact IntWalk.wrap64_in _ ⟨by omega, by omega⟩
          clear p3
          go_wp2
          go_round
          case rel => exact ⟨j + 1, by omega, by go_num, rfl⟩
          case measure => simp [intOf]; omega
        · obtain rfl : j = 8 := by omega
          go_wp2
          go_ret
          exact ⟨by rw [← HR.out]; rfl, rfl⟩
  · -- both
    have r2 := F.r2 hg1
    have r3 := F.r3 hg2
    have HR : Hid (Op.negFloat .f64 (sv f3) = sinW y) := by have h := HS.out; rw [hg1] at h; exact h.symm
    clear HS F hg1 hg2 hf
    rcases ho1 with ho1 | ho1
    all_goals
      go_enter Try.func44, Try.ntmps44
      go_wp2
      clear r2 r3
      go_loop [7, 8] (fun q k => ∃ j : Nat, j ≤ 8 ∧ k = .int .i64 (8 - (j : Int)) ∧ q = .float .f64 (sp u j)) (fun _ k => (intOf k + 100).toNat)
      case atStart => exact ⟨0, by omega, by go_num, rfl⟩
      case round =>
        obtain ⟨j, hj, rfl, rfl⟩ := hrel
        by_cases hlt : j < 8
        · obtain ⟨a', b', r1, r2, r3⟩ := sp_ops (P := Try.prog) HU.out hlt
          have hk1 := k_wrap hlt
          have hk2 : wrap64 (2 * (8 - (j : Int)) * (2 * (8 - (j : Int)) + 1)) = 2 * (8 - (j : Int)) * (2 * (8 - (j : Int)) + 1) := by
            obtain ⟨h1, h2⟩ := k_bounds hlt
            exact IntWalk.wrap64_in _ ⟨by omega, by omega⟩
          clear p3
          go_wp2
          go_round
          case rel => exact ⟨j + 1, by omega, by go_num, rfl⟩
          case measure => simp [intOf]; omega
        · obtain rfl : j = 8 := by omega
          go_wp2
          go_ret
          exact ⟨by rw [← HR.out]; rfl, rfl⟩

set_option maxHeartbeats 8000000 in
theorem wide_high {y g f : Nat} (hc : ∀ w, (convert 45 2 (.float .f64 y)).run Try.prog w = .ok (.int .i64 (trunc y)) w)
    (o1 : ∀ t w, (binOp .sub t (.float .f64 y) (.float .f64 (floatOfInt .f64 (trunc y)))).run Try.prog w = .ok (.float .f64 g) w)
    (hs : ∀ t w, (binOp .sub t (.float .f64 y) (.float .f64 y)).run Try.prog w = .ok (.float .f64 0) w)
    (hb1 : FloatKind.f64.format.order y 4841369599423283200 = some .lt) (hb2 : FloatKind.f64.format.order y 14064741636278059008 = some .gt)
    (ho : FloatKind.f64.format.order g 0 = some .eq ∨ FloatKind.f64.format.order g 0 = some .gt) (hgf : f = g)
    (hf : Nm f 0) (HS : Hid (sinW y = ngf (geh f) (sv (f3f (gtq (f2f (geh f) f)) (f2f (geh f) f))))) (w : World) :
    Calls Try.prog 44 #[.float .f64 y] w fun e w' => e = .returned (.float .f64 (sinW y)) ∧ w = w' := by
  have hneg : ∀ (b : Nat) (w : World), (Op.unary .neg (.float .f64 b)).run Try.prog w = .ok (.float .f64 (Op.negFloat .f64 b)) w := fun _ _ => rfl
  have h00 : FloatKind.f64.format.order 0 0 = some .eq := by decide
  subst hgf
  obtain ⟨f2, f3, F⟩ := fold_of Try.prog hf
  rw [← F.e2, ← F.e3] at HS
  obtain ⟨z, u, hu, _, p1, p2, p3⟩ := sv_ops (P := Try.prog) F.n3
  have HU : Hid (Nm u 6) := hu
  clear hu
  rcases geh_cases hf with ⟨ho1, hg1⟩ | ⟨ho1, hg1⟩ <;> rcases gtq_cases F.n2 with ⟨ho2, hg2⟩ | ⟨ho2, hg2⟩
  · -- neither
    have E2 := F.e2
    rw [hg1] at E2
    obtain rfl : f2 = f := E2
    have E3 := F.e3
    rw [hg2] at E3
    obtain rfl : f3 = f2 := E3
    have HR : Hid (sv f3 = sinW y) := by have h := HS.out; rw [hg1] at h; exact h.symm
    clear HS F hg1 hg2 hf
    rcases ho with ho | ho <;> rcases ho2 with ho2 | ho2
    all_goals
      go_enter Try.func44, Try.ntmps44
      go_wp2
      go_loop [7, 8] (fun q k => ∃ j : Nat, j ≤ 8 ∧ k = .int .i64 (8 - (j : Int)) ∧ q = .float .f64 (sp u j)) (fun _ k => (intOf k + 100).toNat)
      case atStart => exact ⟨0, by omega, by go_num, rfl⟩
      case round =>
        obtain ⟨j, hj, rfl, rfl⟩ := hrel
        by_cases hlt : j < 8
        · obtain ⟨a', b', r1, r2, r3⟩ := sp_ops (P := Try.prog) HU.out hlt
          have hk1 := k_wrap hlt
          have hk2 : wrap64 (2 * (8 - (j : Int)) * (2 * (8 - (j : Int)) + 1)) = 2 * (8 - (j : Int)) * (2 * (8 - (j : Int)) + 1) := by
            obtain ⟨h1, h2⟩ := k_bounds hlt
            exact IntWalk.wrap64_in _ ⟨by omega, by omega⟩
          clear p3
          go_wp2
          go_round
          case rel => exact ⟨j + 1, by omega, by go_num, rfl⟩
          case measure => simp [intOf]; omega
        · obtain rfl : j = 8 := by omega
          go_wp2
          go_ret
          exact ⟨by rw [← HR.out]; rfl, rfl⟩
  · -- the second alone
    have E2 := F.e2
    rw [hg1] at E2
    obtain rfl : f2 = f := E2
    have r3 := F.r3 hg2
    have HR : Hid (sv f3 = sinW y) := by have h := HS.out; rw [hg1] at h; exact h.symm
    clear HS F hg1 hg2 hf
    rcases ho with ho | ho
    all_goals
      go_enter Try.func44, Try.ntmps44
      go_wp2
      clear r3
      go_loop [7, 8] (fun q k => ∃ j : Nat, j ≤ 8 ∧ k = .int .i64 (8 - (j : Int)) ∧ q = .float .f64 (sp u j)) (fun _ k => (intOf k + 100).toNat)
      case atStart => exact ⟨0, by omega, by go_num, rfl⟩
      case round =>
        obtain ⟨j, hj, rfl, rfl⟩ := hrel
        by_cases hlt : j < 8
        · obtain ⟨a', b', r1, r2, r3⟩ := sp_ops (P := Try.prog) HU.out hlt
          have hk1 := k_wrap hlt
          have hk2 : wrap64 (2 * (8 - (j : Int)) * (2 * (8 - (j : Int)) + 1)) = 2 * (8 - (j : Int)) * (2 * (8 - (j : Int)) + 1) := by
            obtain ⟨h1, h2⟩ := k_bounds hlt
            exact IntWalk.wrap64_in _ ⟨by omega, by omega⟩
          clear p3
          go_wp2
          go_round
          case rel => exact ⟨j + 1, by omega, by go_num, rfl⟩
          case measure => simp [intOf]; omega
        · obtain rfl : j = 8 := by omega
          go_wp2
          go_ret
          exact ⟨by rw [← HR.out]; rfl, rfl⟩
  · -- the first alone
    have r2 := F.r2 hg1
    have E3 := F.e3
    rw [hg2] at E3
    obtain rfl : f3 = f2 := E3
    have HR : Hid (Op.negFloat .f64 (sv f3) = sinW y) := by have h := HS.out; rw [hg1] at h; exact h.symm
    clear HS F hg1 hg2 hf
    rcases ho with ho | ho <;> rcases ho1 with ho1 | ho1 <;> rcases ho2 with ho2 | ho2
    all_goals
      go_enter Try.func44, Try.ntmps44
      go_wp2
      clear r2
      go_loop [7, 8] (fun q k => ∃ j : Nat, j ≤ 8 ∧ k = .int .i64 (8 - (j : Int)) ∧ q = .float .f64 (sp u j)) (fun _ k => (intOf k + 100).toNat)
      case atStart => exact ⟨0, by omega, by go_num, rfl⟩
      case round =>
        obtain ⟨j, hj, rfl, rfl⟩ := hrel
        by_cases hlt : j < 8
        · obtain ⟨a', b', r1, r2, r3⟩ := sp_ops (P := Try.prog) HU.out hlt
          have hk1 := k_wrap hlt
          have hk2 : wrap64 (2 * (8 - (j : Int)) * (2 * (8 - (j : Int)) + 1)) = 2 * (8 - (j : Int)) * (2 * (8 - (j : Int)) + 1) := by
            obtain ⟨h1, h2⟩ := k_bounds hlt
            exact IntWalk.wrap64_in _ ⟨by omega, by omega⟩
          clear p3
          go_wp2
          go_round
          case rel => exact ⟨j + 1, by omega, by go_num, rfl⟩
          case measure => simp [intOf]; omega
        · obtain rfl : j = 8 := by omega
          go_wp2
          go_ret
          exact ⟨by rw [← HR.out]; rfl, rfl⟩
  · -- both
    have r2 := F.r2 hg1
    have r3 := F.r3 hg2
    have HR : Hid (Op.negFloat .f64 (sv f3) = sinW y) := by have h := HS.out; rw [hg1] at h; exact h.symm
    clear HS F hg1 hg2 hf
    rcases ho with ho | ho <;> rcases ho1 with ho1 | ho1
    all_goals
      go_enter Try.func44, Try.ntmps44
      go_wp2
      clear r2 r3
      go_loop [7, 8] (fun q k => ∃ j : Nat, j ≤ 8 ∧ k = .int .i64 (8 - (j : Int)) ∧ q = .float .f64 (sp u j)) (fun _ k => (intOf k + 100).toNat)
      case atStart => exact ⟨0, by omega, by go_num, rfl⟩
      case round =>
        obtain ⟨j, hj, rfl, rfl⟩ := hrel
        by_cases hlt : j < 8
        · obtain ⟨a', b', r1, r2, r3⟩ := sp_ops (P := Try.prog) HU.out hlt
          have hk1 := k_wrap hlt
          have hk2 : wrap64 (2 * (8 - (j : Int)) * (2 * (8 - (j : Int)) + 1)) = 2 * (8 - (j : Int)) * (2 * (8 - (j : Int)) + 1) := by
            obtain ⟨h1, h2⟩ := k_bounds hlt
            exact IntWalk.wrap64_in _ ⟨by omega, by omega⟩
          clear p3
          go_wp2
          go_round
          case rel => exact ⟨j + 1, by omega, by go_num, rfl⟩
          case measure => simp [intOf]; omega
        · obtain rfl : j = 8 := by omega
          go_wp2
          go_ret
          exact ⟨by rw [← HR.out]; rfl, rfl⟩

theorem wide_any {y : Nat} {s : Bool} {m : Nat} {p : Int} (hd : Ieee.double.read y = .number s m p) (hy : Nm y 53) (hw : whole m p < 4503599627370496)
    (hb1 : FloatKind.f64.format.order y 4841369599423283200 = some .lt) (hb2 : FloatKind.f64.format.order y 14064741636278059008 = some .gt) (w : World) :
    Calls Try.prog 44 #[.float .f64 y] w fun e w' => e = .returned (.float .f64 (sinW y)) ∧ w = w' := by
  have hud : (Try.prog.underlying 45).isSome = true := by rw [Try.underlying45]; rfl
  have hc : ∀ w, (convert 45 2 (.float .f64 y)).run Try.prog w = .ok (.int .i64 (trunc y)) w := fun w => to_int hy (by omega) (by omega) _ _ hud Try.underlying2 w
  have hf := nm_fr hd hw
  have o1 : ∀ t w, (binOp .sub t (.float .f64 y) (.float .f64 (floatOfInt .f64 (trunc y)))).run Try.prog w = .ok (.float .f64 (fr y)) w := fun t w => run_nm (op := .sub) hf t w
  have hs : ∀ t w, (binOp .sub t (.float .f64 y) (.float .f64 y)).run Try.prog w = .ok (.float .f64 0) w := fun t w => run_float_arith w .sub t .f64 _ _ _ (sub_self_num (k := .f64) hd)
  obtain ⟨n1, n2⟩ := nm_f1 hf
  rcases ltz_cases hf with ⟨ho, hl⟩ | ⟨ho, hl⟩
  · have o2 : ∀ t w, (binOp .add t (.float .f64 (fr y)) (.float .f64 4607182418800017408)).run Try.prog w = .ok (.float .f64 (partW y)) w := fun t w => by
      have e : partW y = ar .add .f64 (fr y) 4607182418800017408 := by unfold partW f1f; rw [hl]; rfl
      rw [e]; exact run_nm (n1 hl) t w
    exact wide_low hc o1 hs hb1 hb2 ho o2 n2 rfl w
  · have he : partW y = fr y := by unfold partW f1f; rw [hl]; rfl
    exact wide_high hc o1 hs hb1 hb2 ho he n2 rfl w

theorem wide_big {y : Nat} {s : Bool} {m : Nat} {p : Int} (hd : Ieee.double.read y = .number s m p)
    (h : (FloatKind.f64.format.order y 4841369599423283200 = some .eq ∨ FloatKind.f64.format.order y 4841369599423283200 = some .gt) ∨ (FloatKind.f64.format.order y 4841369599423283200 = some .lt ∧ (FloatKind.f64.format.order y 14064741636278059008 = some .lt ∨ FloatKind.f64.format.order y 14064741636278059008 = some .eq))) (w : World) :
    Calls Try.prog 44 #[.float .f64 y] w fun e w' => e = .returned (.float .f64 0) ∧ w = w' := by
  have hs : ∀ t w, (binOp .sub t (.float .f64 y) (.float .f64 y)).run Try.prog w = .ok (.float .f64 0) w := fun t w => run_float_arith w .sub t .f64 _ _ _ (sub_self_num (k := .f64) hd)
  have h00 : FloatKind.f64.format.order 0 0 = some .eq := by decide
  clear hd
  rcases h with (ho | ho) | ⟨ho, ho' | ho'⟩
  all_goals
    go_enter Try.func44, Try.ntmps44
    go_wp2
    go_ret
    exact ⟨rfl, rfl⟩

theorem wide_not (y : Nat) (hY : ∀ r, Sm .f64 r (ar .sub .f64 y y) → FloatKind.f64.format.order r 0 = none) (w : World) :
    Calls Try.prog 44 #[.float .f64 y] w fun e w' => e = .returned (.float .f64 9221120237041090561) ∧ ∃ n, w' = w.drewN n := by
  go_enter Try.func44, Try.ntmps44
  go_wp2_with (first | (refine wpList_ar rfl .sub 45 45 _ _ rfl (by simp) .f64 _ _ rfl rfl ?_; intro r n hr hw; have ho := hY r hr; clear hr hw) | (go_at_call 58; refine (nan_any _).mono ?_; rintro e w' ⟨rfl, rfl⟩))
  go_ret
  exact ⟨rfl, _, rfl⟩
end Go.Proofs.Ytibpahkjjjhapab.sinS
