/- The sine of turns, in the program. -/
import Derived.Test.YtibpahkjjjhapabRows
import Derived.WalkKit
import Derived.WalkLawsBesides
import Derived.Deep.Draws
import Derived.Test.YtibpahkjjjhapabSin
import Derived.Lib.Hide
namespace Go.Proofs.Ytibpahkjjjhapab.sin
open Go.RowKit Go.Fl

theorem part_impl {y : Nat} {s : Bool} {m : Nat} {p : Int} (hd : Ieee.double.read y = .number s m p) (hy : Nm y 53) (hw : whole m p < 4503599627370496) (w : World) :
    Calls Try.prog 73 #[.float .f64 y] w fun e w' => e = .returned (.float .f64 (partW y)) ∧ w = w' := by
  have hud : (Try.prog.underlying 45).isSome = true := by rw [Try.underlying45]; rfl
  have hc : ∀ w, (convert 45 2 (.float .f64 y)).run Try.prog w = .ok (.int .i64 (trunc y)) w := fun w => to_int hy (by omega) (by omega) _ _ hud Try.underlying2 w
  have hf := nm_fr hd hw
  have o1 : ∀ t w, (binOp .sub t (.float .f64 y) (.float .f64 (floatOfInt .f64 (trunc y)))).run Try.prog w = .ok (.float .f64 (fr y)) w := fun t w => run_nm (op := .sub) hf t w
  obtain ⟨n1, _⟩ := nm_f1 hf
  rcases ltz_cases hf with ⟨ho, hl⟩ | ⟨ho, hl⟩
  · have o2 : ∀ t w, (binOp .add t (.float .f64 (fr y)) (.float .f64 4607182418800017408)).run Try.prog w = .ok (.float .f64 (partW y)) w := fun t w => by
      have e : partW y = ar .add .f64 (fr y) 4607182418800017408 := by unfold partW f1f; rw [hl]; rfl
      rw [e]; exact run_nm (n1 hl) t w
    clear hd hy hw hf n1 hl
    go_enter Try.func73, Try.ntmps73
    go_wp2
    go_ret
    exact ⟨rfl, rfl⟩
  · have HE : Hid (partW y = fr y) := by show partW y = fr y; unfold partW f1f; rw [hl]; rfl
    clear hd hy hw hf n1 hl
    rcases ho with ho | ho
    all_goals
      go_enter Try.func73, Try.ntmps73
      go_wp2
      go_ret
      exact ⟨by rw [HE.out]; rfl, rfl⟩

/-- folded to a quarter: what both tests do -/
structure Fold (P : Program) (f f2 f3 : Nat) : Prop where
  n2 : Nm f2 0
  n3 : Nm f3 0
  e2 : f2 = f2f (geh f) f
  e3 : f3 = f3f (gtq f2) f2
  r2 : geh f = true → ∀ t w, (binOp .sub t (.float .f64 f) (.float .f64 4602678819172646912)).run P w = .ok (.float .f64 f2) w
  r3 : gtq f2 = true → ∀ t w, (binOp .sub t (.float .f64 4602678819172646912) (.float .f64 f2)).run P w = .ok (.float .f64 f3) w
theorem fold_of (P : Program) {f : Nat} (h : Nm f 0) : ∃ f2 f3, Fold P f f2 f3 := by
  obtain ⟨k2, n2⟩ := nm_f2 h
  obtain ⟨k3, n3⟩ := nm_f3 n2
  refine ⟨_, _, n2, n3, rfl, rfl, fun hg t w => ?_, fun hg t w => ?_⟩
  · have e : f2f (geh f) f = ar .sub .f64 f 4602678819172646912 := by unfold f2f; rw [hg]; rfl
    rw [e]; exact run_nm (k2 hg) t w
  · have e : f3f (gtq (f2f (geh f) f)) (f2f (geh f) f) = ar .sub .f64 4602678819172646912 (f2f (geh f) f) := by
      generalize f2f (geh f) f = g at *
      unfold f3f; rw [hg]; rfl
    rw [e]; exact run_nm (k3 hg) t w

set_option maxHeartbeats 4000000 in
theorem sine_impl {y : Nat} {s : Bool} {m : Nat} {p : Int} (hd : Ieee.double.read y = .number s m p) (hy : Nm y 53) (hw : whole m p < 4503599627370496) (w : World) :
    Calls Try.prog 62 #[.float .f64 y] w fun e w' => e = .returned (.float .f64 (sinW y)) ∧ w = w' := by
  have hneg : ∀ (b : Nat) (w : World), (Op.unary .neg (.float .f64 b)).run Try.prog w = .ok (.float .f64 (Op.negFloat .f64 b)) w := fun _ _ => rfl
  have hpt : ∀ w, Calls Try.prog 73 #[.float .f64 y] w fun e w' => e = .returned (.float .f64 (partW y)) ∧ w = w' := fun w => part_impl hd hy hw w
  have HP := Lib.hid hpt
  have hf : Nm (partW y) 0 := (nm_f1 (nm_fr hd hw)).2
  have HS : Hid (sinW y = ngf (geh (partW y)) (sv (f3f (gtq (f2f (geh (partW y)) (partW y))) (f2f (geh (partW y)) (partW y))))) := rfl
  clear hpt hd hy hw
  generalize partW y = f at *
  obtain ⟨f2, f3, F⟩ := fold_of Try.prog hf
  rw [← F.e2, ← F.e3] at HS
  obtain ⟨z, u, hu, _, p1, p2, p3⟩ := sv_ops (P := Try.prog) F.n3
  have HU : Hid (Nm u 6) := hu
  clear hu
  rcases geh_cases hf with ⟨ho1, hg1⟩ | ⟨ho1, hg1⟩ <;> rcases gtq_cases F.n2 with ⟨ho2, hg2⟩ | ⟨ho2, hg2⟩
  · -- neither
    have E2 := F.e2
    rw [hg1] at E2
    obtain rfl : f2 = f := E2
    have E3 := F.e3
    rw [hg2] at E3
    obtain rfl : f3 = f2 := E3
    have HR : Hid (sv f3 = sinW y) := by have h := HS.out; rw [hg1] at h; exact h.symm
    clear HS F hg1 hg2 hf
    rcases ho2 with ho2 | ho2
    all_goals
      go_enter Try.func62, Try.ntmps62
      go_wp2_with (first | (go_at_call 73; refine (HP.out _).mono ?_; rintro e w' ⟨rfl, rfl⟩) | (go_at_call 74; go_in))
      go_loop [7, 8] (fun q k => ∃ j : Nat, j ≤ 8 ∧ k = .int .i64 (8 - (j : Int)) ∧ q = .float .f64 (sp u j)) (fun _ k => (intOf k + 100).toNat)
      case atStart => exact ⟨0, by omega, by go_num, rfl⟩
      case round =>
        obtain ⟨j, hj, rfl, rfl⟩ := hrel
        by_cases hlt : j < 8
        · obtain ⟨a', b', r1, r2, r3⟩ := sp_ops (P := Try.prog) HU.out hlt
          have hk1 := k_wrap hlt
          have hk2 : wrap64 (2 * (8 - (j : Int)) * (2 * (8 - (j : Int)) + 1)) = 2 * (8 - (j : Int)) * (2 * (8 - (j : Int)) + 1) := by
            obtain ⟨h1, h2⟩ := k_bounds hlt
            exact IntWalk.wrap64_in _ ⟨by omega, by omega⟩
          clear p3
          go_wp2
          go_round
          case rel => exact ⟨j + 1, by omega, by go_num, rfl⟩
          case measure => simp [intOf]; omega
        · obtain rfl : j = 8 := by omega
          go_wp2
          go_ret
          exact ⟨by rw [← HR.out]; rfl, rfl⟩
  · -- the second alone
    have E2 := F.e2
    rw [hg1] at E2
    obtain rfl : f2 = f := E2
    have r3 := F.r3 hg2
    have HR : Hid (sv f3 = sinW y) := by have h := HS.out; rw [hg1] at h; exact h.symm
    clear HS F hg1 hg2 hf
    all_goals
      go_enter Try.func62, Try.ntmps62
      go_wp2_with (first | (go_at_call 73; refine (HP.out _).mono ?_; rintro e w' ⟨rfl, rfl⟩) | (go_at_call 74; go_in))
      clear r3
      go_loop [7, 8] (fun q k => ∃ j : Nat, j ≤ 8 ∧ k = .int .i64 (8 - (j : Int)) ∧ q = .float .f64 (sp u j)) (fun _ k => (intOf k + 100).toNat)
      case atStart => exact ⟨0, by omega, by go_num, rfl⟩
      case round =>
        obtain ⟨j, hj, rfl, rfl⟩ := hrel
        by_cases hlt : j < 8
        · obtain ⟨a', b', r1, r2, r3⟩ := sp_ops (P := Try.prog) HU.out hlt
          have hk1 := k_wrap hlt
          have hk2 : wrap64 (2 * (8 - (j : Int)) * (2 * (8 - (j : Int)) + 1)) = 2 * (8 - (j : Int)) * (2 * (8 - (j : Int)) + 1) := by
            obtain ⟨h1, h2⟩ := k_bounds hlt
            exact IntWalk.wrap64_in _ ⟨by omega, by omega⟩
          clear p3
          go_wp2
          go_round
          case rel => exact ⟨j + 1, by omega, by go_num, rfl⟩
          case measure => simp [intOf]; omega
        · obtain rfl : j = 8 := by omega
          go_wp2
          go_ret
          exact ⟨by rw [← HR.out]; rfl, rfl⟩
  · -- the first alone
    have r2 := F.r2 hg1
    have E3 := F.e3
    rw [hg2] at E3
    obtain rfl : f3 = f2 := E3
    have HR : Hid (Op.negFloat .f64 (sv f3) = sinW y) := by have h := HS.out; rw [hg1] at h; exact h.symm
    clear HS F hg1 hg2 hf
    rcases ho1 with ho1 | ho1 <;> rcases ho2 with ho2 | ho2
    all_goals
      go_enter Try.func62, Try.ntmps62
      go_wp2_with (first | (go_at_call 73; refine (HP.out _).mono ?_; rintro e w' ⟨rfl, rfl⟩) | (go_at_call 74; go_in))
      clear r2
      go_loop [7, 8] (fun q k => ∃ j : Nat, j ≤ 8 ∧ k = .int .i64 (8 - (j : Int)) ∧ q = .float .f64 (sp u j)) (fun _ k => (intOf k + 100).toNat)
      case atStart => exact ⟨0, by omega, by go_num, rfl⟩
      case round =>
        obtain ⟨j, hj, rfl, rfl⟩ := hrel
        by_cases hlt : j < 8
        · obtain ⟨a', b', r1, r2, r3⟩ := sp_ops (P := Try.prog) HU.out hlt
          have hk1 := k_wrap hlt
          have hk2 : wrap64 (2 * (8 - (j : Int)) * (2 * (8 - (j : Int)) + 1)) = 2 * (8 - (j : Int)) * (2 * (8 - (j : Int)) + 1) := by
            obtain ⟨h1, h2⟩ := k_bounds hlt
            exact IntWalk.wrap64_in _ ⟨by omega, by omega⟩
          clear p3
          go_wp2
          go_round
          case rel => exact ⟨j + 1, by omega, by go_num, rfl⟩
          case measure => simp [intOf]; omega
        · obtain rfl : j = 8 := by omega
          go_wp2
          go_ret
          exact ⟨by rw [← HR.out]; rfl, rfl⟩
  · -- both
    have r2 := F.r2 hg1
    have r3 := F.r3 hg2
    have HR : Hid (Op.negFloat .f64 (sv f3) = sinW y) := by have h := HS.out; rw [hg1] at h; exact h.symm
    clear HS F hg1 hg2 hf
    rcases ho1 with ho1 | ho1
    all_goals
      go_enter Try.func62, Try.ntmps62
      go_wp2_with (first | (go_at_call 73; refine (HP.out _).mono ?_; rintro e w' ⟨rfl, rfl⟩) | (go_at_call 74; go_in))
      clear r2 r3
      go_loop [7, 8] (fun q k => ∃ j : Nat, j ≤ 8 ∧ k = .int .i64 (8 - (j : Int)) ∧ q = .float .f64 (sp u j)) (fun _ k => (intOf k + 100).toNat)
      case atStart => exact ⟨0, by omega, by go_num, rfl⟩
      case round =>
        obtain ⟨j, hj, rfl, rfl⟩ := hrel
        by_cases hlt : j < 8
        · obtain ⟨a', b', r1, r2, r3⟩ := sp_ops (P := Try.prog) HU.out hlt
          have hk1 := k_wrap hlt
          have hk2 : wrap64 (2 * (8 - (j : Int)) * (2 * (8 - (j : Int)) + 1)) = 2 * (8 - (j : Int)) * (2 * (8 - (j : Int)) + 1) := by
            obtain ⟨h1, h2⟩ := k_bounds hlt
            exact IntWalk.wrap64_in _ ⟨by omega, by omega⟩
          clear p3
          go_wp2
          go_round
          case rel => exact ⟨j + 1, by omega, by go_num, rfl⟩
          case measure => simp [intOf]; omega
        · obtain rfl : j = 8 := by omega
          go_wp2
          go_ret
          exact ⟨by rw [← HR.out]; rfl, rfl⟩
end Go.Proofs.Ytibpahkjjjhapab.sin
