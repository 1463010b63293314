/- The logarithm of 64-bit numbers greater than 0, in the program and in its model. -/
import Derived.Test.YtclogbnecgfndabRows
import Derived.WalkKit
import Derived.WalkLawsBesides
import Derived.Deep.Draws
import Derived.Test.YtclogbnecgfndabLg
namespace Go.Proofs.Ytclogbnecgfndab.lg
open Go.RowKit Go.Fl

theorem impl_pos (y0 : Nat) (L0 : Int) (hp : Pos y0 L0) (hL1 : L0 ≤ 200) (hL2 : -200 ≤ L0) (w : World) :
    Calls Try.prog 28 #[.float .f64 y0] w fun e w' => e = .returned (.float .f64 (lgW y0)) ∧ w = w' := by
  have HP0 : Hid (Pos y0 L0) := hp
  clear hp
  have hp := HP0
  clear HP0
  go_enter Try.func28, Try.ntmps28
  go_wp2
  go_loop [0, 3] (fun x e => ∃ (f y : Nat) (ev L : Int), x = .float .f64 y ∧ e = .int .i64 ev ∧ Hid (Pos y L) ∧ Hid (red1 f y ev = red1 1200 y0 0) ∧ L + 1 ≤ f ∧ L ≤ 200 ∧ -200 ≤ L ∧ Hid (ev + L = L0) ∧ 0 ≤ ev ∧ ev ≤ 201) (fun _ e => (3000 - intOf e).toNat)
  case atStart => exact ⟨1200, y0, 0, L0, rfl, rfl, hp, rfl, by omega, hL1, hL2, by show (0 : Int) + L0 = L0; omega, by omega, by omega⟩
  case round =>
    obtain ⟨f, y, ev, L, rfl, rfl, hpy, hr, hf, hLa, hLb, hs, he0, he1⟩ := hrel
    rcases pos_15 hpy.out with ⟨ho, hL⟩ | ⟨ho, hL⟩
    rotate_left
    · -- halved once more
      obtain ⟨hb, hp'⟩ := pos_half hpy.out (by omega) (by omega)
      have HP : Hid (Pos (halfOf y) (L - 1)) := hp'
      have HS : Hid (ev + 1 + (L - 1) = L0) := by have := hs.out; show ev + 1 + (L - 1) = L0; omega
      have hee : ev + 1 ≤ 201 := by have := hs.out; omega
      obtain ⟨f', rfl⟩ : ∃ f', f = f' + 1 := ⟨f - 1, by omega⟩
      have HR : Hid (red1 f' (halfOf y) (ev + 1) = red1 1200 y0 0) := by
        have h := hr.out
        rw [red1_go f' (lt15_not ho)] at h
        exact h
      have hop : ∀ t w, (binOp .quo t (.float .f64 y) (.float .f64 4611686018427387904)).run Try.prog w = .ok (.float .f64 (halfOf y)) w := fun t w => run_float_arith w .quo t .f64 y _ _ hb
      clear hb hp' hs hr hpy
      rcases ho with ho | ho
      all_goals
        go_wp2
        go_round
        case rel => exact ⟨f', halfOf y, ev + 1, L - 1, rfl, by go_num, HP, HR, by omega, by omega, by omega, HS, by omega, by omega⟩
        case measure => simp [intOf]; omega
    · -- the first loop's end
      have HR1 : Hid (red1 1200 y0 0 = (y, ev)) := by
        have h := hr.out
        rw [red1_stop f (by unfold lt15; rw [ho]; rfl)] at h
        exact h.symm
      clear hr
      go_wp2
      clear ho
      go_loop [0, 3] (fun x e => ∃ (f2 y2 : Nat) (ev2 L2 : Int), x = .float .f64 y2 ∧ e = .int .i64 ev2 ∧ Hid (Pos y2 L2) ∧ Hid (red2 f2 y2 ev2 = red2 1200 y ev) ∧ -L2 ≤ f2 ∧ L2 ≤ 0 ∧ -200 ≤ L2 ∧ Hid (ev2 + L2 = L0) ∧ -200 ≤ ev2 ∧ ev2 ≤ 400) (fun _ e => (3000 + intOf e).toNat)
      case atStart => exact ⟨1200, y, ev, L, rfl, rfl, hpy, rfl, by omega, hL, hLb, hs, by omega, by omega⟩
      case round =>
        obtain ⟨f2, y2, ev2, L2, rfl, rfl, hpy2, hr2, hf2, hLa2, hLb2, hs2, he02, he12⟩ := hrel
        rcases pos_075 hpy2.out with ⟨ho, hL'⟩ | ⟨ho, hL'⟩
        · obtain ⟨hb, hp'⟩ := pos_dbl hpy2.out (by omega) (by omega)
          have HP : Hid (Pos (dblOf y2) (L2 + 1)) := hp'
          have HS : Hid (ev2 - 1 + (L2 + 1) = L0) := by have := hs2.out; show ev2 - 1 + (L2 + 1) = L0; omega
          have hee : -200 ≤ ev2 - 1 := by have := hs2.out; omega
          obtain ⟨f', rfl⟩ : ∃ f', f2 = f' + 1 := ⟨f2 - 1, by omega⟩
          have HR : Hid (red2 f' (dblOf y2) (ev2 - 1) = red2 1200 y ev) := by
            have h := hr2.out
            have e : lt075 y2 = true := by unfold lt075; rw [ho]; rfl
            rw [red2_go f' e] at h
            exact h
          have hop : ∀ t w, (binOp .mul t (.float .f64 y2) (.float .f64 4611686018427387904)).run Try.prog w = .ok (.float .f64 (dblOf y2)) w := fun t w => run_float_arith w .mul t .f64 y2 _ _ hb
          clear hb hp' hs2 hr2 hpy2
          go_wp2
          go_round
          case rel => exact ⟨f', dblOf y2, ev2 - 1, L2 + 1, rfl, by go_num, HP, HR, by omega, by omega, by omega, HS, by omega, by omega⟩
          case measure => simp [intOf]; omega
        · have HR2 : Hid (red2 1200 y ev = (y2, ev2)) := by
            have h := hr2.out
            rw [red2_stop f2 (lt075_not ho)] at h
            exact h.symm
          have hee : ev2.natAbs ≤ 1200 := by omega
          obtain ⟨a, b, s, u, hu, hs1, hu1, o1, o2, o3, o4⟩ := su_step (P := Try.prog) hpy2.out hLa2
          obtain ⟨c, d, g, p1, p2, p3, p4⟩ := fin_step (P := Try.prog) hpy2.out hLa2 hee
          have HF : Hid (lgF y2 ev2 = lgW y0) := (lgW_of HR1.out HR2.out).symm
          rw [← hs1, ← hu1] at p1
          have HU : Hid (Nm u 2) := hu
          clear hs1 hu1 hu hr2 hpy2 hs2 HR1 HR2 hpy hs hee
          generalize hres : lgF y2 ev2 = res at *
          clear hres
          rcases ho with ho | ho
          all_goals
            go_wp2
            go_loop [6, 7] (fun q k => ∃ j : Nat, j ≤ 13 ∧ k = .int .i64 (25 - 2 * (j : Int)) ∧ q = .float .f64 (lq u j)) (fun _ k => (25 - intOf k + 100).toNat - (25 - intOf k + 100).toNat + (intOf k + 100).toNat)
            case atStart => exact ⟨0, by omega, by go_num, rfl⟩
            case round =>
              obtain ⟨j, hj, rfl, rfl⟩ := hrel
              by_cases hlt : j < 13
              · obtain ⟨a', b', r1, r2, r3⟩ := lq_step (P := Try.prog) HU.out hlt
                go_wp2
                go_round
                case rel => exact ⟨j + 1, by omega, by go_num, rfl⟩
                case measure => simp [intOf]; omega
              · obtain rfl : j = 13 := by omega
                go_wp2
                go_ret
                exact ⟨by rw [← HF.out]; rfl, rfl⟩
end Go.Proofs.Ytclogbnecgfndab.lg
