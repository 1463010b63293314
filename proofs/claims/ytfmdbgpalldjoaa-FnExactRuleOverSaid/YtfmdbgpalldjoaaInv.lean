/- What times a number leaves 1: both sides. -/
import Derived.Test.YtfmdbgpalldjoaaPo
import Derived.Test.YtfmdbgpalldjoaaHr
namespace Go.Proofs.Ytfmdbgpalldjoaa.wh
open Go.RowKit Go.Pl

theorem inv_bd {x p : Int} (hp : isP p = true) (h : 0 < x ∧ x < p) : 1 ≤ inv x p ∧ inv x p ≤ 12 := by
  have := inv_ok hp h
  have := isP_le hp
  omega
theorem xy_bd {x y : Int} (hx : 0 < x ∧ x < 14) (hy : 0 ≤ y ∧ y ≤ 13) : -1000 ≤ x * y ∧ x * y ≤ 1000 := by
  have := mul_ab (A := 13) (B := 13) (a := x) (b := y) (by omega) (by omega)
  omega
/-- what a step of the search for an inverse does -/
theorem inv_step {x p y r : Int} {f : Nat} (h1 : y + f = 13) (h2 : y ≤ r) (h3 : r < p) (h4 : p ≤ 13) (h : invf x p f y = r) : (Int.tmod (x * y) p = 1 → y = r) ∧ (Int.tmod (x * y) p ≠ 1 → ∃ g, f = g + 1 ∧ y + 1 ≤ r ∧ invf x p g (y + 1) = r) := by
  cases f with
  | zero => omega
  | succ f =>
    refine ⟨fun e => ?_, fun e => ?_⟩
    · rw [invf_yes e] at h; exact h
    · rw [invf_no e] at h
      have := invf_ge x p f (y + 1)
      exact ⟨f, rfl, by omega, h⟩

set_option maxRecDepth 100000 in
theorem iinv_any (x p : Int) (hp : isP p = true) (hx : 0 < x ∧ x < p) (w : World) : Calls Try.prog 68 #[.int .i64 x, .int .i64 p] w fun e w' => e = .returned (.int .i64 (inv x p)) ∧ w' = w := by
  have hp2 := isP_le hp
  have HI : Hid (1 ≤ inv x p ∧ inv x p < p ∧ Int.tmod (x * inv x p) p = 1) := inv_ok hp hx
  have H0 : Hid (invf x p 12 1 = inv x p) := rfl
  obtain ⟨r, hr⟩ : ∃ r, r = inv x p := ⟨_, rfl⟩
  rw [← hr] at HI H0 ⊢
  have HP : Hid (0 < x ∧ x < 14 ∧ 2 ≤ p ∧ p ≤ 13) := ⟨by omega, by omega, by omega, by omega⟩
  have hpb : (p == 0) = false := by rw [beq_eq_false_iff_ne]; omega
  have hp2' : 2 ≤ p := hp2.1
  clear hr hx hp2
  go_enter Try.func68, Try.ntmps68
  go_wp2_with fail
  go_loop [5] (fun t => ∃ (y : Int) (f : Nat), t = .int .i64 y ∧ y + f = 13 ∧ 1 ≤ y ∧ y ≤ r ∧ Hid (invf x p f y = r)) (fun t => (13 - intOf t).toNat)
  case atStart => exact ⟨1, 12, rfl, by omega, by omega, HI.out.1, H0⟩
  case round =>
    obtain ⟨y, f, rfl, hyf, hy1, hyr, hf⟩ := hrel
    obtain ⟨k1, k2⟩ := inv_step hyf hyr HI.out.2.1 HP.out.2.2.2 hf.out
    have hbd := xy_bd (x := x) (y := y) ⟨HP.out.1, HP.out.2.1⟩ ⟨by omega, by omega⟩
    have htm := tm_range (x * y) (p := p) (by have := HP.out; omega)
    have hp13 := HP.out.2.2.2
    obtain ⟨m, hm⟩ : ∃ m, m = x * y := ⟨_, rfl⟩
    rw [← hm] at k1 k2 hbd htm
    have w1 : IntKind.i64.wrap (x * y) = m := by rw [← hm]; exact IntWalk.i64_in _ (by omega)
    have w1' : wrap64 (x * y) = m := by rw [← hm]; exact IntWalk.wrap64_in _ (by omega)
    have K1 : Hid (Int.tmod m p = 1 → y = r) := k1
    have K2 : Hid (Int.tmod m p ≠ 1 → ∃ g, f = g + 1 ∧ y + 1 ≤ r ∧ invf x p g (y + 1) = r) := k2
    have w2 : IntKind.i64.wrap (Int.tmod m p) = Int.tmod m p := IntWalk.i64_in _ (by omega)
    have w3 : IntKind.i64.wrap (y + 1) = y + 1 := IntWalk.i64_in _ (by omega)
    clear k1 k2 hbd htm hm hf
    by_cases h1 : Int.tmod m p = 1
    · have HE : Hid (y = r) := K1.out h1
      have b1 : (Int.tmod m p == 1) = true := by rw [beq_iff_eq]; exact h1
      have b2 : (Int.tmod m p != 1) = false := by rw [bne, b1]; rfl
      clear h1 K1 K2 hyr hyf
      go_wp2_with fail
      go_ret
      exact ⟨by rw [HE.out]; rfl, rfl⟩
    · obtain ⟨g, rfl, hg1, hg2⟩ := K2.out h1
      have HG : Hid (invf x p g (y + 1) = r) := hg2
      have b1 : (Int.tmod m p == 1) = false := by rw [beq_eq_false_iff_ne]; exact h1
      have b2 : (Int.tmod m p != 1) = true := by rw [bne, b1]; rfl
      clear h1 K1 K2 hg2
      go_wp2_with fail
      go_round
      case rel => exact ⟨y + 1, g, by go_num, by omega, by omega, hg1, HG⟩
      case measure => simp [intOf]; omega

set_option maxRecDepth 100000 in
theorem sinv_any (x p : Int) (hp : isP p = true) (hx : 0 < x ∧ x < p) (w : World) : Calls Try.prog 29 #[.int .i64 x, .int .i64 p] w fun e w' => e = .returned (.int .i64 (inv x p)) ∧ w' = w := by
  have hp2 := isP_le hp
  have HI : Hid (1 ≤ inv x p ∧ inv x p < p ∧ Int.tmod (x * inv x p) p = 1) := inv_ok hp hx
  have H0 : Hid (invf x p 12 1 = inv x p) := rfl
  obtain ⟨r, hr⟩ : ∃ r, r = inv x p := ⟨_, rfl⟩
  rw [← hr] at HI H0 ⊢
  have HP : Hid (0 < x ∧ x < 14 ∧ 2 ≤ p ∧ p ≤ 13) := ⟨by omega, by omega, by omega, by omega⟩
  have hpb : (p == 0) = false := by rw [beq_eq_false_iff_ne]; omega
  have hp2' : 2 ≤ p := hp2.1
  clear hr hx hp2
  go_enter Try.func29, Try.ntmps29
  go_wp2_with fail
  go_loop [5] (fun t => ∃ (y : Int) (f : Nat), t = .int .i64 y ∧ y + f = 13 ∧ 1 ≤ y ∧ y ≤ r ∧ Hid (invf x p f y = r)) (fun t => (13 - intOf t).toNat)
  case atStart => exact ⟨1, 12, rfl, by omega, by omega, HI.out.1, H0⟩
  case round =>
    obtain ⟨y, f, rfl, hyf, hy1, hyr, hf⟩ := hrel
    obtain ⟨k1, k2⟩ := inv_step hyf hyr HI.out.2.1 HP.out.2.2.2 hf.out
    have hyp : y < p := by have := HI.out.2.1; omega
    have hbd := xy_bd (x := x) (y := y) ⟨HP.out.1, HP.out.2.1⟩ ⟨by omega, by omega⟩
    have htm := tm_range (x * y) (p := p) (by have := HP.out; omega)
    have hp13 := HP.out.2.2.2
    obtain ⟨m, hm⟩ : ∃ m, m = x * y := ⟨_, rfl⟩
    rw [← hm] at k1 k2 hbd htm
    have w1 : IntKind.i64.wrap (x * y) = m := by rw [← hm]; exact IntWalk.i64_in _ (by omega)
    have w1' : wrap64 (x * y) = m := by rw [← hm]; exact IntWalk.wrap64_in _ (by omega)
    have K1 : Hid (Int.tmod m p = 1 → y = r) := k1
    have K2 : Hid (Int.tmod m p ≠ 1 → ∃ g, f = g + 1 ∧ y + 1 ≤ r ∧ invf x p g (y + 1) = r) := k2
    have w2 : IntKind.i64.wrap (Int.tmod m p) = Int.tmod m p := IntWalk.i64_in _ (by omega)
    have w3 : IntKind.i64.wrap (y + 1) = y + 1 := IntWalk.i64_in _ (by omega)
    clear k1 k2 hbd htm hm hf
    by_cases h1 : Int.tmod m p = 1
    · have HE : Hid (y = r) := K1.out h1
      have b1 : (Int.tmod m p == 1) = true := by rw [beq_iff_eq]; exact h1
      have b2 : (Int.tmod m p != 1) = false := by rw [bne, b1]; rfl
      clear h1 K1 K2 hyr hyf
      go_wp2_with fail
      go_ret
      exact ⟨by rw [HE.out]; rfl, rfl⟩
    · obtain ⟨g, rfl, hg1, hg2⟩ := K2.out h1
      have HG : Hid (invf x p g (y + 1) = r) := hg2
      have b1 : (Int.tmod m p == 1) = false := by rw [beq_eq_false_iff_ne]; exact h1
      have b2 : (Int.tmod m p != 1) = true := by rw [bne, b1]; rfl
      clear h1 K1 K2 hg2
      go_wp2_with fail
      go_round
      case rel => exact ⟨y + 1, g, by go_num, by omega, by omega, hg1, HG⟩
      case measure => simp [intOf]; omega
end Go.Proofs.Ytfmdbgpalldjoaa.wh
