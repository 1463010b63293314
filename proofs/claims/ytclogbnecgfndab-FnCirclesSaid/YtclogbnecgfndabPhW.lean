/- The point of the unit circle, in the program. -/
import Derived.Test.YtclogbnecgfndabSinW
import Derived.Test.YtclogbnecgfndabNanW
import Derived.Test.YtclogbnecgfndabFinW
import Derived.Test.YtclogbnecgfndabPhT
import Derived.Lib.Hide
namespace Go.Proofs.Ytclogbnecgfndab.ph
open Go.RowKit Go.Fl Go.Proofs.Ytclogbnecgfndab.abs Go.Proofs.Ytclogbnecgfndab.nan Go.Proofs.Ytclogbnecgfndab.fin Go.Proofs.Ytclogbnecgfndab.sin

theorem narrow_c {a b : Nat} (ha : Fits .f64 .f32 a) (hb : Fits .f64 .f32 b) (w : World) :
    Calls Try.prog 18 #[.complex .f64 a b] w (CPost (cv .f64 .f32 a) (cv .f64 .f32 b) w) := by
  go_enter Try.func18, Try.ntmps18
  go_wp2_with fail
  refine (nan.narrow_impl ha _).mono ?_
  rintro e w' ⟨r1, n1, rfl, rfl, h1⟩
  go_wp2_with fail
  refine (nan.narrow_impl hb _).mono ?_
  rintro e w' ⟨r2, n2, rfl, rfl, h2⟩
  go_wp2
  go_ret
  exact ⟨_, _, _, rfl, rfl, h1, h2⟩

/-- whether the absolute value is at least 2 ^ 52 -/
theorem places_small {y : Nat} (hy : (y : Int) ≤ 18446744073709551615) (h : FloatKind.f64.format.order (absN y) 4841369599423283200 = some .lt) (w : World) :
    Calls Try.prog 20 #[.float .f64 y] w fun e w' => e = .returned (.bool false) ∧ w = w' := by
  go_enter Try.func20, Try.ntmps20
  go_wp2_with (first | (go_at_call 35; refine (abs_any _ hy _).mono ?_; rintro e w' ⟨rfl, rfl⟩))
  go_ret
  exact ⟨rfl, rfl⟩
theorem places_big {y : Nat} (hy : (y : Int) ≤ 18446744073709551615) (h : FloatKind.f64.format.order (absN y) 4841369599423283200 = some .eq ∨ FloatKind.f64.format.order (absN y) 4841369599423283200 = some .gt) (w : World) :
    Calls Try.prog 20 #[.float .f64 y] w fun e w' => e = .returned (.bool true) ∧ w = w' := by
  rcases h with h | h
  all_goals
    go_enter Try.func20, Try.ntmps20
    go_wp2_with (first | (go_at_call 35; refine (abs_any _ hy _).mono ?_; rintro e w' ⟨rfl, rfl⟩))
    go_ret
    exact ⟨rfl, rfl⟩

theorem sine_small {y : Nat} (h : Nm y 1) (w : World) : Calls Try.prog 22 #[.float .f64 y] w fun e w' => e = .returned (.float .f64 (sinW y)) ∧ w = w' := by
  obtain ⟨s, m, p, hd, hw, _⟩ := small_one h
  exact sine_impl hd (h.mono (by omega)) hw w

set_option maxHeartbeats 4000000 in
theorem impl_small {y Q g c S C nS nC : Nat} (hle : (y : Int) ≤ 18446744073709551615) (hF : (!isN .f64 y && !infB y) = true) (hb : FloatKind.f64.format.order (absN y) 4841369599423283200 = some .lt)
    (hpt : ∀ w, Calls Try.prog 21 #[.float .f64 y] w fun e w' => e = .returned (.float .f64 (partW y)) ∧ w = w')
    (T : Turn Try.prog (partW y) Q g c S C nS nC) (w : World) :
    Calls Try.prog 7 #[.float .f64 y] w (CPost (cv .f64 .f32 (phA Q S C)) (cv .f64 .f32 (phB Q S C)) w) := by
  have HL : Hid ((y : Int) ≤ 18446744073709551615) := hle
  have HB : Hid (FloatKind.f64.format.order (absN y) 4841369599423283200 = some .lt) := hb
  have HF : Hid ((!isN .f64 y && !infB y) = true) := hF
  have HP := Lib.hid hpt
  clear hle hb hF hpt
  generalize partW y = f at *
  have HT := Lib.hid T
  clear T
  go_enter Try.func7, Try.ntmps7
  go_wp2_with (first | (go_at_call 17; refine (fin64_any _ HL.out _).mono ?_; rw [HF.out]; rintro e w' ⟨rfl, rfl⟩) | (go_at_call 20; refine (places_small HL.out HB.out _).mono ?_; rintro e w' ⟨rfl, rfl⟩) | (go_at_call 21; refine (HP.out _).mono ?_; rintro e w' ⟨rfl, rfl⟩))
  go_loop [3, 4] (fun x k => ∃ j : Nat, j ≤ Q ∧ k = .int .i64 (j : Int) ∧ x = .float .f64 (qk f j)) (fun _ k => (100 - intOf k).toNat)
  case atStart => exact ⟨0, by omega, by go_num, rfl⟩
  case round =>
    obtain ⟨j, hj, rfl, rfl⟩ := hrel
    have hQ4 := HT.out.le
    by_cases hlt : j < Q
    · obtain ⟨ho, hr⟩ := HT.out.go j hlt
      rcases ho with ho | ho
      all_goals
        go_wp2
        go_round
        case rel => exact ⟨j + 1, by omega, by go_num, rfl⟩
        case measure => simp [intOf]; omega
    · obtain rfl : j = Q := by omega
      have ho := HT.out.stop
      have hsub := HT.out.sub
      have hg := HT.out.hg
      have HSg := Lib.hid (fun w => sine_small HT.out.ng w)
      have HSc := Lib.hid (fun w => sine_small HT.out.nc w)
      have eS := HT.out.eS
      have eC := HT.out.eC
      have rS := HT.out.rS
      have rC := HT.out.rC
      have eA := HT.out.enS
      have eB := HT.out.enC
      have H1 := Lib.hid HT.out.fS
      have H2 := Lib.hid HT.out.fC
      have H3 := Lib.hid HT.out.fnS
      have H4 := Lib.hid HT.out.fnC
      rw [← eS] at HSg
      rw [← eC] at HSc
      rw [← hg] at ho ⊢
      have HR : Hid (phA j S C = (if j = 1 then nS else if j = 2 then nC else if j = 3 then S else C) ∧ phB j S C = (if j = 1 then C else if j = 2 then nS else if j = 3 then nC else S)) := by
        rw [eA, eB]; exact ⟨rfl, rfl⟩
      clear eA eB eS eC hg HT
      have hq : j = 0 ∨ j = 1 ∨ j = 2 ∨ j = 3 ∨ j = 4 := by omega
      rcases hq with rfl | rfl | rfl | rfl | rfl
      · go_wp2_with fail
        refine (HSc.out _).mono ?_
        rintro e w' ⟨rfl, rfl⟩
        go_wp2_with fail
        refine (HSg.out _).mono ?_
        rintro e w' ⟨rfl, rfl⟩
        go_wp2_with fail
        refine (narrow_c H2.out H1.out _).mono ?_
        rintro e w' ⟨r1, r2, n, rfl, rfl, h1, h2⟩
        go_wp2
        go_ret
        exact ⟨_, _, _, rfl, rfl, by rw [HR.out.1]; exact h1, by rw [HR.out.2]; exact h2⟩
      · go_wp2_with fail
        refine (HSc.out _).mono ?_
        rintro e w' ⟨rfl, rfl⟩
        go_wp2_with fail
        refine (HSg.out _).mono ?_
        rintro e w' ⟨rfl, rfl⟩
        go_wp2_with fail
        refine (narrow_c H3.out H2.out _).mono ?_
        rintro e w' ⟨r1, r2, n, rfl, rfl, h1, h2⟩
        go_wp2
        go_ret
        exact ⟨_, _, _, rfl, rfl, by rw [HR.out.1]; exact h1, by rw [HR.out.2]; exact h2⟩
      · go_wp2_with fail
        refine (HSc.out _).mono ?_
        rintro e w' ⟨rfl, rfl⟩
        go_wp2_with fail
        refine (HSg.out _).mono ?_
        rintro e w' ⟨rfl, rfl⟩
        go_wp2_with fail
        refine (narrow_c H4.out H3.out _).mono ?_
        rintro e w' ⟨r1, r2, n, rfl, rfl, h1, h2⟩
        go_wp2
        go_ret
        exact ⟨_, _, _, rfl, rfl, by rw [HR.out.1]; exact h1, by rw [HR.out.2]; exact h2⟩
      · go_wp2_with fail
        refine (HSc.out _).mono ?_
        rintro e w' ⟨rfl, rfl⟩
        go_wp2_with fail
        refine (HSg.out _).mono ?_
        rintro e w' ⟨rfl, rfl⟩
        go_wp2_with fail
        refine (narrow_c H1.out H4.out _).mono ?_
        rintro e w' ⟨r1, r2, n, rfl, rfl, h1, h2⟩
        go_wp2
        go_ret
        exact ⟨_, _, _, rfl, rfl, by rw [HR.out.1]; exact h1, by rw [HR.out.2]; exact h2⟩
      · go_wp2_with fail
        refine (HSc.out _).mono ?_
        rintro e w' ⟨rfl, rfl⟩
        go_wp2_with fail
        refine (HSg.out _).mono ?_
        rintro e w' ⟨rfl, rfl⟩
        go_wp2_with fail
        refine (narrow_c H2.out H1.out _).mono ?_
        rintro e w' ⟨r1, r2, n, rfl, rfl, h1, h2⟩
        go_wp2
        go_ret
        exact ⟨_, _, _, rfl, rfl, by rw [HR.out.1]; exact h1, by rw [HR.out.2]; exact h2⟩

theorem impl_big {y : Nat} (hle : (y : Int) ≤ 18446744073709551615) (hF : (!isN .f64 y && !infB y) = true)
    (hb : FloatKind.f64.format.order (absN y) 4841369599423283200 = some .eq ∨ FloatKind.f64.format.order (absN y) 4841369599423283200 = some .gt) (w : World) :
    Calls Try.prog 7 #[.float .f64 y] w (CPost 1065353216 0 w) := by
  have HL : Hid ((y : Int) ≤ 18446744073709551615) := hle
  have HB : Hid (FloatKind.f64.format.order (absN y) 4841369599423283200 = some .eq ∨ FloatKind.f64.format.order (absN y) 4841369599423283200 = some .gt) := hb
  have HF : Hid ((!isN .f64 y && !infB y) = true) := hF
  clear hle hb hF
  go_enter Try.func7, Try.ntmps7
  go_wp2_with (first | (go_at_call 17; refine (fin64_any _ HL.out _).mono ?_; rw [HF.out]; rintro e w' ⟨rfl, rfl⟩) | (go_at_call 20; refine (places_big HL.out HB.out _).mono ?_; rintro e w' ⟨rfl, rfl⟩))
  go_ret
  exact ⟨_, _, 0, rfl, rfl, Sm.refl _ _, Sm.refl _ _⟩

theorem impl_not {y : Nat} (hle : (y : Int) ≤ 18446744073709551615) (hF : (!isN .f64 y && !infB y) = false) (w : World) :
    Calls Try.prog 7 #[.float .f64 y] w (CPost (qn .f32) (qn .f32) w) := by
  have HL : Hid ((y : Int) ≤ 18446744073709551615) := hle
  have HF : Hid ((!isN .f64 y && !infB y) = false) := hF
  clear hle hF
  have e : cv .f64 .f32 9221120237041090561 = qn .f32 := cv_nan (by decide) nan_isN
  rw [← e]
  go_enter Try.func7, Try.ntmps7
  go_wp2_with (first | (go_at_call 17; refine (fin64_any _ HL.out _).mono ?_; rw [HF.out]; rintro e w' ⟨rfl, rfl⟩) | (go_at_call 19; refine (nan_any _).mono ?_; rintro e w' ⟨rfl, rfl⟩) | (go_at_call 18; refine (narrow_c (fits_nan nan_isN) (fits_nan nan_isN) _).mono ?_; rintro e w' ⟨r1, r2, n, rfl, rfl, h1, h2⟩))
  go_ret
  exact ⟨_, _, _, rfl, rfl, h1, h2⟩
end Go.Proofs.Ytclogbnecgfndab.ph
