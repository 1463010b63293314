/- The point of the unit circle, in the model. -/
import Derived.Test.YtncapcflhchpmabSinSW
import Derived.Test.YtncapcflhchpmabPhT
namespace Go.Proofs.Ytncapcflhchpmab.phS
open Go.RowKit Go.Fl Go.Proofs.Ytncapcflhchpmab.abs Go.Proofs.Ytncapcflhchpmab.nan Go.Proofs.Ytncapcflhchpmab.fin Go.Proofs.Ytncapcflhchpmab.sin Go.Proofs.Ytncapcflhchpmab.ph

theorem sine_small {y : Nat} (h : Nm y 1) (w : World) : Calls Try.prog 63 #[.float .f64 y] w fun e w' => e = .returned (.float .f64 (sinW y)) ∧ w = w' := by
  obtain ⟨s, m, p, hd, hw, b1, b2⟩ := small_one h
  exact sinS.wide_any hd (h.mono (by omega)) hw b1 b2 w

theorem call_from (b : Nat) (w : World) : (callFunc 72 #[.int .u32 (b : Int)]).run Try.prog w = .ok (.value (.float .f32 b)) w := by
  rw [run_callFunc_extern Try.func72 (by kernel_rfl) (by kernel_rfl) (by kernel_rfl) (e := Extern.MathFloatBits.float32frombits) (by kernel_rfl)]
  rfl
theorem from_nan (w : World) :
    Calls Try.prog 62 #[.int .i64 2143289344] w fun e w' => e = .returned (.float .f32 2143289344) ∧ w = w' := by
  have h : ∀ w, (callFunc 72 #[.int .u32 2143289344]).run Try.prog w = .ok (.value (.float .f32 2143289344)) w := fun w => call_from 2143289344 w
  go_enter Try.func62, Try.ntmps62
  go_wp2
  go_ret
  exact ⟨rfl, rfl⟩

set_option maxHeartbeats 4000000 in
/-- from the quarters on -/
theorem small_low {y h f Q g c S C nS nC : Nat} (hc : ∀ w, (convert 25 2 (.float .f64 y)).run Try.prog w = .ok (.int .i64 (trunc y)) w)
    (o1 : ∀ t w, (binOp .sub t (.float .f64 y) (.float .f64 (floatOfInt .f64 (trunc y)))).run Try.prog w = .ok (.float .f64 h) w)
    (hs : ∀ t w, (binOp .sub t (.float .f64 y) (.float .f64 y)).run Try.prog w = .ok (.float .f64 0) w)
    (hb1 : FloatKind.f64.format.order y 4841369599423283200 = some .lt) (hb2 : FloatKind.f64.format.order y 14064741636278059008 = some .gt)
    (ho : (FloatKind.f64.format.order h 0 = some .lt ∧ ∀ t w, (binOp .add t (.float .f64 h) (.float .f64 4607182418800017408)).run Try.prog w = .ok (.float .f64 f) w) ∨ ((FloatKind.f64.format.order h 0 = some .eq ∨ FloatKind.f64.format.order h 0 = some .gt) ∧ f = h))
    (T : Turn Try.prog f Q g c S C nS nC) (w : World) :
    Calls Try.prog 44 #[.float .f64 y] w (CPost (cv .f64 .f32 (phA Q S C)) (cv .f64 .f32 (phB Q S C)) w) := by
  have h00 : FloatKind.f64.format.order 0 0 = some .eq := by decide
  have HT := Lib.hid T
  clear T
  rcases ho with ⟨ho, o2⟩ | ⟨ho | ho, rfl⟩
  all_goals
    go_enter Try.func44, Try.ntmps44
    go_wp2
    go_loop [3, 4] (fun x k => ∃ j : Nat, j ≤ Q ∧ k = .int .i64 (j : Int) ∧ x = .float .f64 (qk f j)) (fun _ k => (100 - intOf k).toNat)
    case atStart => exact ⟨0, by omega, by go_num, rfl⟩
    case round =>
      obtain ⟨j, hj, rfl, rfl⟩ := hrel
      have hQ4 := HT.out.le
      clear hc o1 hs hb1 hb2 ho
      by_cases hlt : j < Q
      · obtain ⟨ho, hr⟩ := HT.out.go j hlt
        rcases ho with ho | ho
        all_goals
          go_wp2
          go_round
          case rel => exact ⟨j + 1, by omega, by go_num, rfl⟩
          case measure => simp [intOf]; omega
      · obtain rfl : j = Q := by omega
        have ho := HT.out.stop
        have hsub := HT.out.sub
        have hg := HT.out.hg
        have HSg := Lib.hid (fun w => sine_small HT.out.ng w)
        have HSc := Lib.hid (fun w => sine_small HT.out.nc w)
        have eS := HT.out.eS
        have eC := HT.out.eC
        have rS := HT.out.rS
        have rC := HT.out.rC
        have eA := HT.out.enS
        have eB := HT.out.enC
        have H1 := Lib.hid HT.out.fS
        have H2 := Lib.hid HT.out.fC
        have H3 := Lib.hid HT.out.fnS
        have H4 := Lib.hid HT.out.fnC
        rw [← eS] at HSg
        rw [← eC] at HSc
        rw [← hg] at ho ⊢
        have HR : Hid (phA j S C = (if j = 1 then nS else if j = 2 then nC else if j = 3 then S else C) ∧ phB j S C = (if j = 1 then C else if j = 2 then nS else if j = 3 then nC else S)) := by
          rw [eA, eB]; exact ⟨rfl, rfl⟩
        clear eA eB eS eC hg HT
        have hq : j = 0 ∨ j = 1 ∨ j = 2 ∨ j = 3 ∨ j = 4 := by omega
        rcases hq with rfl | rfl | rfl | rfl | rfl
        · go_wp2_with fail
          refine (HSc.out _).mono ?_
          rintro e w' ⟨rfl, rfl⟩
          go_wp2_with fail
          refine (HSg.out _).mono ?_
          rintro e w' ⟨rfl, rfl⟩
          go_wp2_with fail
          refine (nan.narrow_spec H2.out _).mono ?_
          rintro e w' ⟨r1, n1, rfl, rfl, h1⟩
          go_wp2_with fail
          refine (nan.narrow_spec H1.out _).mono ?_
          rintro e w' ⟨r2, n2, rfl, rfl, h2⟩
          go_wp2
          go_ret
          exact ⟨_, _, _, rfl, rfl, by rw [HR.out.1]; exact h1, by rw [HR.out.2]; exact h2⟩
        · go_wp2_with fail
          refine (HSc.out _).mono ?_
          rintro e w' ⟨rfl, rfl⟩
          go_wp2_with fail
          refine (HSg.out _).mono ?_
          rintro e w' ⟨rfl, rfl⟩
          go_wp2_with fail
          refine (nan.narrow_spec H3.out _).mono ?_
          rintro e w' ⟨r1, n1, rfl, rfl, h1⟩
          go_wp2_with fail
          refine (nan.narrow_spec H2.out _).mono ?_
          rintro e w' ⟨r2, n2, rfl, rfl, h2⟩
          go_wp2
          go_ret
          exact ⟨_, _, _, rfl, rfl, by rw [HR.out.1]; exact h1, by rw [HR.out.2]; exact h2⟩
        · go_wp2_with fail
          refine (HSc.out _).mono ?_
          rintro e w' ⟨rfl, rfl⟩
          go_wp2_with fail
          refine (HSg.out _).mono ?_
          rintro e w' ⟨rfl, rfl⟩
          go_wp2_with fail
          refine (nan.narrow_spec H4.out _).mono ?_
          rintro e w' ⟨r1, n1, rfl, rfl, h1⟩
          go_wp2_with fail
          refine (nan.narrow_spec H3.out _).mono ?_
          rintro e w' ⟨r2, n2, rfl, rfl, h2⟩
          go_wp2
          go_ret
          exact ⟨_, _, _, rfl, rfl, by rw [HR.out.1]; exact h1, by rw [HR.out.2]; exact h2⟩
        · go_wp2_with fail
          refine (HSc.out _).mono ?_
          rintro e w' ⟨rfl, rfl⟩
          go_wp2_with fail
          refine (HSg.out _).mono ?_
          rintro e w' ⟨rfl, rfl⟩
          go_wp2_with fail
          refine (nan.narrow_spec H1.out _).mono ?_
          rintro e w' ⟨r1, n1, rfl, rfl, h1⟩
          go_wp2_with fail
          refine (nan.narrow_spec H4.out _).mono ?_
          rintro e w' ⟨r2, n2, rfl, rfl, h2⟩
          go_wp2
          go_ret
          exact ⟨_, _, _, rfl, rfl, by rw [HR.out.1]; exact h1, by rw [HR.out.2]; exact h2⟩
        · go_wp2_with fail
          refine (HSc.out _).mono ?_
          rintro e w' ⟨rfl, rfl⟩
          go_wp2_with fail
          refine (HSg.out _).mono ?_
          rintro e w' ⟨rfl, rfl⟩
          go_wp2_with fail
          refine (nan.narrow_spec H2.out _).mono ?_
          rintro e w' ⟨r1, n1, rfl, rfl, h1⟩
          go_wp2_with fail
          refine (nan.narrow_spec H1.out _).mono ?_
          rintro e w' ⟨r2, n2, rfl, rfl, h2⟩
          go_wp2
          go_ret
          exact ⟨_, _, _, rfl, rfl, by rw [HR.out.1]; exact h1, by rw [HR.out.2]; exact h2⟩

theorem big {y : Nat} {s : Bool} {m : Nat} {p : Int} (hd : Ieee.double.read y = .number s m p)
    (h : (FloatKind.f64.format.order y 4841369599423283200 = some .eq ∨ FloatKind.f64.format.order y 4841369599423283200 = some .gt) ∨ (FloatKind.f64.format.order y 4841369599423283200 = some .lt ∧ (FloatKind.f64.format.order y 14064741636278059008 = some .lt ∨ FloatKind.f64.format.order y 14064741636278059008 = some .eq))) (w : World) :
    Calls Try.prog 44 #[.float .f64 y] w (CPost 1065353216 0 w) := by
  have hs : ∀ t w, (binOp .sub t (.float .f64 y) (.float .f64 y)).run Try.prog w = .ok (.float .f64 0) w := fun t w => run_float_arith w .sub t .f64 _ _ _ (sub_self_num (k := .f64) hd)
  have h00 : FloatKind.f64.format.order 0 0 = some .eq := by decide
  clear hd
  rcases h with (ho | ho) | ⟨ho, ho' | ho'⟩
  all_goals
    go_enter Try.func44, Try.ntmps44
    go_wp2
    go_ret
    exact ⟨_, _, 0, rfl, rfl, Sm.refl _ _, Sm.refl _ _⟩

theorem not {y : Nat} (hY : ∀ r, Sm .f64 r (ar .sub .f64 y y) → FloatKind.f64.format.order r 0 = none) (w : World) :
    Calls Try.prog 44 #[.float .f64 y] w (CPost (qn .f32) (qn .f32) w) := by
  go_enter Try.func44, Try.ntmps44
  go_wp2_with (first | (refine wpList_ar rfl .sub 25 25 _ _ rfl (by simp) .f64 _ _ rfl rfl ?_; intro r n hr hw; have ho := hY r hr; clear hr hw) | (go_at_call 62; refine (from_nan _).mono ?_; rintro e w' ⟨rfl, rfl⟩))
  go_ret
  exact ⟨_, _, _, rfl, rfl, Sm.refl _ _, Sm.refl _ _⟩
end Go.Proofs.Ytncapcflhchpmab.phS
