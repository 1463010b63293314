/- FnCircles returns true, whatever bytes it draws its turns and its eighths from. -/
import Derived.Test.YtclogbnecgfndabCirW
import Derived.Test.YtclogbnecgfndabTenQ
import Derived.Test.YtclogbnecgfndabBysDW
import Derived.Test.YtclogbnecgfndabPost
namespace Go.Proofs.Ytclogbnecgfndab.fnCirclesW
open Go.RowKit Go.Fl Go.Cr Go.Fq Go.Proofs.Ytclogbnecgfndab.circ Go.Proofs.Ytclogbnecgfndab.bys Go.Proofs.Ytclogbnecgfndab.fnExactTenthsOfW

/-- hands back one value and turns nothing -/
def Gives (f : Nat) (args : Array Value) (v : Value) : Prop := ∀ w, Calls Try.prog f args w fun e w' => e = .returned v ∧ ∃ n, w' = w.drewN n
theorem gives_of {f : Nat} {args : Array Value} {v : Value} (h : ∀ w, Calls Try.prog f args w fun e w' => e = .returned v ∧ w = w') : Gives f args v :=
  fun w => (h w).mono fun _ _ ⟨he, hw⟩ => ⟨he, 0, hw.symm⟩

/-- all that the law asks of two turns -/
structure Turns (r0 r1 y0 y1 y2 U0 V0 U1 V1 U2 V2 A Ad AN TU T2 W Wd GW M1 M2 GI UD : Nat) (IV : Int) : Prop where
  q0 : ∀ t w, (binOp .quo t (.float .f64 (floatOfInt .f64 ((r0 : Int) - 128))) (.float .f64 4634204016564240384)).run Try.prog w = .ok (.float .f64 y0) w
  q1 : ∀ t w, (binOp .quo t (.float .f64 (floatOfInt .f64 ((r1 : Int) - 128))) (.float .f64 4634204016564240384)).run Try.prog w = .ok (.float .f64 y1) w
  q2 : ∀ t w, (binOp .quo t (.float .f64 (floatOfInt .f64 ((r0 : Int) - 128 + ((r1 : Int) - 128)))) (.float .f64 4634204016564240384)).run Try.prog w = .ok (.float .f64 y2) w
  p0 : Gives 7 #[.float .f64 y0] (.complex .f32 U0 V0)
  p1 : Gives 7 #[.float .f64 y1] (.complex .f32 U1 V1)
  p2 : Gives 7 #[.float .f64 y2] (.complex .f32 U2 V2)
  ag : Gives 8 #[.complex .f32 U0 V0] (.float .f32 A)
  wa : ∀ w, (convert 28 27 (.float .f32 A)).run Try.prog w = .ok (.float .f64 Ad) w
  ma : ∀ t w, (binOp .mul t (.float .f64 Ad) (.float .f64 4634204016564240384)).run Try.prog w = .ok (.float .f64 AN) w
  sa : ∀ t w, (binOp .sub t (.float .f64 AN) (.float .f64 (floatOfInt .f64 ((r0 : Int) - 128)))).run Try.prog w = .ok (.float .f64 TU) w
  aa : ∀ t w, (binOp .add t (.float .f64 TU) (.float .f64 4666723447345250304)).run Try.prog w = .ok (.float .f64 T2) w
  ci : ∀ w, (convert 27 2 (.float .f64 T2)).run Try.prog w = .ok (.int .i64 IV) w
  i0 : 0 ≤ IV
  i1 : IV ≤ 20000
  im : (IV - 10000) % 64 = 0
  po : Gives 10 #[.complex .f32 U0 V0] (.float .f32 W)
  ww : ∀ w, (convert 28 27 (.float .f32 W)).run Try.prog w = .ok (.float .f64 Wd) w
  gw : Gives 9 #[.float .f64 Wd, .float .f64 4607182418800017408] (.float .f64 GW)
  ow : FloatKind.f64.format.order GW 4547007122018943789 = some .lt
  ml : Gives 12 #[.complex .f32 U0 V0, .complex .f32 U1 V1] (.complex .f32 M1 M2)
  nr : Gives 11 #[.complex .f32 M1 M2, .complex .f32 U2 V2, .float .f64 4547007122018943789] (.bool true)
  gi : Gives 9 #[.float .f64 TU, .float .f64 (floatOfInt .f64 (IV - 10000))] (.float .f64 GI)
  oi : FloatKind.f64.format.order GI 4562254508917369340 = some .lt
  re : ∀ w, (convert 28 27 (.float .f32 U0)).run Try.prog w = .ok (.float .f64 UD) w
  ax : ((r0 : Int) - 128) % 16 = 0 → ∃ G, Gives 9 #[.float .f64 UD, .float .f64 0] (.float .f64 G) ∧ (FloatKind.f64.format.order G 0 = some .eq ∨ FloatKind.f64.format.order G 0 = some .gt ∧ FloatKind.f64.format.order G 4607182418800017408 = some .eq)

theorem yk_run (k : Nat) (hk : k < 511) (t : TypeId) (w : World) : (binOp .quo t (.float .f64 (floatOfInt .f64 ((k : Int) - 256))) (.float .f64 4634204016564240384)).run Try.prog w = .ok (.float .f64 (yk k)) w := by
  have h1 := c1_ok ⟨k, hk⟩
  unfold c1 at h1
  simp only [Bool.and_eq_true] at h1
  exact run_float_arith w .quo t .f64 _ _ _ (okB_eq h1.1.1.1.1)

theorem turns (r0 r1 : Nat) (h0 : r0 < 256) (h1 : r1 < 256) : ∃ y0 y1 y2 U0 V0 U1 V1 U2 V2 A Ad AN TU T2 W Wd GW M1 M2 GI UD IV, Turns r0 r1 y0 y1 y2 U0 V0 U1 V1 U2 V2 A Ad AN TU T2 W Wd GW M1 M2 GI UD IV := by
  have e0 : ((r0 + 128 : Nat) : Int) - 256 = (r0 : Int) - 128 := by omega
  have e1 : ((r1 + 128 : Nat) : Int) - 256 = (r1 : Int) - 128 := by omega
  have e2 : ((r0 + r1 : Nat) : Int) - 256 = (r0 : Int) - 128 + ((r1 : Int) - 128) := by omega
  have a0 := yk_run (r0 + 128) (by omega)
  have a1 := yk_run (r1 + 128) (by omega)
  have a2 := yk_run (r0 + r1) (by omega)
  rw [e0] at a0
  rw [e1] at a1
  rw [e2] at a2
  have b0 := phasor_eq (r0 + 128) (by omega)
  have b1 := phasor_eq (r1 + 128) (by omega)
  have b2 := phasor_eq (r0 + r1) (by omega)
  have f0 : (r0 + 128) % 64 = r0 % 64 := by omega
  have f1 : (r1 + 128) % 64 = r1 % 64 := by omega
  have f2 : (r0 + r1) % 64 = (r0 % 64 + r1 % 64) % 64 := by omega
  rw [f0] at b0
  rw [f1] at b1
  rw [f2] at b2
  have hr0 : r0 % 64 < 64 := Nat.mod_lt _ (by omega)
  have hr1 : r1 % 64 < 64 := Nat.mod_lt _ (by omega)
  obtain ⟨pw1, pw2, pw3, pw4, _⟩ := power_eq (r0 % 64) hr0
  obtain ⟨m1, m2⟩ := mul_eq (r0 % 64) (r1 % 64) hr0 hr1
  have hc : c5 r0 = true := c5_ok ⟨r0, h0⟩
  unfold c5 at hc
  simp only [Bool.and_eq_true] at hc
  obtain ⟨⟨⟨⟨⟨⟨⟨⟨g1, g2⟩, g3⟩, g4⟩, g5⟩, g6⟩, g7⟩, g8⟩, g9⟩ := hc
  have g5 : floatToIntVal .f64 (t2 r0) .i64 = some (iv (t2 r0)) := by simpa using g5
  exact ⟨_, _, _, _, _, _, _, _, _, _, _, _, _, _, _, _, _, _, _, _, _, _,
    { q0 := a0, q1 := a1, q2 := a2, p0 := b0, p1 := b1, p2 := b2
      ag := angle_eq (r0 % 64) hr0
      wa := conv_run (toB_eq g1)
      ma := fun t w => run_float_arith w .mul t .f64 _ _ _ (okB_eq g2)
      sa := fun t w => run_float_arith w .sub t .f64 _ _ _ (okB_eq g3)
      aa := fun t w => run_float_arith w .add t .f64 _ _ _ (okB_eq g4)
      ci := fun w => run_convert_float_int w 27 2 .f64 .i64 (t2 r0) (iv (t2 r0)) (by rw [Try.underlying27]; rfl) Try.underlying2 g5
      i0 := of_decide_eq_true g6, i1 := of_decide_eq_true g7, im := of_decide_eq_true g8
      po := gives_of pw1, ww := conv_run pw2, gw := gives_of (gapL_call pw3), ow := gapL_lt pw3
      ml := gives_of m1, nr := gives_of m2
      gi := gives_of (gapL_call g9), oi := gapL_lt g9
      re := conv_run pw4
      ax := fun hz => by
        obtain ⟨j, hj, e⟩ : ∃ j, j < 4 ∧ r0 % 64 = 16 * j := ⟨r0 % 64 / 16, by omega, by omega⟩
        rw [e]
        have h := c7_ok ⟨j, hj⟩
        unfold c7 at h
        simp only [Bool.and_eq_true, Bool.or_eq_true] at h
        refine ⟨_, gives_of (gap_call h.1), ?_⟩
        rcases h.2 with h | h
        · exact .inl (ord_eq h)
        · exact .inr ⟨ord_eq h.1, ord_eq h.2⟩ }⟩

/-- all that it asks of two eighths -/
structure Tens (r2 r3 X Y P : Nat) (a b c : Int) : Prop where
  x1 : ∀ t w, (binOp .quo t (.float .f32 (floatOfInt .f32 (1 + (r2 : Int)))) (.float .f32 1090519040)).run Try.prog w = .ok (.float .f32 X) w
  x2 : ∀ t w, (binOp .quo t (.float .f32 (floatOfInt .f32 (1 + (r3 : Int)))) (.float .f32 1090519040)).run Try.prog w = .ok (.float .f32 Y) w
  x3 : ∀ t w, (binOp .mul t (.float .f32 X) (.float .f32 Y)).run Try.prog w = .ok (.float .f32 P) w
  t1 : Gives 13 #[.float .f32 X] (.tuple #[.int .i64 a, .bool true])
  t2 : Gives 13 #[.float .f32 Y] (.tuple #[.int .i64 b, .bool true])
  t3 : Gives 13 #[.float .f32 P] (.tuple #[.int .i64 c, .bool true])
  l1 : a + b - c ≤ 1
  l2 : c - a - b ≤ 1
  a0 : -1000 ≤ a
  a1 : a ≤ 1000
  b0 : -1000 ≤ b
  b1 : b ≤ 1000
  c0 : -1000 ≤ c
  c1 : c ≤ 1000

theorem sf_num {b n : Nat} (h : Sf b n) (h0 : n ≠ 0) : ∃ m p, Ieee.single.read b = .number false m p ∧ m ≠ 0 :=
  ⟨_, _, h, by rw [Nat.shiftLeft_eq]; exact Nat.mul_ne_zero h0 (by have := Nat.two_pow_pos (23 - n.log2); omega)⟩
theorem tens (r2 r3 : Nat) (h2 : r2 < 200) (h3 : r3 < 200) : ∃ X Y P a b c, Tens r2 r3 X Y P a b c := by
  have e2 : ((r2 + 1 : Nat) : Int) = 1 + (r2 : Int) := by omega
  have e3 : ((r3 + 1 : Nat) : Int) = 1 + (r3 : Int) := by omega
  obtain ⟨a1, a2⟩ := x8_ok (r2 + 1) (by omega) (by omega)
  obtain ⟨b1, b2⟩ := x8_ok (r3 + 1) (by omega) (by omega)
  obtain ⟨c1, c2⟩ := p8_ok (r2 + 1) (r3 + 1) (by omega) (by omega) (by omega) (by omega)
  rw [e2] at a1
  rw [e3] at b1
  obtain ⟨_, _, n1, n1'⟩ := sf_num a2 (by omega)
  obtain ⟨_, _, n2, n2'⟩ := sf_num b2 (by omega)
  obtain ⟨_, _, n3, n3'⟩ := sf_num c2 (Nat.mul_ne_zero (by omega) (by omega))
  obtain ⟨t1, t2, t3, t4, t5, t6, t7, t8⟩ := tenths_pair (r2 + 1) (r3 + 1) (by omega) (by omega) (by omega) (by omega)
  exact ⟨_, _, _, _, _, _,
    { x1 := fun t w => run_float_arith w .quo t .f32 _ _ _ a1
      x2 := fun t w => run_float_arith w .quo t .f32 _ _ _ b1
      x3 := fun t w => run_float_arith w .mul t .f32 _ _ _ c1
      t1 := fun w => impl_yes _ n1 n1' w, t2 := fun w => impl_yes _ n2 n2' w, t3 := fun w => impl_yes _ n3 n3' w
      l1 := t1, l2 := t2, a0 := t3, a1 := t4, b0 := t5, b1 := t6, c0 := t7, c1 := t8 }⟩
theorem ten_one : Gives 13 #[.float .f32 1065353216] (.tuple #[.int .i64 0, .bool true]) := by
  have hr : Ieee.single.read 1065353216 = .number false 8388608 (-23) := by decide
  intro w
  have := impl_yes 1065353216 hr (by omega) w
  rw [tn_one] at this
  exact this
theorem ang_i : Gives 8 #[.complex .f32 0 1065353216] (.float .f32 1048576000) := angle_eq 16 (by omega)

theorem tmod_of {a n : Int} (h : a % n = 0) : a.tmod n = 0 := Int.tmod_eq_zero_of_dvd (Int.dvd_of_emod_eq_zero h)
theorem tmod_not {a n : Int} (h : ¬ a % n = 0) : ¬ a.tmod n = 0 := fun h' => h (Int.emod_eq_zero_of_dvd (Int.dvd_of_tmod_eq_zero h'))

set_option maxRecDepth 100000 in
set_option maxHeartbeats 4000000 in
theorem walk (v0 v1 : Value) (w : World) (h0 : Bys w v0) (h1 : Bys w v1) :
    Calls Try.prog 3 #[v0, v1] w fun e w' => e = .returned (.bool true) ∧ Below w.heap.size w w' := by
  obtain ⟨q, hq⟩ := long_any h0 h1
  obtain ⟨r0, hr0, hr0', c0⟩ := at_any h0 0 256 (by omega) (by omega) (by omega) (by omega)
  obtain ⟨r1, hr1, hr1', c1⟩ := at_any h0 1 256 (by omega) (by omega) (by omega) (by omega)
  obtain ⟨r2, hr2, hr2', c2⟩ := at_all h1 0 200 (by omega) (by omega) (by omega) (by omega)
  obtain ⟨r3, hr3, hr3', c3⟩ := at_all h1 1 200 (by omega) (by omega) (by omega) (by omega)
  obtain ⟨r0, rfl⟩ : ∃ i : Nat, r0 = i := ⟨r0.toNat, by omega⟩
  obtain ⟨r1, rfl⟩ : ∃ i : Nat, r1 = i := ⟨r1.toNat, by omega⟩
  obtain ⟨r2, rfl⟩ : ∃ i : Nat, r2 = i := ⟨r2.toNat, by omega⟩
  obtain ⟨r3, rfl⟩ : ∃ i : Nat, r3 = i := ⟨r3.toNat, by omega⟩
  obtain ⟨y0, y1, y2, U0, V0, U1, V1, U2, V2, A, Ad, AN, TU, T2, W, Wd, GW, M1, M2, GI, UD, IV, T⟩ := turns r0 r1 (by omega) (by omega)
  obtain ⟨q0, q1, q2, p0, p1, p2, ag, wa, ma, sa, aa, ci, i0, i1, im, po, ww, gw, ow, ml, nr, gi, oi, re, ax⟩ := T
  have im := tmod_of im
  clear h0 h1
  cases q with
  | true =>
    go_enter Try.func3, Try.ntmps3
    go_wp2_with fail
    refine (hq _).mono ?_
    rintro e w' ⟨rfl, rfl⟩
    go_wp2_with fail
    go_ret
    exact ⟨rfl, Go.Pst.below_draws ⟨0, rfl⟩⟩
  | false =>
    have hA : (¬ ((r0 : Int) - 128).tmod 16 = 0) ∨ (((r0 : Int) - 128).tmod 16 = 0 ∧ ∃ G, Gives 9 #[.float .f64 UD, .float .f64 0] (.float .f64 G) ∧ FloatKind.f64.format.order G 0 = some .eq) ∨
        (((r0 : Int) - 128).tmod 16 = 0 ∧ ∃ G, Gives 9 #[.float .f64 UD, .float .f64 0] (.float .f64 G) ∧ FloatKind.f64.format.order G 0 = some .gt ∧ FloatKind.f64.format.order G 4607182418800017408 = some .eq) := by
      by_cases hz : ((r0 : Int) - 128) % 16 = 0
      · obtain ⟨G, hG, h | h⟩ := ax hz
        · exact .inr (.inl ⟨tmod_of hz, G, hG, h⟩)
        · exact .inr (.inr ⟨tmod_of hz, G, hG, h.1, h.2⟩)
      · exact .inl (tmod_not hz)
    obtain ⟨X, Y, P, ta, tb, tc, E⟩ := tens r2 r3 (by omega) (by omega)
    obtain ⟨x1, x2, x3, t1, t2, t3, l1, l2, a0, a1, b0, b1, d0, d1⟩ := E
    have t4 := ten_one
    have ai := ang_i
    clear ax
    rcases hA with hA | ⟨hA, G, hG, hG0⟩ | ⟨hA, G, hG, hG0, hG1⟩
    all_goals
      go_enter Try.func3, Try.ntmps3
      go_wp2_with fail
      refine (hq _).mono ?_
      rintro e w' ⟨rfl, rfl⟩
      go_wp2_with fail
      refine c0.mono ?_
      rintro e w' ⟨rfl, rfl⟩
      go_wp2_with fail
      refine c1.mono ?_
      rintro e w' ⟨rfl, rfl⟩
      clear hq c0 c1
      go_wp2_with fail
      refine (p0 _).mono ?_
      rintro e w' ⟨rfl, n, rfl⟩
      go_wp2_with fail
      refine (p1 _).mono ?_
      rintro e w' ⟨rfl, n, rfl⟩
      go_wp2_with fail
      refine (p2 _).mono ?_
      rintro e w' ⟨rfl, n, rfl⟩
      go_wp2_with fail
      refine (ag _).mono ?_
      rintro e w' ⟨rfl, n, rfl⟩
      go_wp2_with fail
      refine (po _).mono ?_
      rintro e w' ⟨rfl, n, rfl⟩
      go_wp2_with fail
      refine (gw _).mono ?_
      rintro e w' ⟨rfl, n, rfl⟩
      go_wp2_with fail
      refine (ml _).mono ?_
      rintro e w' ⟨rfl, n, rfl⟩
      go_wp2_with fail
      refine (nr _).mono ?_
      rintro e w' ⟨rfl, n, rfl⟩
      go_wp2_with fail
      refine (gi _).mono ?_
      rintro e w' ⟨rfl, n, rfl⟩
      go_wp2_with fail
    rotate_left
    · refine (hG _).mono ?_
      rintro e w' ⟨rfl, n, rfl⟩
      go_wp2_with fail
      refine (c2 _).mono ?_
      rintro e w' ⟨rfl, rfl⟩
      go_wp2_with fail
      refine (c3 _).mono ?_
      rintro e w' ⟨rfl, rfl⟩
      go_wp2_with fail
      refine (t1 _).mono ?_
      rintro e w' ⟨rfl, n, rfl⟩
      go_wp2_with fail
      refine (t2 _).mono ?_
      rintro e w' ⟨rfl, n, rfl⟩
      go_wp2_with fail
      refine (t3 _).mono ?_
      rintro e w' ⟨rfl, n, rfl⟩
      go_wp2_with fail
      refine (t4 _).mono ?_
      rintro e w' ⟨rfl, n, rfl⟩
      go_wp2_with fail
      refine (ai _).mono ?_
      rintro e w' ⟨rfl, n, rfl⟩
      go_wp2_with fail
      refine (same_no _).mono ?_
      rintro e w' ⟨rfl, rfl⟩
      go_wp2_with fail
      go_ret
      exact ⟨rfl, Go.Pst.below_draws ⟨_, rfl⟩⟩
    · refine (hG _).mono ?_
      rintro e w' ⟨rfl, n, rfl⟩
      go_wp2_with fail
      refine (hG _).mono ?_
      rintro e w' ⟨rfl, n, rfl⟩
      go_wp2_with fail
      refine (c2 _).mono ?_
      rintro e w' ⟨rfl, rfl⟩
      go_wp2_with fail
      refine (c3 _).mono ?_
      rintro e w' ⟨rfl, rfl⟩
      go_wp2_with fail
      refine (t1 _).mono ?_
      rintro e w' ⟨rfl, n, rfl⟩
      go_wp2_with fail
      refine (t2 _).mono ?_
      rintro e w' ⟨rfl, n, rfl⟩
      go_wp2_with fail
      refine (t3 _).mono ?_
      rintro e w' ⟨rfl, n, rfl⟩
      go_wp2_with fail
      refine (t4 _).mono ?_
      rintro e w' ⟨rfl, n, rfl⟩
      go_wp2_with fail
      refine (ai _).mono ?_
      rintro e w' ⟨rfl, n, rfl⟩
      go_wp2_with fail
      refine (same_no _).mono ?_
      rintro e w' ⟨rfl, rfl⟩
      go_wp2_with fail
      go_ret
      exact ⟨rfl, Go.Pst.below_draws ⟨_, rfl⟩⟩
    · skip
      refine (c2 _).mono ?_
      rintro e w' ⟨rfl, rfl⟩
      go_wp2_with fail
      refine (c3 _).mono ?_
      rintro e w' ⟨rfl, rfl⟩
      go_wp2_with fail
      refine (t1 _).mono ?_
      rintro e w' ⟨rfl, n, rfl⟩
      go_wp2_with fail
      refine (t2 _).mono ?_
      rintro e w' ⟨rfl, n, rfl⟩
      go_wp2_with fail
      refine (t3 _).mono ?_
      rintro e w' ⟨rfl, n, rfl⟩
      go_wp2_with fail
      refine (t4 _).mono ?_
      rintro e w' ⟨rfl, n, rfl⟩
      go_wp2_with fail
      refine (ai _).mono ?_
      rintro e w' ⟨rfl, n, rfl⟩
      go_wp2_with fail
      refine (same_no _).mono ?_
      rintro e w' ⟨rfl, rfl⟩
      go_wp2_with fail
      go_ret
      exact ⟨rfl, Go.Pst.below_draws ⟨_, rfl⟩⟩
end Go.Proofs.Ytclogbnecgfndab.fnCirclesW
