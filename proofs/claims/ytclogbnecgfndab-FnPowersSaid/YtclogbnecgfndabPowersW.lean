/- FnPowers returns true, whatever bytes it draws its two eighths from. -/
import Derived.Test.YtclogbnecgfndabPowersP
import Derived.Test.YtclogbnecgfndabBysW
import Derived.Test.YtclogbnecgfndabPost
namespace Go.Proofs.Ytclogbnecgfndab.fnPowersW
open Go.RowKit Go.Fl Go.Proofs.Ytclogbnecgfndab.powers Go.Proofs.Ytclogbnecgfndab.bys

/-- all that the law asks of two eighths -/
structure Pack (i j X Y Z A B C WA WB WC L ML YX M G1 H G2 : Nat) : Prop where
  rx : ∀ t w, (binOp .quo t (.float .f32 (floatOfInt .f32 ((i : Int) - 32))) (.float .f32 1090519040)).run Try.prog w = .ok (.float .f32 X) w
  ry : ∀ t w, (binOp .quo t (.float .f32 (floatOfInt .f32 ((j : Int) - 32))) (.float .f32 1090519040)).run Try.prog w = .ok (.float .f32 Y) w
  rz : ∀ t w, (binOp .add t (.float .f32 X) (.float .f32 Y)).run Try.prog w = .ok (.float .f32 Z) w
  ea : ∀ w, Calls Try.prog 15 #[.float .f32 X] w fun e w' => e = .returned (.float .f32 A) ∧ ∃ n, w' = w.drewN n
  eb : ∀ w, Calls Try.prog 15 #[.float .f32 Y] w fun e w' => e = .returned (.float .f32 B) ∧ ∃ n, w' = w.drewN n
  ec : ∀ w, Calls Try.prog 15 #[.float .f32 Z] w fun e w' => e = .returned (.float .f32 C) ∧ ∃ n, w' = w.drewN n
  la : ∀ w, Calls Try.prog 16 #[.float .f32 A] w fun e w' => e = .returned (.float .f32 L) ∧ ∃ n, w' = w.drewN n
  wl : ∀ w, (convert 28 27 (.float .f32 L)).run Try.prog w = .ok (.float .f64 ML) w
  wx : ∀ w, (convert 28 27 (.float .f32 X)).run Try.prog w = .ok (.float .f64 YX) w
  wa : ∀ w, (convert 28 27 (.float .f32 A)).run Try.prog w = .ok (.float .f64 WA) w
  wb : ∀ w, (convert 28 27 (.float .f32 B)).run Try.prog w = .ok (.float .f64 WB) w
  wc : ∀ w, (convert 28 27 (.float .f32 C)).run Try.prog w = .ok (.float .f64 WC) w
  g1 : ∀ w, Calls Try.prog 9 #[.float .f64 ML, .float .f64 YX] w fun e w' => e = .returned (.float .f64 G1) ∧ w = w'
  o1 : FloatKind.f64.format.order G1 4562254508917369340 = some .lt
  rm : ∀ t w, (binOp .mul t (.float .f64 WA) (.float .f64 WB)).run Try.prog w = .ok (.float .f64 M) w
  g2 : ∀ w, Calls Try.prog 9 #[.float .f64 M, .float .f64 WC] w fun e w' => e = .returned (.float .f64 G2) ∧ w = w'
  rh : ∀ t w, (binOp .mul t (.float .f64 4562254508917369340) (.float .f64 WC)).run Try.prog w = .ok (.float .f64 H) w
  o2 : FloatKind.f64.format.order G2 H = some .lt
  o3 : FloatKind.f32.format.order A 0 = some .gt

theorem gap_lt {a b c : Nat} (h : gapLt a b c = true) : FloatKind.f64.format.order (gap a b) c = some .lt := by
  unfold gapLt at h
  exact ord_eq (and2 h).2

theorem conv_run {x r : Nat} (h : floatToFloatBits .f32 x .f64 = some r) (w : World) : (convert 28 27 (.float .f32 x)).run Try.prog w = .ok (.float .f64 r) w :=
  run_convert_float_float w 28 27 .f32 .f64 x r (by rw [Try.underlying28]; rfl) Try.underlying27 h

theorem pack (i j : Nat) (hi : i < 65) (hj : j < 65) : ∃ X Y Z A B C WA WB WC L ML YX M G1 H G2 : Nat, Pack i j X Y Z A B C WA WB WC L ML YX M G1 H G2 := by
  have hp : pair i j = true := tab_pair ⟨i, hi⟩ ⟨j, hj⟩
  unfold pair at hp
  obtain ⟨p1, p2, p3⟩ := and3 hp
  have hl : gapLt (mA i) (yA i) 4562254508917369340 = true := tab_log ⟨i, hi⟩
  obtain ⟨y1, y2⟩ := and2 (tab_y ⟨i, hi⟩)
  obtain ⟨x1, _, _⟩ := facts_x (i + 32) (by omega)
  obtain ⟨x2, _, _⟩ := facts_x (j + 32) (by omega)
  have e1 : ((i + 32 : Nat) : Int) - 64 = (i : Int) - 32 := by omega
  have e2 : ((j + 32 : Nat) : Int) - 64 = (j : Int) - 32 := by omega
  rw [e1] at x1
  rw [e2] at x2
  obtain ⟨a1, _, a3⟩ := facts_w (i + 32) (by omega)
  obtain ⟨b1, _, _⟩ := facts_w (j + 32) (by omega)
  obtain ⟨c1, c2, _⟩ := facts_w (i + j) (by omega)
  exact ⟨xA (i + 32), xA (j + 32), xA (i + j), eA (i + 32), eA (j + 32), eA (i + j), wA (i + 32), wA (j + 32), wA (i + j), lA i, mA i, yA i, ar .mul .f64 (wA (i + 32)) (wA (j + 32)), gap (mA i) (yA i), hA (i + j), gap (ar .mul .f64 (wA (i + 32)) (wA (j + 32))) (wA (i + j)),
    { rx := fun t w => run_float_arith w .quo t .f32 _ _ _ x1
      ry := fun t w => run_float_arith w .quo t .f32 _ _ _ x2
      rz := fun t w => run_float_arith w .add t .f32 _ _ _ (tells_eq p1)
      ea := exp_eq (i + 32) (by omega)
      eb := exp_eq (j + 32) (by omega)
      ec := exp_eq (i + j) (by omega)
      la := log_eq i hi
      wl := conv_run (turns_eq y1)
      wx := conv_run (turns_eq y2)
      wa := conv_run a1
      wb := conv_run b1
      wc := conv_run c1
      g1 := gap_call hl
      o1 := gap_lt hl
      rm := fun t w => run_float_arith w .mul t .f64 _ _ _ (some_ar p2)
      g2 := gap_call p3
      rh := fun t w => run_float_arith w .mul t .f64 _ _ _ c2
      o2 := gap_lt p3
      o3 := a3 }⟩

theorem exp_zero (w : World) : Calls Try.prog 15 #[.float .f32 0] w fun e w' => e = .returned (.float .f32 1065353216) ∧ ∃ n, w' = w.drewN n := exp_eq 64 (by omega) w
theorem log_one (w : World) : Calls Try.prog 16 #[.float .f32 1065353216] w fun e w' => e = .returned (.float .f32 0) ∧ ∃ n, w' = w.drewN n := log_eq 32 (by omega) w
theorem o_one : FloatKind.f32.format.order 1065353216 1065353216 = some .eq := by decide
theorem o_zero : FloatKind.f32.format.order 0 0 = some .eq := by decide

theorem walk (v0 v1 : Value) (w : World) (h0 : Bys w v0) (h1 : Bys w v1) :
    Calls Try.prog 4 #[v0, v1] w fun e w' => e = .returned (.bool true) ∧ Below w.heap.size w w' := by
  obtain ⟨q, hq⟩ := long_any h0 h1
  obtain ⟨r0, hr0, hr0', c0⟩ := at_any h0 0 65 (by omega) (by omega) (by omega) (by omega)
  obtain ⟨r1, hr1, hr1', c1⟩ := at_any h1 0 65 (by omega) (by omega) (by omega) (by omega)
  obtain ⟨i, rfl⟩ : ∃ i : Nat, r0 = i := ⟨r0.toNat, by omega⟩
  obtain ⟨j, rfl⟩ : ∃ j : Nat, r1 = j := ⟨r1.toNat, by omega⟩
  obtain ⟨X, Y, Z, A, B, C, WA, WB, WC, L, ML, YX, M, G1, H, G2, P⟩ := pack i j (by omega) (by omega)
  obtain ⟨rx, ry, rz, ea, eb, ec, la, wl, wx, wa, wb, wc, g1, o1, rm, g2, rh, o2, o3⟩ := P
  have z1 := o_one
  have z2 := o_zero
  clear h0 h1
  cases q with
  | true =>
    go_enter Try.func4, Try.ntmps4
    go_wp2_with fail
    refine (hq _).mono ?_
    rintro e w' ⟨rfl, rfl⟩
    go_wp2_with fail
    go_ret
    exact ⟨rfl, Go.Pst.below_draws ⟨0, rfl⟩⟩
  | false =>
    go_enter Try.func4, Try.ntmps4
    go_wp2_with fail
    refine (hq _).mono ?_
    rintro e w' ⟨rfl, rfl⟩
    go_wp2_with fail
    refine c0.mono ?_
    rintro e w' ⟨rfl, rfl⟩
    go_wp2_with fail
    refine c1.mono ?_
    rintro e w' ⟨rfl, rfl⟩
    clear hq c0 c1
    go_wp2_with fail
    refine (ea _).mono ?_
    rintro e w' ⟨rfl, n1, rfl⟩
    go_wp2_with fail
    refine (eb _).mono ?_
    rintro e w' ⟨rfl, n2, rfl⟩
    go_wp2_with fail
    refine (ec _).mono ?_
    rintro e w' ⟨rfl, n3, rfl⟩
    go_wp2_with fail
    refine (la _).mono ?_
    rintro e w' ⟨rfl, n4, rfl⟩
    go_wp2_with fail
    refine (g1 _).mono ?_
    rintro e w' ⟨rfl, rfl⟩
    go_wp2_with fail
    refine (g2 _).mono ?_
    rintro e w' ⟨rfl, rfl⟩
    go_wp2_with fail
    refine (exp_zero _).mono ?_
    rintro e w' ⟨rfl, n5, rfl⟩
    go_wp2_with fail
    refine (log_one _).mono ?_
    rintro e w' ⟨rfl, n6, rfl⟩
    go_wp2_with fail
    go_ret
    exact ⟨rfl, Go.Pst.below_draws ⟨_, rfl⟩⟩
end Go.Proofs.Ytclogbnecgfndab.fnPowersW
