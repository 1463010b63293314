/- What the functions of the circle return at 64ths of turns. -/
import Derived.Test.YtclogbnecgfndabCirP
import Derived.Test.YtclogbnecgfndabCirM1
import Derived.Test.YtclogbnecgfndabCirM2
import Derived.Test.YtclogbnecgfndabPhW
import Derived.Test.YtclogbnecgfndabBitsW
namespace Go.Proofs.Ytclogbnecgfndab.circ
open Go.RowKit Go.Fl Go.Cr Go.Proofs.Ytclogbnecgfndab.ph Go.Proofs.Ytclogbnecgfndab.fin Go.Proofs.Ytclogbnecgfndab.nan Go.Proofs.Ytclogbnecgfndab.sin Go.Proofs.Ytclogbnecgfndab.fnExactAngleTurnsW Go.Proofs.Ytclogbnecgfndab.bits

theorem toB_eq {s d : FloatKind} {x r : Nat} (h : toB s d x r = true) : floatToFloatBits s x d = some r := by
  unfold toB at h
  simpa using h
theorem okB_eq {op : BinOp} {k : FloatKind} {x y : Nat} (h : okB op k x y = true) : floatBits op k x y = some (ar op k x y) := by
  unfold okB at h
  unfold ar
  cases hb : floatBits op k x y with
  | some r => rfl
  | none => rw [hb] at h; cases h
theorem ord_eq {o : Option Ordering} {r : Ordering} (h : (o == some r) = true) : o = some r := by simpa using h
theorem cv_of {s d : FloatKind} {x r : Nat} (h : floatToFloatBits s x d = some r) : cv s d x = r := by
  unfold cv
  rw [h]; rfl
theorem fits_of {x r : Nat} (h : floatToFloatBits .f64 x .f32 = some r) : Fits .f64 .f32 x := .inr (by rw [h]; rfl)
theorem conv_run {x r : Nat} (h : floatToFloatBits .f32 x .f64 = some r) (w : World) : (convert 28 27 (.float .f32 x)).run Try.prog w = .ok (.float .f64 r) w :=
  run_convert_float_float w 28 27 .f32 .f64 x r (by rw [Try.underlying28]; rfl) Try.underlying27 h
theorem num_isN {b : Nat} (h : isNum b = true) : isN .f32 b = false := by
  unfold isNum at h
  show (Ieee.single.read b).isNaN = false
  cases hd : Ieee.single.read b with
  | number s m p => rfl
  | infinity s => rfl
  | nan s f => rw [hd] at h; cases h

theorem whole_nm {y : Nat} {s : Bool} {m : Nat} {p : Int} (hd : Ieee.double.read y = .number s m p) (hw : whole m p < 4503599627370496) : Nm y 53 := by
  refine ⟨s, m, p, hd, ?_⟩
  by_cases h0 : m = 0
  · exact .inl h0
  right
  unfold whole at hw
  by_cases hp : 0 ≤ p
  · rw [if_pos hp] at hw
    have h1 : p.toNat < 53 := by
      refine Classical.byContradiction fun h => ?_
      have h2 : 2 ^ 53 ≤ 2 ^ p.toNat := Nat.pow_le_pow_right (by omega) (by omega)
      have h3 : 1 * 2 ^ p.toNat ≤ m * 2 ^ p.toNat := Nat.mul_le_mul_right _ (by omega)
      omega
    refine ⟨by omega, ?_⟩
    have e : 2 ^ 53 = 2 ^ (53 - p).toNat * 2 ^ p.toNat := by rw [← Nat.pow_add]; congr 1; omega
    refine Classical.byContradiction fun h => ?_
    have h3 : 2 ^ (53 - p).toNat * 2 ^ p.toNat ≤ m * 2 ^ p.toNat := Nat.mul_le_mul_right _ (by omega)
    rw [← e] at h3
    omega
  · rw [if_neg hp] at hw
    refine ⟨by omega, ?_⟩
    have h2 : m < (m / 2 ^ (-p).toNat + 1) * 2 ^ (-p).toNat := by
      have := Nat.lt_div_mul_add (a := m) (Nat.two_pow_pos (-p).toNat)
      rw [Nat.add_mul, Nat.one_mul]; exact this
    have h3 : (m / 2 ^ (-p).toNat + 1) * 2 ^ (-p).toNat ≤ 2 ^ 53 * 2 ^ (-p).toNat := Nat.mul_le_mul_right _ (by omega)
    have e : 2 ^ 53 * 2 ^ (-p).toNat = 2 ^ (53 - p).toNat := by rw [← Nat.pow_add]; congr 1; omega
    rw [e] at h3
    omega

theorem quarters {f q Q : Nat} (h1 : FloatKind.f64.format.order (qk f q) 4598175219545276416 = some .lt) (h2 : ∀ j, j < q → FloatKind.f64.format.order (qk f j) 4598175219545276416 ≠ some .lt)
    (h3 : FloatKind.f64.format.order (qk f Q) 4598175219545276416 = some .lt) (h4 : ∀ j, j < Q → geqq (qk f j)) : Q = q := by
  rcases Nat.lt_trichotomy Q q with h | h | h
  · exact absurd h3 (h2 Q h)
  · exact h
  · rcases h4 q h with h5 | h5 <;> rw [h1] at h5 <;> cases h5

/-- THE PHASOR -/
theorem phasor_eq (k : Nat) (hk : k < 511) (w : World) : Calls Try.prog 7 #[.float .f64 (yk k)] w fun e w' => e = .returned (.complex .f32 (uA (k % 64)) (vA (k % 64))) ∧ ∃ n, w' = w.drewN n := by
  have h1 := c1_ok ⟨k, hk⟩
  unfold c1 at h1
  simp only [Bool.and_eq_true] at h1
  obtain ⟨⟨⟨⟨_, g2⟩, g3⟩, g4⟩, g5⟩ := h1
  have g4 : partW (yk k) = fA (k % 64) := Nat.eq_of_beq_eq_true g4
  have g5 := Nat.le_of_ble_eq_true g5
  have g3 : FloatKind.f64.format.order (absN (yk k)) 4841369599423283200 = some .lt := ord_eq g3
  have h2 : c2 (k % 64) = true := c2_ok ⟨k % 64, Nat.mod_lt _ (by omega)⟩
  have h3 : c3 (k % 64) = true := c3_ok ⟨k % 64, Nat.mod_lt _ (by omega)⟩
  generalize k % 64 = r at *
  unfold c2 at h2
  simp only [Bool.and_eq_true, List.all_eq_true, List.mem_range] at h2
  obtain ⟨⟨⟨q1, q2⟩, q3⟩, q4⟩ := h2
  unfold c3 at h3
  simp only [Bool.and_eq_true] at h3
  obtain ⟨⟨⟨⟨_, _⟩, n1⟩, n2⟩, _⟩ := h3
  have n1 := num_isN n1
  have n2 := num_isN n2
  have q3 := toB_eq q3
  have q4 := toB_eq q4
  cases hd : Ieee.double.read (yk k) with
  | nan s f => rw [hd] at g2; cases g2
  | infinity s => rw [hd] at g2; cases g2
  | number s m p =>
    rw [hd] at g2
    have hw : whole m p < 4503599627370496 := Nat.le_of_ble_eq_true g2
    have hy := whole_nm hd hw
    obtain ⟨_, hf'⟩ := nm_f1 (nm_fr hd hw)
    have hf : Nm (partW (yk k)) 0 := hf'
    have hF : (!isN .f64 (yk k) && !infB (yk k)) = true := by
      have e1 : isN .f64 (yk k) = false := by show (Ieee.double.read (yk k)).isNaN = false; rw [hd]; rfl
      have e2 : infB (yk k) = false := by unfold infB; rw [hd]; rfl
      rw [e1, e2]; rfl
    obtain ⟨Q, g, c, S, C, nS, nC, T⟩ := turn_of Try.prog hf
    have hQ : Q = qA r := by
      refine quarters (f := partW (yk k)) ?_ ?_ T.stop (fun j hj => (T.go j hj).1)
      · rw [g4]; exact ord_eq q1
      · intro j hj
        rw [g4]
        have := q2 j hj
        simp only [Bool.not_eq_true', beq_eq_false_iff_ne, ne_eq] at this
        exact this
    have hS : S = sA r := by rw [T.eS, T.hg, hQ, g4]; rfl
    have hg : g = gA r := by rw [T.hg, hQ, g4]; rfl
    have hC : C = cA r := by
      have ec : c = ar .sub .f64 4598175219545276416 g := by
        have h5 : Nm (ar .sub .f64 4598175219545276416 g) 2 := nm_sub (nm_q25.mono (by omega)) T.ng (by omega) (by omega) (by omega)
        have h6 := run_nm (P := Try.prog) (op := .sub) h5 0 w
        have h7 := T.sub 0 w
        rw [h6] at h7
        injection h7 with h7
        injection h7 with _ h7
        exact h7.symm
      rw [T.eC, ec, hg]; rfl
    refine (impl_small (by omega) hF g3 (fun w => part_impl hd hy hw w) T w).mono ?_
    rintro e w' ⟨r1, r2, n, rfl, rfl, s1, s2⟩
    rw [hQ, hS, hC, cv_of q3] at s1
    rw [hQ, hS, hC, cv_of q4] at s2
    exact ⟨by rw [(s1.symm.eq_of_not n1).symm, (s2.symm.eq_of_not n2).symm], n, rfl⟩

/-- THE ANGLE -/
theorem angle_eq (r : Nat) (hr : r < 64) (w : World) : Calls Try.prog 8 #[.complex .f32 (uA r) (vA r)] w fun e w' => e = .returned (.float .f32 (aA r)) ∧ ∃ n, w' = w.drewN n := by
  have h3 := c3_ok ⟨r, hr⟩
  unfold c3 at h3
  simp only [Bool.and_eq_true] at h3
  obtain ⟨⟨⟨⟨g1, g2⟩, n1⟩, n2⟩, n3⟩ := h3
  have n3 := num_isN n3
  have g2 := toB_eq g2
  generalize uA r = u at *
  generalize vA r = v at *
  generalize aA r = a at *
  have hc : ∀ w, Calls Try.prog 23 #[.float .f32 v, .float .f32 u] w fun e w' => e = .returned (.float .f32 a) ∧ ∃ n, w' = w.drewN n := by
    intro w
    cases hv : Ieee.single.read v with
    | nan s f => rw [hv] at g1; cases g1
    | infinity s => rw [hv] at g1; cases g1
    | number s m p =>
      cases hu : Ieee.single.read u with
      | nan s f => rw [hv, hu] at g1; cases g1
      | infinity s => rw [hv, hu] at g1; cases g1
      | number t n q =>
        rw [hv, hu] at g1
        have hz : ¬ (m = 0 ∧ n = 0) := by
          rintro ⟨rfl, rfl⟩
          cases g1
        refine (impl_num hv hu hz w).mono ?_
        rintro e w' ⟨r1, n1, rfl, rfl, s1⟩
        rw [cv_of g2] at s1
        exact ⟨by rw [(s1.symm.eq_of_not n3).symm], n1, rfl⟩
  clear g1 g2 n1 n2 n3
  go_enter Try.func8, Try.ntmps8
  go_wp2_with fail
  refine (hc _).mono ?_
  rintro e w' ⟨rfl, n, rfl⟩
  go_wp2_with fail
  go_ret
  exact ⟨rfl, _, rfl⟩

theorem narrow_eq {x r : Nat} (h : floatToFloatBits .f64 x .f32 = some r) (w : World) : Calls Try.prog 24 #[.float .f64 x] w fun e w' => e = .returned (.float .f32 r) ∧ w = w' := by
  have hr : ∀ w, (convert 27 28 (.float .f64 x)).run Try.prog w = .ok (.float .f32 r) w := fun w =>
    run_convert_float_float w 27 28 .f64 .f32 x r (by rw [Try.underlying27]; rfl) Try.underlying28 h
  clear h
  go_enter Try.func24, Try.ntmps24
  go_wp2
  go_ret
  exact ⟨rfl, rfl⟩

/-- THE POWER -/
theorem power_eq (r : Nat) (hr : r < 64) : (∀ w, Calls Try.prog 10 #[.complex .f32 (uA r) (vA r)] w fun e w' => e = .returned (.float .f32 (wA r)) ∧ w = w') ∧
    floatToFloatBits .f32 (wA r) .f64 = some (cv .f32 .f64 (wA r)) ∧ gapL (cv .f32 .f64 (wA r)) 4607182418800017408 4547007122018943789 = true ∧ floatToFloatBits .f32 (uA r) .f64 = some (udA r) ∧ floatToFloatBits .f32 (vA r) .f64 = some (vdA r) := by
  have h := c4_ok ⟨r, hr⟩
  unfold c4 at h
  simp only [Bool.and_eq_true] at h
  obtain ⟨⟨⟨⟨⟨⟨⟨g1, g2⟩, g3⟩, g4⟩, g5⟩, g6⟩, g7⟩, g8⟩ := h
  refine ⟨fun w => ?_, toB_eq g7, g8, toB_eq g1, toB_eq g2⟩
  have r1 := conv_run (toB_eq g1)
  have r2 := conv_run (toB_eq g2)
  have r3 : ∀ t w, (binOp .mul t (.float .f64 (udA r)) (.float .f64 (udA r))).run Try.prog w = .ok (.float .f64 (ar .mul .f64 (udA r) (udA r))) w := fun t w => run_float_arith w .mul t .f64 _ _ _ (okB_eq g3)
  have r4 : ∀ t w, (binOp .mul t (.float .f64 (vdA r)) (.float .f64 (vdA r))).run Try.prog w = .ok (.float .f64 (ar .mul .f64 (vdA r) (vdA r))) w := fun t w => run_float_arith w .mul t .f64 _ _ _ (okB_eq g4)
  have r5 : ∀ t w, (binOp .add t (.float .f64 (ar .mul .f64 (udA r) (udA r))) (.float .f64 (ar .mul .f64 (vdA r) (vdA r)))).run Try.prog w = .ok (.float .f64 (pw r)) w := fun t w => run_float_arith w .add t .f64 _ _ _ (okB_eq g5)
  have r6 := narrow_eq (toB_eq g6)
  clear g1 g2 g3 g4 g5 g6 g7 g8
  generalize ar .mul .f64 (udA r) (udA r) = m1 at *
  generalize ar .mul .f64 (vdA r) (vdA r) = m2 at *
  generalize pw r = p at *
  generalize uA r = u at *
  generalize vA r = v at *
  generalize wA r = x at *
  generalize udA r = ud at *
  generalize vdA r = vd at *
  have hp : ∀ w, Calls Try.prog 25 #[.complex .f32 u v] w fun e w' => e = .returned (.float .f64 p) ∧ w = w' := by
    intro w
    go_enter Try.func25, Try.ntmps25
    go_wp2
    go_ret
    exact ⟨rfl, rfl⟩
  clear r1 r2 r3 r4 r5
  go_enter Try.func10, Try.ntmps10
  go_wp2_with fail
  refine (hp _).mono ?_
  rintro e w' ⟨rfl, rfl⟩
  go_wp2_with fail
  refine (r6 _).mono ?_
  rintro e w' ⟨rfl, rfl⟩
  go_wp2_with fail
  go_ret
  exact ⟨rfl, rfl⟩

/-- GAPS -/
theorem gap_call {a b : Nat} (h : gapB a b = true) (w : World) : Calls Try.prog 9 #[.float .f64 a, .float .f64 b] w fun e w' => e = .returned (.float .f64 (gap a b)) ∧ w = w' := by
  unfold gapB at h
  simp only [Bool.and_eq_true] at h
  obtain ⟨⟨h1, h2⟩, h3⟩ := h
  have r1 : ∀ t w, (binOp .sub t (.float .f64 b) (.float .f64 a)).run Try.prog w = .ok (.float .f64 (ar .sub .f64 b a)) w := fun t w => run_float_arith w .sub t .f64 b a _ (okB_eq h2)
  have r2 : ∀ t w, (binOp .sub t (.float .f64 a) (.float .f64 b)).run Try.prog w = .ok (.float .f64 (ar .sub .f64 a b)) w := fun t w => run_float_arith w .sub t .f64 a b _ (okB_eq h3)
  have hg : gap a b = if FloatKind.f64.format.order a b == some .lt then ar .sub .f64 b a else ar .sub .f64 a b := rfl
  have h1' : (FloatKind.f64.format.order a b).isSome = true := h1
  clear h1 h2 h3
  generalize ar .sub .f64 b a = s1 at *
  generalize ar .sub .f64 a b = s2 at *
  generalize gap a b = g at *
  subst hg
  cases ho : FloatKind.f64.format.order a b with
  | none => rw [ho] at h1'; cases h1'
  | some o =>
    clear h1'
    cases o
    all_goals
      go_enter Try.func9, Try.ntmps9
      go_wp2
      go_ret
      exact ⟨rfl, rfl⟩
theorem gapL_call {a b c : Nat} (h : gapL a b c = true) (w : World) : Calls Try.prog 9 #[.float .f64 a, .float .f64 b] w fun e w' => e = .returned (.float .f64 (gap a b)) ∧ w = w' := by
  unfold gapL at h
  simp only [Bool.and_eq_true] at h
  exact gap_call h.1 w
theorem gapL_lt {a b c : Nat} (h : gapL a b c = true) : FloatKind.f64.format.order (gap a b) c = some .lt := by
  unfold gapL at h
  simp only [Bool.and_eq_true] at h
  exact ord_eq h.2

/-- PRODUCTS -/
theorem mul_eq (r s : Nat) (hr : r < 64) (hs : s < 64) : (∀ w, Calls Try.prog 12 #[.complex .f32 (uA r) (vA r), .complex .f32 (uA s) (vA s)] w fun e w' => e = .returned (.complex .f32 (nar (mre r s)) (nar (mim r s))) ∧ w = w') ∧
    (∀ w, Calls Try.prog 11 #[.complex .f32 (nar (mre r s)) (nar (mim r s)), .complex .f32 (uA ((r + s) % 64)) (vA ((r + s) % 64)), .float .f64 4547007122018943789] w fun e w' => e = .returned (.bool true) ∧ w = w') := by
  have h : c6 r s = true := by
    by_cases h32 : r < 32
    · exact c6_1 r s (by omega) h32 hs
    · exact c6_2 r s (by omega) (by omega) hs
  unfold c6 at h
  simp only [Bool.and_eq_true] at h
  obtain ⟨⟨⟨⟨⟨⟨⟨⟨⟨⟨⟨g1, g2⟩, g3⟩, g4⟩, g5⟩, g6⟩, g7⟩, g8⟩, g9⟩, g10⟩, g11⟩, g12⟩ := h
  obtain ⟨_, _, _, a1, a2⟩ := power_eq r hr
  obtain ⟨_, _, _, b1, b2⟩ := power_eq s hs
  obtain ⟨_, _, _, t1, t2⟩ := power_eq ((r + s) % 64) (Nat.mod_lt _ (by omega))
  have k1 := conv_run a1
  have k2 := conv_run a2
  have k3 := conv_run b1
  have k4 := conv_run b2
  have k5 := conv_run t1
  have k6 := conv_run t2
  have k7 := conv_run (toB_eq g9)
  have k8 := conv_run (toB_eq g10)
  have m1 : ∀ t w, (binOp .mul t (.float .f64 (udA r)) (.float .f64 (udA s))).run Try.prog w = .ok (.float .f64 (ar .mul .f64 (udA r) (udA s))) w := fun t w => run_float_arith w .mul t .f64 _ _ _ (okB_eq g1)
  have m2 : ∀ t w, (binOp .mul t (.float .f64 (vdA r)) (.float .f64 (vdA s))).run Try.prog w = .ok (.float .f64 (ar .mul .f64 (vdA r) (vdA s))) w := fun t w => run_float_arith w .mul t .f64 _ _ _ (okB_eq g2)
  have m3 : ∀ t w, (binOp .mul t (.float .f64 (udA r)) (.float .f64 (vdA s))).run Try.prog w = .ok (.float .f64 (ar .mul .f64 (udA r) (vdA s))) w := fun t w => run_float_arith w .mul t .f64 _ _ _ (okB_eq g3)
  have m4 : ∀ t w, (binOp .mul t (.float .f64 (vdA r)) (.float .f64 (udA s))).run Try.prog w = .ok (.float .f64 (ar .mul .f64 (vdA r) (udA s))) w := fun t w => run_float_arith w .mul t .f64 _ _ _ (okB_eq g4)
  have m5 : ∀ t w, (binOp .sub t (.float .f64 (ar .mul .f64 (udA r) (udA s))) (.float .f64 (ar .mul .f64 (vdA r) (vdA s)))).run Try.prog w = .ok (.float .f64 (mre r s)) w := fun t w => run_float_arith w .sub t .f64 _ _ _ (okB_eq g5)
  have m6 : ∀ t w, (binOp .add t (.float .f64 (ar .mul .f64 (udA r) (vdA s))) (.float .f64 (ar .mul .f64 (vdA r) (udA s)))).run Try.prog w = .ok (.float .f64 (mim r s)) w := fun t w => run_float_arith w .add t .f64 _ _ _ (okB_eq g6)
  have q1 := narrow_eq (toB_eq g7)
  have q2 := narrow_eq (toB_eq g8)
  have z1 := gapL_call g11
  have z2 := gapL_call g12
  have o1 := gapL_lt g11
  have o2 := gapL_lt g12
  clear g1 g2 g3 g4 g5 g6 g7 g8 g9 g10 g11 g12 a1 a2 b1 b2 t1 t2
  generalize gap (cv .f32 .f64 (nar (mre r s))) (udA ((r + s) % 64)) = G1 at *
  generalize gap (cv .f32 .f64 (nar (mim r s))) (vdA ((r + s) % 64)) = G2 at *
  generalize cv .f32 .f64 (nar (mre r s)) = N1 at *
  generalize cv .f32 .f64 (nar (mim r s)) = N2 at *
  generalize nar (mre r s) = R1 at *
  generalize nar (mim r s) = R2 at *
  generalize mre r s = M1 at *
  generalize mim r s = M2 at *
  generalize ar .mul .f64 (udA r) (udA s) = p1 at *
  generalize ar .mul .f64 (vdA r) (vdA s) = p2 at *
  generalize ar .mul .f64 (udA r) (vdA s) = p3 at *
  generalize ar .mul .f64 (vdA r) (udA s) = p4 at *
  generalize uA ((r + s) % 64) = ut at *
  generalize vA ((r + s) % 64) = vt at *
  generalize udA ((r + s) % 64) = udt at *
  generalize vdA ((r + s) % 64) = vdt at *
  generalize uA r = ur at *
  generalize vA r = vr at *
  generalize uA s = us at *
  generalize vA s = vs at *
  generalize udA r = udr at *
  generalize vdA r = vdr at *
  generalize udA s = uds at *
  generalize vdA s = vds at *
  constructor
  · intro w
    have hwp : ∀ w, Calls Try.prog 26 #[.complex .f32 ur vr, .complex .f32 us vs] w fun e w' => e = .returned (.complex .f64 M1 M2) ∧ w = w' := by
      intro w
      go_enter Try.func26, Try.ntmps26
      go_wp2
      go_ret
      exact ⟨rfl, rfl⟩
    have hnc : ∀ w, Calls Try.prog 18 #[.complex .f64 M1 M2] w fun e w' => e = .returned (.complex .f32 R1 R2) ∧ w = w' := by
      intro w
      go_enter Try.func18, Try.ntmps18
      go_wp2_with fail
      refine (q1 _).mono ?_
      rintro e w' ⟨rfl, rfl⟩
      go_wp2_with fail
      refine (q2 _).mono ?_
      rintro e w' ⟨rfl, rfl⟩
      go_wp2_with fail
      go_ret
      exact ⟨rfl, rfl⟩
    clear k1 k2 k3 k4 k5 k6 k7 k8 m1 m2 m3 m4 m5 m6 q1 q2 z1 z2 o1 o2
    go_enter Try.func12, Try.ntmps12
    go_wp2_with fail
    refine (hwp _).mono ?_
    rintro e w' ⟨rfl, rfl⟩
    go_wp2_with fail
    refine (hnc _).mono ?_
    rintro e w' ⟨rfl, rfl⟩
    go_wp2_with fail
    go_ret
    exact ⟨rfl, rfl⟩
  · intro w
    clear k1 k2 k3 k4 m1 m2 m3 m4 m5 m6 q1 q2
    go_enter Try.func11, Try.ntmps11
    go_wp2_with fail
    refine (z1 _).mono ?_
    rintro e w' ⟨rfl, rfl⟩
    go_wp2_with fail
    refine (z2 _).mono ?_
    rintro e w' ⟨rfl, rfl⟩
    go_wp2_with fail
    go_ret
    exact ⟨rfl, rfl⟩

/-- not the same number -/
theorem same_no (w : World) : Calls Try.prog 14 #[.float .f32 1048576000, .float .f32 0] w fun e w' => e = .returned (.bool false) ∧ w = w' := by
  have b1 := bits_spec 1048576000 (by omega)
  have b2 := bits_spec 0 (by omega)
  have e1 : bitsOf 1048576000 = 1048576000 := by decide
  have e2 : bitsOf 0 = 0 := by decide
  rw [e1] at b1
  rw [e2] at b2
  have hs : ∀ w, Calls Try.prog 30 #[.float .f32 1048576000, .float .f32 0] w fun e w' => e = .returned (.bool false) ∧ w = w' := by
    intro w
    go_enter Try.func30, Try.ntmps30
    go_wp2_with fail
    refine (b1 _).mono ?_
    rintro e w' ⟨rfl, rfl⟩
    go_wp2_with fail
    refine (b2 _).mono ?_
    rintro e w' ⟨rfl, rfl⟩
    go_wp2_with fail
    go_ret
    exact ⟨rfl, rfl⟩
  clear b1 b2 e1 e2
  go_enter Try.func14, Try.ntmps14
  go_wp2_with fail
  refine (hs _).mono ?_
  rintro e w' ⟨rfl, rfl⟩
  go_wp2_with fail
  go_ret
  exact ⟨rfl, rfl⟩
end Go.Proofs.Ytclogbnecgfndab.circ
