/- PhasorOf and its model return the same at every number. -/
import Derived.Test.YtncapcflhchpmabPhW
import Derived.Test.YtncapcflhchpmabPhSW
import Derived.Test.YtncapcflhchpmabSameFloatW
import Derived.Test.YtncapcflhchpmabPost
namespace Go.Proofs.Ytncapcflhchpmab.fnExactPhasorOfW
open Go.RowKit Go.Fl Go.Proofs.Ytncapcflhchpmab.abs Go.Proofs.Ytncapcflhchpmab.nan Go.Proofs.Ytncapcflhchpmab.fin Go.Proofs.Ytncapcflhchpmab.sin Go.Proofs.Ytncapcflhchpmab.ph Go.Proofs.Ytncapcflhchpmab.sameFloat

theorem run_ff {P : Program} (b : Nat) (w : World) : ∃ r n, (Conv.floatToFloat .f32 b .f64).run P w = .ok (.float .f64 r) (w.drewN n) ∧ Sm .f64 r (cv .f32 .f64 b) := by
  cases hb : floatToFloatBits .f32 b .f64 with
  | some r => exact ⟨r, 0, run_floatToFloat w hb, .inl (by simp [cv, hb])⟩
  | none =>
    have hn : isN .f32 b = true := by
      rcases fits_wide b with h | h
      · exact h
      · rw [hb] at h; cases h
    refine ⟨(Question.nanConv .f64 b).cut (w.tape w.drawn (.nanConv .f64 b)), 1, ?_, .inr ⟨cut_nan .f64 _ _ (.inr ⟨b, rfl⟩), by rw [cv_nan (by decide) hn]; exact qn_isN .f64⟩⟩
    unfold isN at hn
    cases hde : FloatKind.f32.decode b with
    | number _ _ _ => rw [hde] at hn; cases hn
    | infinity _ => rw [hde] at hn; cases hn
    | nan a c => simp [Conv.floatToFloat, hde, Question.forced]; rfl

/-- THE WALK's LAW for a complex number made wider -/
theorem wpList_cc {P : Program} {w : World} {ops : Array Oper} {rest : List Oper} {o : Oper} {a : Act} {Q : Exit → Act → World → Prop} (hg : o.guard = none) (src dst : TypeId) (x : Operand) (ho : o.op = .convert src dst x) (b c : Nat)
    (hx : a.eval x = .complex .f32 b c) (hs : (P.underlying src).isSome = true) (hd : P.underlying dst = some (.complex .f64))
    (h : ∀ r s n, Sm .f64 r (cv .f32 .f64 b) → Sm .f64 s (cv .f32 .f64 c) → wpList P ops Q rest (a.put o.dst (.complex .f64 r s)) (w.drewN n)) : wpList P ops Q (o :: rest) a w := by
  refine wpList_plain hg fun K hK' => ?_
  obtain ⟨r, s, n, hrun, hr, hs'⟩ : ∃ r s n, (convert src dst (.complex .f32 b c)).run P w = .ok (.complex .f64 r s) (w.drewN n) ∧ Sm .f64 r (cv .f32 .f64 b) ∧ Sm .f64 s (cv .f32 .f64 c) := by
    obtain ⟨u, hs'⟩ := Option.isSome_iff_exists.1 hs
    obtain ⟨r, n, h1, hr⟩ := run_ff (P := P) b w
    obtain ⟨s, m, h2, hs2⟩ := run_ff (P := P) c (w.drewN n)
    refine ⟨r, s, n + m, ?_, hr, hs2⟩
    rw [World.drewN_drewN] at h2
    cases u <;> simp [convert, run_underlying hs', run_underlying hd, Conv.complexToComplex, h1, h2]
  unfold Oper.wp
  simp [execOp, ho, hx, hrun, Result.andThen]
  exact hK' _ _ (h r s n hr hs')

theorem same_c {a b c d : Nat} (h1 : Sm .f64 a c) (h2 : Sm .f64 b d) (w : World) :
    Calls Try.prog 23 #[.complex .f64 a b, .complex .f64 c d] w fun e w' => e = .returned (.bool true) ∧ ∃ n, w' = w.drewN n := by
  go_enter Try.func23, Try.ntmps23
  go_wp2_with (first | (go_at_call 14; refine (same_any _ _ (by first | exact h1 | exact h2) _).mono ?_; rintro e w' ⟨rfl, n, rfl⟩))
  go_ret
  exact ⟨rfl, _, rfl⟩

theorem spec_of {y u v : Nat} (h : ∀ w, Calls Try.prog 44 #[.float .f64 y] w (CPost u v w)) (w : World) :
    Calls Try.prog 21 #[.float .f64 y] w (CPost u v w) := by
  have HA := Lib.hid h
  clear h
  go_enter Try.func21, Try.ntmps21
  go_wp2_with (first | (go_at_call 44; refine (HA.out _).mono ?_; rintro e w' ⟨r1, r2, n, rfl, rfl, h1, h2⟩))
  go_ret
  exact ⟨_, _, _, rfl, rfl, h1, h2⟩

/-- a number whose whole part is small is small -/
theorem nm_whole {y : Nat} {s : Bool} {m : Nat} {p : Int} (hd : Ieee.double.read y = .number s m p) (hw : whole m p < 4503599627370496) : Nm y 53 := by
  refine ⟨s, m, p, hd, ?_⟩
  by_cases h0 : m = 0
  · exact .inl h0
  right
  unfold whole at hw
  by_cases hp : 0 ≤ p
  · rw [if_pos hp] at hw
    have h1 : p.toNat < 53 := by
      refine Classical.byContradiction fun h => ?_
      have h2 : 2 ^ 53 ≤ 2 ^ p.toNat := Nat.pow_le_pow_right (by omega) (by omega)
      have h3 : 1 * 2 ^ p.toNat ≤ m * 2 ^ p.toNat := Nat.mul_le_mul_right _ (by omega)
      omega
    refine ⟨by omega, ?_⟩
    have e : 2 ^ 53 = 2 ^ (53 - p).toNat * 2 ^ p.toNat := by rw [← Nat.pow_add]; congr 1; omega
    refine Classical.byContradiction fun h => ?_
    have h3 : 2 ^ (53 - p).toNat * 2 ^ p.toNat ≤ m * 2 ^ p.toNat := Nat.mul_le_mul_right _ (by omega)
    rw [← e] at h3
    omega
  · rw [if_neg hp] at hw
    refine ⟨by omega, ?_⟩
    have h2 : m < (m / 2 ^ (-p).toNat + 1) * 2 ^ (-p).toNat := by
      have := Nat.lt_div_mul_add (a := m) (Nat.two_pow_pos (-p).toNat)
      rw [Nat.add_mul, Nat.one_mul]; exact this
    have h3 : (m / 2 ^ (-p).toNat + 1) * 2 ^ (-p).toNat ≤ 2 ^ 53 * 2 ^ (-p).toNat := Nat.mul_le_mul_right _ (by omega)
    have e : 2 ^ 53 * 2 ^ (-p).toNat = 2 ^ (53 - p).toNat := by rw [← Nat.pow_add]; congr 1; omega
    rw [e] at h3
    omega

/-- both functions hand back the same -/
theorem both (y : Nat) (hle : (y : Int) ≤ 18446744073709551615) : ∃ u v, (∀ w, Calls Try.prog 22 #[.float .f64 y] w (CPost u v w)) ∧ (∀ w, Calls Try.prog 21 #[.float .f64 y] w (CPost u v w)) := by
  have hnot : (∀ s m p, Ieee.double.read y ≠ .number s m p) → (!isN .f64 y && !infB y) = false → ∃ u v, (∀ w, Calls Try.prog 22 #[.float .f64 y] w (CPost u v w)) ∧ (∀ w, Calls Try.prog 21 #[.float .f64 y] w (CPost u v w)) := fun h1 h2 =>
    ⟨_, _, fun w => impl_not hle h2 w, fun w => spec_of (fun w => phS.not (fun r hr => sub_self_not (k := .f64) h1 hr) w) w⟩
  cases hd : Ieee.double.read y with
  | nan s f =>
    refine hnot (by rw [hd]; simp) ?_
    have : isN .f64 y = true := by show (Ieee.double.read y).isNaN = true; rw [hd]; rfl
    rw [this]; rfl
  | infinity s =>
    refine hnot (by rw [hd]; simp) ?_
    have : infB y = true := by unfold infB; rw [hd]; rfl
    rw [this]; simp
  | number s m p =>
    clear hnot
    have h1 : isN .f64 y = false := by show (Ieee.double.read y).isNaN = false; rw [hd]; rfl
    have h2 : infB y = false := by unfold infB; rw [hd]; rfl
    have hF : (!isN .f64 y && !infB y) = true := by rw [h1, h2]; rfl
    clear h1 h2
    rcases big_cases hd with ⟨b1, b2, b3, hw⟩ | ⟨b1, b2⟩
    · have hy := nm_whole hd hw
      have hf := nm_fr hd hw
      obtain ⟨n1, n2'⟩ := nm_f1 hf
      have n2 : Nm (partW y) 0 := n2'
      obtain ⟨Q, g, c, S, C, nS, nC, T⟩ := turn_of Try.prog n2
      refine ⟨_, _, fun w => impl_small hle hF b1 (fun w => part_impl hd hy hw w) T w, fun w => spec_of (fun w => ?_) w⟩
      have hud : (Try.prog.underlying 25).isSome = true := by rw [Try.underlying25]; rfl
      refine phS.small_low (fun w => to_int hy (by omega) (by omega) _ _ hud Try.underlying2 w) (fun t w => run_nm (op := .sub) hf t w) (fun t w => run_float_arith w .sub t .f64 _ _ _ (sub_self_num (k := .f64) hd)) b2 b3 ?_ T w
      rcases ltz_cases hf with ⟨ho, hl⟩ | ⟨ho, hl⟩
      · refine .inl ⟨ho, fun t w => ?_⟩
        have e : partW y = ar .add .f64 (fr y) 4607182418800017408 := by unfold partW f1f; rw [hl]; rfl
        rw [e]; exact run_nm (n1 hl) t w
      · refine .inr ⟨ho, ?_⟩
        have e : partW y = fr y := by unfold partW f1f; rw [hl]; rfl
        exact e
    · exact ⟨_, _, fun w => impl_big hle hF b1 w, fun w => spec_of (fun w => phS.big hd b2 w) w⟩

theorem walk (a0 : Nat) (_w0 : (Lit.float .f64 a0).wf = true) (w : World) :
    Calls Try.prog 7 #[.float .f64 a0] w fun e w' => e = .returned (.bool true) ∧ Below w.heap.size w w' := by
  have huf : (Try.prog.underlying 27).isSome = true := by rw [Try.underlying27]; rfl
  obtain ⟨u, v, hi, hs⟩ := both a0 (f64_le _w0)
  have HI := Lib.hid hi
  have HS := Lib.hid hs
  clear hi hs
  go_enter Try.func7, Try.ntmps7
  go_wp2_with fail
  refine (HS.out _).mono ?_
  rintro e w' ⟨x1, x2, n, rfl, rfl, hx1, hx2⟩
  go_wp2_with fail
  refine (HI.out _).mono ?_
  rintro e w' ⟨y1, y2, n', rfl, rfl, hy1, hy2⟩
  have hA : ∀ r r', Sm .f64 r (cv .f32 .f64 y1) → Sm .f64 r' (cv .f32 .f64 x1) → Sm .f64 r r' := fun r r' h h' => by
    rw [cv_congr (by decide) (hy1.trans hx1.symm)] at h
    exact h.trans h'.symm
  have hB : ∀ r r', Sm .f64 r (cv .f32 .f64 y2) → Sm .f64 r' (cv .f32 .f64 x2) → Sm .f64 r r' := fun r r' h h' => by
    rw [cv_congr (by decide) (hy2.trans hx2.symm)] at h
    exact h.trans h'.symm
  clear hx1 hy1 hx2 hy2
  go_wp2_with (first | (refine wpList_cc rfl 27 30 _ rfl _ _ rfl huf Try.underlying30 ?_; intro r s n hr hs) | (go_at_call 23; refine (same_c (hA _ _ (by assumption) (by assumption)) (hB _ _ (by assumption) (by assumption)) _).mono ?_; rintro e w' ⟨rfl, n, rfl⟩))
  go_ret
  exact ⟨rfl, Go.Pst.below_draws ⟨_, rfl⟩⟩
end Go.Proofs.Ytncapcflhchpmab.fnExactPhasorOfW
