/- AngleTurns and its model return the same at every two numbers. -/
import Derived.Test.YtncapcflhchpmabSlopeW
import Derived.Test.YtncapcflhchpmabAngleSW
import Derived.Test.YtncapcflhchpmabNanW
import Derived.Test.YtncapcflhchpmabFinW
import Derived.Test.YtncapcflhchpmabSameFloatW
import Derived.Test.YtncapcflhchpmabPost
import Derived.Lib.Hide
namespace Go.Proofs.Ytncapcflhchpmab.fnExactAngleTurnsW
open Go.RowKit Go.Fl Go.Proofs.Ytncapcflhchpmab.abs Go.Proofs.Ytncapcflhchpmab.nan Go.Proofs.Ytncapcflhchpmab.fin Go.Proofs.Ytncapcflhchpmab.slope Go.Proofs.Ytncapcflhchpmab.sameFloat

def neg4 (b : Bool) (a : Nat) : Nat := if b then Op.negFloat .f64 a else a

/-- what hands back a number that is the same -/
def SmPost (v : Nat) (w : World) (e : Ending) (w' : World) : Prop := ∃ r n, e = .returned (.float .f32 r) ∧ w' = w.drewN n ∧ Sm .f32 r v

set_option maxHeartbeats 4000000 in
theorem impl_core (y x Y X A B t0 e2 e3 : Nat) (st bx bn zy : Bool) (hY : Y = cv .f32 .f64 y) (hX : X = cv .f32 .f64 x) (hA : A = absN Y) (hB : B = absN X)
    (hNy : isN .f64 Y = false) (hNx : isN .f64 X = false) (hFy : fin y = true) (hFx : fin x = true)
    (hst : (FloatKind.f64.format.order A B == some .gt) = st) (hox : (FloatKind.f32.format.order x 0 == some .lt) = bx) (hoy : (FloatKind.f32.format.order y 0 == some .lt) = bn)
    (hzy : (FloatKind.f32.format.order y 0 == some .eq) = zy) (hzx : zy = true → (FloatKind.f32.format.order x 0 == some .eq) = false)
    (hq : ∀ t w, (binOp .quo t (.float .f64 (if st then B else A)) (.float .f64 (if st then A else B))).run Try.prog w = .ok (.float .f64 t0) w) (ht : Nm t0 0)
    (h2 : ∀ t w, (binOp .sub t (.float .f64 4598175219545276416) (.float .f64 (slp t0))).run Try.prog w = .ok (.float .f64 e2) w)
    (h3 : ∀ t w, (binOp .sub t (.float .f64 4602678819172646912) (.float .f64 (if st then e2 else slp t0))).run Try.prog w = .ok (.float .f64 e3) w)
    (hfit : Fits .f64 .f32 (neg4 bn (if bx then e3 else if st then e2 else slp t0))) (w : World) :
    Calls Try.prog 25 #[.float .f32 y, .float .f32 x] w (SmPost (cv .f64 .f32 (neg4 bn (if bx then e3 else if st then e2 else slp t0))) w) := by
  have huf : (Try.prog.underlying 22).isSome = true := by rw [Try.underlying22]; rfl
  have HFy : Hid (fin y = true) := hFy
  have HFx : Hid (fin x = true) := hFx
  have HYN : Hid (isN .f64 (cv .f32 .f64 y) = false) := by rw [← hY]; exact hNy
  have HXN : Hid (isN .f64 (cv .f32 .f64 x) = false) := by rw [← hX]; exact hNx
  have HT : Hid (Nm t0 0) := ht
  have hneg : ∀ (b : Nat) (w : World), (Op.unary .neg (.float .f64 b)).run Try.prog w = .ok (.float .f64 (Op.negFloat .f64 b)) w := fun _ _ => rfl
  subst hY hX hA hB
  clear hFy hFx hNy hNx ht
  cases zy
  all_goals
    first | (have hzx' := hzx rfl; clear hzx) | clear hzx
    cases st <;> cases bx <;> cases bn <;> simp only [neg4, if_true, if_false, Bool.false_eq_true] at hq h3 hfit ⊢
  all_goals
    go_enter Try.func25, Try.ntmps25
    go_wp2_with (first | (go_at_call 48; refine (fin.impl_any _ _).mono ?_; (first | rw [HFy.out] | rw [HFx.out]); rintro e w' ⟨rfl, n, rfl⟩) | (refine wpList_cv rfl 22 25 _ rfl .f32 .f64 (by decide) _ rfl huf Try.underlying25 (fits_wide _) ?_; intro r n hr hw; obtain rfl := (hr.symm.eq_of_not (by first | exact HYN.out | exact HXN.out)).symm; clear hr hw) | (go_at_call 36; refine (abs_any _ (f64_le (cv_wf (by decide) _)) _).mono ?_; rintro e w' ⟨rfl, rfl⟩) | (go_at_call 49; refine (slope_impl HT.out _).mono ?_; rintro e w' ⟨rfl, rfl⟩) | (go_at_call 33; refine (nan.narrow_impl hfit _).mono ?_; rintro e w' ⟨r, n, rfl, rfl, hr⟩))
    go_ret
    exact ⟨_, _, rfl, rfl, by assumption⟩

theorem impl_zero (y x : Nat) (hFy : fin y = true) (hFx : fin x = true) (hzy : FloatKind.f32.format.order y 0 = some .eq) (hzx : FloatKind.f32.format.order x 0 = some .eq) (w : World) :
    Calls Try.prog 25 #[.float .f32 y, .float .f32 x] w (SmPost 0 w) := by
  have HFy : Hid (fin y = true) := hFy
  have HFx : Hid (fin x = true) := hFx
  clear hFy hFx
  go_enter Try.func25, Try.ntmps25
  go_wp2_with (first | (go_at_call 48; refine (fin.impl_any _ _).mono ?_; (first | rw [HFy.out] | rw [HFx.out]); rintro e w' ⟨rfl, n, rfl⟩))
  go_ret
  exact ⟨_, _, rfl, rfl, Sm.refl _ _⟩

theorem impl_not (y x : Nat) (h : fin y = false ∨ fin x = false) (w : World) :
    Calls Try.prog 25 #[.float .f32 y, .float .f32 x] w (SmPost (qn .f32) w) := by
  have hud : (Try.prog.underlying 25).isSome = true := by rw [Try.underlying25]; rfl
  cases hFy : fin y with
  | false =>
    have HFy : Hid (fin y = false) := hFy
    clear hFy h
    go_enter Try.func25, Try.ntmps25
    go_wp2_with (first | (go_at_call 48; refine (fin.impl_any _ _).mono ?_; rw [HFy.out]; rintro e w' ⟨rfl, n, rfl⟩) | (go_at_call 41; refine (nan_any _).mono ?_; rintro e w' ⟨rfl, rfl⟩) | (refine wpList_cv rfl 25 22 _ rfl .f64 .f32 (by decide) _ rfl hud Try.underlying22 (fits_nan nan_isN) ?_; intro r n hr hw))
    go_ret
    refine ⟨_, _, rfl, rfl, ?_⟩
    have e : cv .f64 .f32 9221120237041090561 = qn .f32 := cv_nan (by decide) nan_isN
    rw [← e]; assumption
  | true =>
    have HFy : Hid (fin y = true) := hFy
    have HFx : Hid (fin x = false) := by
      rcases h with h | h
      · rw [hFy] at h; cases h
      · exact h
    clear hFy h
    go_enter Try.func25, Try.ntmps25
    go_wp2_with (first | (go_at_call 48; refine (fin.impl_any _ _).mono ?_; (first | rw [HFy.out] | rw [HFx.out]); rintro e w' ⟨rfl, n, rfl⟩) | (go_at_call 41; refine (nan_any _).mono ?_; rintro e w' ⟨rfl, rfl⟩) | (refine wpList_cv rfl 25 22 _ rfl .f64 .f32 (by decide) _ rfl hud Try.underlying22 (fits_nan nan_isN) ?_; intro r n hr hw))
    go_ret
    refine ⟨_, _, rfl, rfl, ?_⟩
    have e : cv .f64 .f32 9221120237041090561 = qn .f32 := cv_nan (by decide) nan_isN
    rw [← e]; assumption

theorem angle_of (y x z : Nat) (hwide : ∀ Y X, Sm .f64 Y (cv .f32 .f64 y) → Sm .f64 X (cv .f32 .f64 x) → (Lit.float .f64 Y).wf = true → (Lit.float .f64 X).wf = true → ∀ w, Calls Try.prog 67 #[.float .f64 Y, .float .f64 X] w fun e w' => e = .returned (.float .f64 z) ∧ ∃ n, w' = w.drewN n)
    (hfit : Fits .f64 .f32 z) (w : World) : Calls Try.prog 47 #[.float .f32 y, .float .f32 x] w (SmPost (cv .f64 .f32 z) w) := by
  have huf : (Try.prog.underlying 22).isSome = true := by rw [Try.underlying22]; rfl
  have HW := Lib.hid hwide
  clear hwide
  go_enter Try.func47, Try.ntmps47
  go_wp2_with (first | (refine wpList_cv rfl 22 25 _ rfl .f32 .f64 (by decide) _ rfl huf Try.underlying25 (fits_wide _) ?_; intro r n hr hw) | (go_at_call 67; refine (HW.out _ _ (by assumption) (by assumption) (by assumption) (by assumption) _).mono ?_; rintro e w' ⟨rfl, n, rfl⟩) | (go_at_call 57; refine (nan.narrow_spec hfit _).mono ?_; rintro e w' ⟨r, n, rfl, rfl, hr⟩))
  go_ret
  exact ⟨_, _, rfl, rfl, by assumption⟩
theorem spec_of (y x z : Nat) (hwide : ∀ Y X, Sm .f64 Y (cv .f32 .f64 y) → Sm .f64 X (cv .f32 .f64 x) → (Lit.float .f64 Y).wf = true → (Lit.float .f64 X).wf = true → ∀ w, Calls Try.prog 67 #[.float .f64 Y, .float .f64 X] w fun e w' => e = .returned (.float .f64 z) ∧ ∃ n, w' = w.drewN n)
    (hfit : Fits .f64 .f32 z) (w : World) : Calls Try.prog 24 #[.float .f32 y, .float .f32 x] w (SmPost (cv .f64 .f32 z) w) := by
  have H := fun w => angle_of y x z hwide hfit w
  have HA := Lib.hid H
  clear H hwide
  go_enter Try.func24, Try.ntmps24
  go_wp2_with (first | (go_at_call 47; refine (HA.out _).mono ?_; rintro e w' ⟨r, n, rfl, rfl, hr⟩))
  go_ret
  exact ⟨_, _, rfl, rfl, by assumption⟩

theorem num_not_nan {b : Nat} {s : Bool} {m : Nat} {p : Int} (h : Ieee.single.read b = .number s m p) : isN .f32 b = false := by
  show (Ieee.single.read b).isNaN = false
  rw [h]; rfl
theorem wide_num_read {b : Nat} {s : Bool} {m : Nat} {p : Int} (h : Ieee.single.read b = .number s m p) : ∃ m' p', Ieee.double.read (cv .f32 .f64 b) = .number s m' p' ∧ (m' = 0 ↔ m = 0) := by
  by_cases h0 : m = 0
  · subst h0
    obtain ⟨p', h'⟩ := wide_zero h
    exact ⟨0, p', h', by simp⟩
  · cases s with
    | true => obtain ⟨m', p', h', h0'⟩ := wide_neg h h0; exact ⟨m', p', h', by simp [h0, h0']⟩
    | false => obtain ⟨⟨m', p', h', h0', _⟩, _⟩ := wide_pos h h0; exact ⟨m', p', h', by simp [h0, h0']⟩
theorem not_num_wide {b Y : Nat} (h : fin b = false) (hY : Sm .f64 Y (cv .f32 .f64 b)) : ∀ s m p, Ieee.double.read Y ≠ .number s m p := by
  intro s m p hd
  have hn : isN .f64 Y = false := by show (Ieee.double.read Y).isNaN = false; rw [hd]; rfl
  have hn2 : isN .f32 b = false := by rw [← wide_isN, ← hY.isN]; exact hn
  rcases read_not_nan hn2 with ⟨s', m', p', hd'⟩ | ⟨s', hd'⟩
  · have hd'' : Ieee.single.read b = .number s' m' p' := hd'
    unfold fin at h
    rw [hd''] at h; cases h
  · obtain rfl := hY.eq_of_not hn
    have := wide_inf hd'
    rw [hd] at this; cases this

/-- both functions hand back the same -/
theorem both (y x : Nat) : ∃ v, (∀ w, Calls Try.prog 25 #[.float .f32 y, .float .f32 x] w (SmPost v w)) ∧ (∀ w, Calls Try.prog 24 #[.float .f32 y, .float .f32 x] w (SmPost v w)) := by
  have hnan : cv .f64 .f32 9221120237041090561 = qn .f32 := cv_nan (by decide) nan_isN
  by_cases hnum : fin y = true ∧ fin x = true
  · obtain ⟨hFy, hFx⟩ := hnum
    obtain ⟨s, m, i, hdy⟩ := (fin_iff y).1 hFy
    obtain ⟨t, n, j, hdx⟩ := (fin_iff x).1 hFx
    obtain ⟨m', i', hDy, hm⟩ := wide_num_read hdy
    obtain ⟨n', j', hDx, hn⟩ := wide_num_read hdx
    have hNy : isN .f64 (cv .f32 .f64 y) = false := by rw [wide_isN]; exact num_not_nan hdy
    have hNx : isN .f64 (cv .f32 .f64 x) = false := by rw [wide_isN]; exact num_not_nan hdx
    have hsy : ∀ t w, (binOp .sub t (.float .f64 (cv .f32 .f64 y)) (.float .f64 (cv .f32 .f64 y))).run Try.prog w = .ok (.float .f64 0) w := fun t w => run_float_arith w .sub t .f64 _ _ _ (sub_self_num (k := .f64) hDy)
    have hsx : ∀ t w, (binOp .sub t (.float .f64 (cv .f32 .f64 x)) (.float .f64 (cv .f32 .f64 x))).run Try.prog w = .ok (.float .f64 0) w := fun t w => run_float_arith w .sub t .f64 _ _ _ (sub_self_num (k := .f64) hDx)
    have hoy := order_wide_zero y
    have hox := order_wide_zero x
    by_cases hz : m = 0 ∧ n = 0
    · obtain ⟨rfl, rfl⟩ := hz
      have ey : FloatKind.f32.format.order y 0 = some .eq := by
        have hdy' : FloatKind.f32.format.read y = _ := hdy
        rw [order_zero, hdy']; rfl
      have ex : FloatKind.f32.format.order x 0 = some .eq := by
        have hdx' : FloatKind.f32.format.read x = _ := hdx
        rw [order_zero, hdx']; rfl
      refine ⟨0, fun w => impl_zero y x hFy hFx ey ex w, fun w => ?_⟩
      have h := spec_of y x 0 (fun Y X hY hX _ _ w => by
        obtain rfl := (hY.symm.eq_of_not hNy).symm
        obtain rfl := (hX.symm.eq_of_not hNx).symm
        exact (angleS.wide_zero0 _ _ hsy hsx (hoy.trans ey) (hox.trans ex) w).mono fun e w' ⟨he, hw⟩ => ⟨he, 0, hw.symm⟩) (.inr (by decide)) w
      have e : cv .f64 .f32 0 = 0 := by decide
      rw [e] at h
      exact h
    · have ht := nm_slope hDy hDx (by rcases Classical.em (m = 0) with h | h
                                      · exact .inr (fun h' => hz ⟨h, hn.1 h'⟩)
                                      · exact .inl (fun h' => h (hm.1 h')))
      generalize hst : (FloatKind.f64.format.order (absN (cv .f32 .f64 y)) (absN (cv .f32 .f64 x)) == some .gt) = st at ht
      have hq : ∀ t w, (binOp .quo t (.float .f64 (if st then absN (cv .f32 .f64 x) else absN (cv .f32 .f64 y))) (.float .f64 (if st then absN (cv .f32 .f64 y) else absN (cv .f32 .f64 x)))).run Try.prog w = .ok (.float .f64 (slope st (absN (cv .f32 .f64 y)) (absN (cv .f32 .f64 x)))) w := by
        intro t w
        cases st
        · exact run_nm (op := .quo) ht t w
        · exact run_nm (op := .quo) ht t w
      generalize slope st (absN (cv .f32 .f64 y)) (absN (cv .f32 .f64 x)) = t0 at *
      obtain ⟨n2, n2'⟩ := nm_a2 ht st
      obtain ⟨n3, n3'⟩ := nm_a3 n2' (FloatKind.f32.format.order x 0 == some .lt)
      have n4 := nm_a4 n3' (FloatKind.f32.format.order y 0 == some .lt)
      have h2 : ∀ t w, (binOp .sub t (.float .f64 4598175219545276416) (.float .f64 (slp t0))).run Try.prog w = .ok (.float .f64 (ar .sub .f64 4598175219545276416 (slp t0))) w := fun t w => run_nm n2 t w
      have h3 : ∀ t w, (binOp .sub t (.float .f64 4602678819172646912) (.float .f64 (if st then ar .sub .f64 4598175219545276416 (slp t0) else slp t0))).run Try.prog w = .ok (.float .f64 (ar .sub .f64 4602678819172646912 (a2f st (slp t0)))) w := fun t w => run_nm n3 t w
      have hfit := ok_fits n4.ok (by omega)
      refine ⟨_, fun w => impl_core y x _ _ _ _ t0 _ _ st _ _ _ rfl rfl rfl rfl hNy hNx hFy hFx hst rfl rfl rfl ?_ hq ht h2 h3 hfit w, fun w => ?_⟩
      · intro hzy
        have hdy' : FloatKind.f32.format.read y = _ := hdy
        have hdx' : FloatKind.f32.format.read x = _ := hdx
        rw [order_zero, hdy'] at hzy
        rw [order_zero, hdx']
        have hm0 : m = 0 := by
          by_cases h : m = 0
          · exact h
          · cases s <;> simp [h] at hzy
        have hn0 : n ≠ 0 := fun h => hz ⟨hm0, h⟩
        cases t <;> simp [hn0]
      · refine spec_of y x _ (fun Y X hY hX hwY hwX w => ?_) hfit w
        obtain rfl := (hY.symm.eq_of_not hNy).symm
        obtain rfl := (hX.symm.eq_of_not hNx).symm
        refine (angleS.wide_core _ _ _ _ t0 _ _ st _ _ _ rfl rfl (f64_le hwY) (f64_le hwX) hsy hsx hst (by rw [hox]) (by rw [hoy]) rfl ?_ hq ht h2 h3 w).mono fun e w' ⟨he, hw⟩ => ⟨he, 0, hw.symm⟩
        intro hzx
        rw [hox] at hzx
        rw [hoy]
        have hdy' : FloatKind.f32.format.read y = _ := hdy
        have hdx' : FloatKind.f32.format.read x = _ := hdx
        rw [order_zero, hdx'] at hzx
        rw [order_zero, hdy']
        have hn0 : n = 0 := by
          by_cases h : n = 0
          · exact h
          · cases t <;> simp [h] at hzx
        have hm0 : m ≠ 0 := fun h => hz ⟨h, hn0⟩
        cases s <;> simp [hm0]
  · have hnot : fin y = false ∨ fin x = false := by
      cases h1 : fin y <;> cases h2 : fin x <;> simp_all
    refine ⟨qn .f32, fun w => impl_not y x hnot w, fun w => ?_⟩
    rw [← hnan]
    refine spec_of y x _ (fun Y X hY hX hwY hwX w => ?_) (fits_nan nan_isN) w
    cases hFy : fin y with
    | false => exact angleS.wide_not1 Y X (fun r hr => sub_self_not (k := .f64) (not_num_wide hFy hY) hr) w
    | true =>
      have hFx : fin x = false := by
        rcases hnot with h | h
        · rw [hFy] at h; cases h
        · exact h
      obtain ⟨s, m, i, hdy⟩ := (fin_iff y).1 hFy
      obtain ⟨m', i', hDy, _⟩ := wide_num_read hdy
      have hNy : isN .f64 (cv .f32 .f64 y) = false := by rw [wide_isN]; exact num_not_nan hdy
      obtain rfl := (hY.symm.eq_of_not hNy).symm
      exact angleS.wide_not2 _ X (fun t w => run_float_arith w .sub t .f64 _ _ _ (sub_self_num (k := .f64) hDy)) (fun r hr => sub_self_not (k := .f64) (not_num_wide hFx hX) hr) w

theorem walk (a0 a1 : Nat) (_w0 : (Lit.float .f32 a0).wf = true) (_w1 : (Lit.float .f32 a1).wf = true) (w : World) :
    Calls Try.prog 8 #[.float .f32 a0, .float .f32 a1] w fun e w' => e = .returned (.bool true) ∧ Below w.heap.size w w' := by
  have huf : (Try.prog.underlying 22).isSome = true := by rw [Try.underlying22]; rfl
  obtain ⟨v, hi, hs⟩ := both a0 a1
  have HI := Lib.hid hi
  have HS := Lib.hid hs
  clear hi hs
  go_enter Try.func8, Try.ntmps8
  go_wp2_with fail
  refine (HS.out _).mono ?_
  rintro e w' ⟨x, n, rfl, rfl, hx⟩
  go_wp2_with fail
  refine (HI.out _).mono ?_
  rintro e w' ⟨y, n', rfl, rfl, hy⟩
  have hxy : ∀ r r', Sm .f64 r (cv .f32 .f64 y) → Sm .f64 r' (cv .f32 .f64 x) → Sm .f64 r r' := fun r r' h h' => by
    rw [cv_congr (by decide) (hy.trans hx.symm)] at h
    exact h.trans h'.symm
  clear hx hy
  go_wp2_with (first | (refine wpList_cv rfl 22 25 _ rfl .f32 .f64 (by decide) _ rfl huf Try.underlying25 (fits_wide _) ?_; intro r n hr hw) | (go_at_call 14; refine (same_any _ _ (hxy _ _ (by assumption) (by assumption)) _).mono ?_; rintro e w' ⟨rfl, n, rfl⟩))
  go_ret
  exact ⟨rfl, Go.Pst.below_draws ⟨_, rfl⟩⟩
end Go.Proofs.Ytncapcflhchpmab.fnExactAngleTurnsW
