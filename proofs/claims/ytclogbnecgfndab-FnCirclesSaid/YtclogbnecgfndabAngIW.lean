/- AngleTurns returns the angle of every point. -/
import Derived.Test.YtclogbnecgfndabSlopeW
import Derived.Test.YtclogbnecgfndabNanW
import Derived.Test.YtclogbnecgfndabFinW
import Derived.Lib.Hide
namespace Go.Proofs.Ytclogbnecgfndab.fnExactAngleTurnsW
open Go.RowKit Go.Fl Go.Proofs.Ytclogbnecgfndab.abs Go.Proofs.Ytclogbnecgfndab.nan Go.Proofs.Ytclogbnecgfndab.fin Go.Proofs.Ytclogbnecgfndab.slope

def neg4 (b : Bool) (a : Nat) : Nat := if b then Op.negFloat .f64 a else a

/-- what hands back a number that is the same -/
def SmPost (v : Nat) (w : World) (e : Ending) (w' : World) : Prop := ∃ r n, e = .returned (.float .f32 r) ∧ w' = w.drewN n ∧ Sm .f32 r v

set_option maxHeartbeats 4000000 in
theorem impl_core (y x Y X A B t0 e2 e3 : Nat) (st bx bn zy : Bool) (hY : Y = cv .f32 .f64 y) (hX : X = cv .f32 .f64 x) (hA : A = absN Y) (hB : B = absN X)
    (hNy : isN .f64 Y = false) (hNx : isN .f64 X = false) (hFy : fin y = true) (hFx : fin x = true)
    (hst : (FloatKind.f64.format.order A B == some .gt) = st) (hox : (FloatKind.f32.format.order x 0 == some .lt) = bx) (hoy : (FloatKind.f32.format.order y 0 == some .lt) = bn)
    (hzy : (FloatKind.f32.format.order y 0 == some .eq) = zy) (hzx : zy = true → (FloatKind.f32.format.order x 0 == some .eq) = false)
    (hq : ∀ t w, (binOp .quo t (.float .f64 (if st then B else A)) (.float .f64 (if st then A else B))).run Try.prog w = .ok (.float .f64 t0) w) (ht : Nm t0 0)
    (h2 : ∀ t w, (binOp .sub t (.float .f64 4598175219545276416) (.float .f64 (slp t0))).run Try.prog w = .ok (.float .f64 e2) w)
    (h3 : ∀ t w, (binOp .sub t (.float .f64 4602678819172646912) (.float .f64 (if st then e2 else slp t0))).run Try.prog w = .ok (.float .f64 e3) w)
    (hfit : Fits .f64 .f32 (neg4 bn (if bx then e3 else if st then e2 else slp t0))) (w : World) :
    Calls Try.prog 23 #[.float .f32 y, .float .f32 x] w (SmPost (cv .f64 .f32 (neg4 bn (if bx then e3 else if st then e2 else slp t0))) w) := by
  have huf : (Try.prog.underlying 28).isSome = true := by rw [Try.underlying28]; rfl
  have HFy : Hid (fin y = true) := hFy
  have HFx : Hid (fin x = true) := hFx
  have HYN : Hid (isN .f64 (cv .f32 .f64 y) = false) := by rw [← hY]; exact hNy
  have HXN : Hid (isN .f64 (cv .f32 .f64 x) = false) := by rw [← hX]; exact hNx
  have HT : Hid (Nm t0 0) := ht
  have hneg : ∀ (b : Nat) (w : World), (Op.unary .neg (.float .f64 b)).run Try.prog w = .ok (.float .f64 (Op.negFloat .f64 b)) w := fun _ _ => rfl
  subst hY hX hA hB
  clear hFy hFx hNy hNx ht
  cases zy
  all_goals
    first | (have hzx' := hzx rfl; clear hzx) | clear hzx
    cases st <;> cases bx <;> cases bn <;> simp only [neg4, if_true, if_false, Bool.false_eq_true] at hq h3 hfit ⊢
  all_goals
    go_enter Try.func23, Try.ntmps23
    go_wp2_with (first | (go_at_call 27; refine (fin.impl_any _ _).mono ?_; (first | rw [HFy.out] | rw [HFx.out]); rintro e w' ⟨rfl, n, rfl⟩) | (refine wpList_cv rfl 28 27 _ rfl .f32 .f64 (by decide) _ rfl huf Try.underlying27 (fits_wide _) ?_; intro r n hr hw; obtain rfl := (hr.symm.eq_of_not (by first | exact HYN.out | exact HXN.out)).symm; clear hr hw) | (go_at_call 35; refine (abs_any _ (f64_le (cv_wf (by decide) _)) _).mono ?_; rintro e w' ⟨rfl, rfl⟩) | (go_at_call 37; refine (slope_impl HT.out _).mono ?_; rintro e w' ⟨rfl, rfl⟩) | (go_at_call 24; refine (nan.narrow_impl hfit _).mono ?_; rintro e w' ⟨r, n, rfl, rfl, hr⟩))
    go_ret
    exact ⟨_, _, rfl, rfl, by assumption⟩

theorem impl_zero (y x : Nat) (hFy : fin y = true) (hFx : fin x = true) (hzy : FloatKind.f32.format.order y 0 = some .eq) (hzx : FloatKind.f32.format.order x 0 = some .eq) (w : World) :
    Calls Try.prog 23 #[.float .f32 y, .float .f32 x] w (SmPost 0 w) := by
  have HFy : Hid (fin y = true) := hFy
  have HFx : Hid (fin x = true) := hFx
  clear hFy hFx
  go_enter Try.func23, Try.ntmps23
  go_wp2_with (first | (go_at_call 27; refine (fin.impl_any _ _).mono ?_; (first | rw [HFy.out] | rw [HFx.out]); rintro e w' ⟨rfl, n, rfl⟩))
  go_ret
  exact ⟨_, _, rfl, rfl, Sm.refl _ _⟩

theorem impl_not (y x : Nat) (h : fin y = false ∨ fin x = false) (w : World) :
    Calls Try.prog 23 #[.float .f32 y, .float .f32 x] w (SmPost (qn .f32) w) := by
  have hud : (Try.prog.underlying 27).isSome = true := by rw [Try.underlying27]; rfl
  cases hFy : fin y with
  | false =>
    have HFy : Hid (fin y = false) := hFy
    clear hFy h
    go_enter Try.func23, Try.ntmps23
    go_wp2_with (first | (go_at_call 27; refine (fin.impl_any _ _).mono ?_; rw [HFy.out]; rintro e w' ⟨rfl, n, rfl⟩) | (go_at_call 19; refine (nan_any _).mono ?_; rintro e w' ⟨rfl, rfl⟩) | (refine wpList_cv rfl 27 28 _ rfl .f64 .f32 (by decide) _ rfl hud Try.underlying28 (fits_nan nan_isN) ?_; intro r n hr hw))
    go_ret
    refine ⟨_, _, rfl, rfl, ?_⟩
    have e : cv .f64 .f32 9221120237041090561 = qn .f32 := cv_nan (by decide) nan_isN
    rw [← e]; assumption
  | true =>
    have HFy : Hid (fin y = true) := hFy
    have HFx : Hid (fin x = false) := by
      rcases h with h | h
      · rw [hFy] at h; cases h
      · exact h
    clear hFy h
    go_enter Try.func23, Try.ntmps23
    go_wp2_with (first | (go_at_call 27; refine (fin.impl_any _ _).mono ?_; (first | rw [HFy.out] | rw [HFx.out]); rintro e w' ⟨rfl, n, rfl⟩) | (go_at_call 19; refine (nan_any _).mono ?_; rintro e w' ⟨rfl, rfl⟩) | (refine wpList_cv rfl 27 28 _ rfl .f64 .f32 (by decide) _ rfl hud Try.underlying28 (fits_nan nan_isN) ?_; intro r n hr hw))
    go_ret
    refine ⟨_, _, rfl, rfl, ?_⟩
    have e : cv .f64 .f32 9221120237041090561 = qn .f32 := cv_nan (by decide) nan_isN
    rw [← e]; assumption

theorem num_not_nan {b : Nat} {s : Bool} {m : Nat} {p : Int} (h : Ieee.single.read b = .number s m p) : isN .f32 b = false := by
  show (Ieee.single.read b).isNaN = false
  rw [h]; rfl
theorem wide_num_read {b : Nat} {s : Bool} {m : Nat} {p : Int} (h : Ieee.single.read b = .number s m p) : ∃ m' p', Ieee.double.read (cv .f32 .f64 b) = .number s m' p' ∧ (m' = 0 ↔ m = 0) := by
  by_cases h0 : m = 0
  · subst h0
    obtain ⟨p', h'⟩ := wide_zero h
    exact ⟨0, p', h', by simp⟩
  · cases s with
    | true => obtain ⟨m', p', h', h0'⟩ := wide_neg h h0; exact ⟨m', p', h', by simp [h0, h0']⟩
    | false => obtain ⟨⟨m', p', h', h0', _⟩, _⟩ := wide_pos h h0; exact ⟨m', p', h', by simp [h0, h0']⟩
/-- the angle of a point that is not 0, in 64 bits -/
def angV (y x : Nat) : Nat :=
  let st := FloatKind.f64.format.order (absN (cv .f32 .f64 y)) (absN (cv .f32 .f64 x)) == some .gt
  let t0 := slope st (absN (cv .f32 .f64 y)) (absN (cv .f32 .f64 x))
  neg4 (FloatKind.f32.format.order y 0 == some .lt) (if (FloatKind.f32.format.order x 0 == some .lt) then ar .sub .f64 4602678819172646912 (a2f st (slp t0)) else if st then ar .sub .f64 4598175219545276416 (slp t0) else slp t0)

theorem impl_num {y x : Nat} {s t : Bool} {m n : Nat} {i j : Int} (hdy : Ieee.single.read y = .number s m i) (hdx : Ieee.single.read x = .number t n j) (hz : ¬ (m = 0 ∧ n = 0)) (w : World) :
    Calls Try.prog 23 #[.float .f32 y, .float .f32 x] w (SmPost (cv .f64 .f32 (angV y x)) w) := by
  have hFy : fin y = true := (fin_iff y).2 ⟨_, _, _, hdy⟩
  have hFx : fin x = true := (fin_iff x).2 ⟨_, _, _, hdx⟩
  obtain ⟨m', i', hDy, hm⟩ := wide_num_read hdy
  obtain ⟨n', j', hDx, hn⟩ := wide_num_read hdx
  have hNy : isN .f64 (cv .f32 .f64 y) = false := by rw [wide_isN]; exact num_not_nan hdy
  have hNx : isN .f64 (cv .f32 .f64 x) = false := by rw [wide_isN]; exact num_not_nan hdx
  have ht := nm_slope hDy hDx (by rcases Classical.em (m = 0) with h | h
                                  · exact .inr (fun h' => hz ⟨h, hn.1 h'⟩)
                                  · exact .inl (fun h' => h (hm.1 h')))
  unfold angV
  dsimp only
  generalize hst : (FloatKind.f64.format.order (absN (cv .f32 .f64 y)) (absN (cv .f32 .f64 x)) == some .gt) = st at ht
  have hq : ∀ t w, (binOp .quo t (.float .f64 (if st then absN (cv .f32 .f64 x) else absN (cv .f32 .f64 y))) (.float .f64 (if st then absN (cv .f32 .f64 y) else absN (cv .f32 .f64 x)))).run Try.prog w = .ok (.float .f64 (slope st (absN (cv .f32 .f64 y)) (absN (cv .f32 .f64 x)))) w := by
    intro t w
    cases st
    · exact run_nm (op := .quo) ht t w
    · exact run_nm (op := .quo) ht t w
  generalize slope st (absN (cv .f32 .f64 y)) (absN (cv .f32 .f64 x)) = t0 at *
  obtain ⟨n2, n2'⟩ := nm_a2 ht st
  obtain ⟨n3, n3'⟩ := nm_a3 n2' (FloatKind.f32.format.order x 0 == some .lt)
  have n4 := nm_a4 n3' (FloatKind.f32.format.order y 0 == some .lt)
  have h2 : ∀ t w, (binOp .sub t (.float .f64 4598175219545276416) (.float .f64 (slp t0))).run Try.prog w = .ok (.float .f64 (ar .sub .f64 4598175219545276416 (slp t0))) w := fun t w => run_nm n2 t w
  have h3 : ∀ t w, (binOp .sub t (.float .f64 4602678819172646912) (.float .f64 (if st then ar .sub .f64 4598175219545276416 (slp t0) else slp t0))).run Try.prog w = .ok (.float .f64 (ar .sub .f64 4602678819172646912 (a2f st (slp t0)))) w := fun t w => run_nm n3 t w
  have hfit := ok_fits n4.ok (by omega)
  refine impl_core y x _ _ _ _ t0 _ _ st _ _ _ rfl rfl rfl rfl hNy hNx hFy hFx hst rfl rfl rfl ?_ hq ht h2 h3 hfit w
  intro hzy
  have hdy' : FloatKind.f32.format.read y = _ := hdy
  have hdx' : FloatKind.f32.format.read x = _ := hdx
  rw [order_zero, hdy'] at hzy
  rw [order_zero, hdx']
  have hm0 : m = 0 := by
    by_cases h : m = 0
    · exact h
    · cases s <;> simp [h] at hzy
  have hn0 : n ≠ 0 := fun h => hz ⟨hm0, h⟩
  cases t <;> simp [hn0]
end Go.Proofs.Ytclogbnecgfndab.fnExactAngleTurnsW
