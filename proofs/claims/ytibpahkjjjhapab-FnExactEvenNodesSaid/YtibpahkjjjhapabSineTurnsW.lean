/- SineTurns and its model return the same at every number. -/
import Derived.Test.YtibpahkjjjhapabSinW
import Derived.Test.YtibpahkjjjhapabSinSW
import Derived.Test.YtibpahkjjjhapabNanW
import Derived.Test.YtibpahkjjjhapabFinW
import Derived.Test.YtibpahkjjjhapabSameFloatW
import Derived.Test.YtibpahkjjjhapabPost
import Derived.Lib.Hide
namespace Go.Proofs.Ytibpahkjjjhapab.fnExactSineTurnsW
open Go.RowKit Go.Fl Go.Proofs.Ytibpahkjjjhapab.abs Go.Proofs.Ytibpahkjjjhapab.nan Go.Proofs.Ytibpahkjjjhapab.fin Go.Proofs.Ytibpahkjjjhapab.sin Go.Proofs.Ytibpahkjjjhapab.sameFloat

/-- what hands back a number that is the same -/
def SmPost (v : Nat) (w : World) (e : Ending) (w' : World) : Prop := ∃ r n, e = .returned (.float .f32 r) ∧ w' = w.drewN n ∧ Sm .f32 r v

/-- whether the absolute value is at least 2 ^ 52 -/
theorem places_small {y : Nat} (hy : (y : Int) ≤ 18446744073709551615) (h : FloatKind.f64.format.order (absN y) 4841369599423283200 = some .lt) (w : World) :
    Calls Try.prog 60 #[.float .f64 y] w fun e w' => e = .returned (.bool false) ∧ w = w' := by
  go_enter Try.func60, Try.ntmps60
  go_wp2_with (first | (go_at_call 72; refine (abs_any _ hy _).mono ?_; rintro e w' ⟨rfl, rfl⟩))
  go_ret
  exact ⟨rfl, rfl⟩
theorem places_big {y : Nat} (hy : (y : Int) ≤ 18446744073709551615) (h : FloatKind.f64.format.order (absN y) 4841369599423283200 = some .eq ∨ FloatKind.f64.format.order (absN y) 4841369599423283200 = some .gt) (w : World) :
    Calls Try.prog 60 #[.float .f64 y] w fun e w' => e = .returned (.bool true) ∧ w = w' := by
  rcases h with h | h
  all_goals
    go_enter Try.func60, Try.ntmps60
    go_wp2_with (first | (go_at_call 72; refine (abs_any _ hy _).mono ?_; rintro e w' ⟨rfl, rfl⟩))
    go_ret
    exact ⟨rfl, rfl⟩

theorem impl_small {x y : Nat} {s : Bool} {m : Nat} {p : Int} (hY : y = cv .f32 .f64 x) (hN : isN .f64 y = false) (hF : fin x = true) (hd : Ieee.double.read y = .number s m p) (hy : Nm y 53) (hw : whole m p < 4503599627370496)
    (hb : FloatKind.f64.format.order (absN y) 4841369599423283200 = some .lt) (hfit : Fits .f64 .f32 (sinW y)) (w : World) :
    Calls Try.prog 45 #[.float .f32 x] w (SmPost (cv .f64 .f32 (sinW y)) w) := by
  have huf : (Try.prog.underlying 42).isSome = true := by rw [Try.underlying42]; rfl
  subst hY
  have HN : Hid (isN .f64 (cv .f32 .f64 x) = false) := hN
  have HB : Hid (FloatKind.f64.format.order (absN (cv .f32 .f64 x)) 4841369599423283200 = some .lt) := hb
  have HF : Hid (fin x = true) := hF
  have hle : (cv .f32 .f64 x : Int) ≤ 18446744073709551615 := f64_le (cv_wf (by decide) _)
  have HL : Hid ((cv .f32 .f64 x : Int) ≤ 18446744073709551615) := hle
  have HE : Hid ((!isN .f64 (cv .f32 .f64 x) && !infB (cv .f32 .f64 x)) = true) := by
    show (_ && _) = true
    rw [wide_inf_iff (Sm.refl _ _), hF]
  have hS := fun w => sine_impl hd hy hw w
  have HS := Lib.hid hS
  clear hN hb hF hle hd hy hw hS
  go_enter Try.func45, Try.ntmps45
  go_wp2_with (first | (refine wpList_cv rfl 42 45 _ rfl .f32 .f64 (by decide) _ rfl huf Try.underlying45 (fits_wide _) ?_; intro r n hr hw; obtain rfl := (hr.symm.eq_of_not HN.out).symm; clear hr hw) | (go_at_call 59; refine (fin64_any _ HL.out _).mono ?_; rw [HE.out]; rintro e w' ⟨rfl, rfl⟩) | (go_at_call 60; refine (places_small HL.out HB.out _).mono ?_; rintro e w' ⟨rfl, rfl⟩) | (go_at_call 62; refine (HS.out _).mono ?_; rintro e w' ⟨rfl, rfl⟩) | (go_at_call 61; refine (nan.narrow_impl hfit _).mono ?_; rintro e w' ⟨r, n, rfl, rfl, hr⟩))
  go_ret
  exact ⟨_, _, rfl, rfl, by assumption⟩

theorem impl_big {x y : Nat} (hY : y = cv .f32 .f64 x) (hN : isN .f64 y = false) (hF : fin x = true)
    (hb : FloatKind.f64.format.order (absN y) 4841369599423283200 = some .eq ∨ FloatKind.f64.format.order (absN y) 4841369599423283200 = some .gt) (w : World) :
    Calls Try.prog 45 #[.float .f32 x] w (SmPost 0 w) := by
  have huf : (Try.prog.underlying 42).isSome = true := by rw [Try.underlying42]; rfl
  subst hY
  have HN : Hid (isN .f64 (cv .f32 .f64 x) = false) := hN
  have HB : Hid (FloatKind.f64.format.order (absN (cv .f32 .f64 x)) 4841369599423283200 = some .eq ∨ FloatKind.f64.format.order (absN (cv .f32 .f64 x)) 4841369599423283200 = some .gt) := hb
  have hle : (cv .f32 .f64 x : Int) ≤ 18446744073709551615 := f64_le (cv_wf (by decide) _)
  have HL : Hid ((cv .f32 .f64 x : Int) ≤ 18446744073709551615) := hle
  have HE : Hid ((!isN .f64 (cv .f32 .f64 x) && !infB (cv .f32 .f64 x)) = true) := by
    show (_ && _) = true
    rw [wide_inf_iff (Sm.refl _ _), hF]
  clear hN hb hF hle
  go_enter Try.func45, Try.ntmps45
  go_wp2_with (first | (refine wpList_cv rfl 42 45 _ rfl .f32 .f64 (by decide) _ rfl huf Try.underlying45 (fits_wide _) ?_; intro r n hr hw; obtain rfl := (hr.symm.eq_of_not HN.out).symm; clear hr hw) | (go_at_call 59; refine (fin64_any _ HL.out _).mono ?_; rw [HE.out]; rintro e w' ⟨rfl, rfl⟩) | (go_at_call 60; refine (places_big HL.out HB.out _).mono ?_; rintro e w' ⟨rfl, rfl⟩))
  go_ret
  exact ⟨_, _, rfl, rfl, Sm.refl _ _⟩

theorem impl_not {x : Nat} (hF : fin x = false) (w : World) :
    Calls Try.prog 45 #[.float .f32 x] w (SmPost (qn .f32) w) := by
  have huf : (Try.prog.underlying 42).isSome = true := by rw [Try.underlying42]; rfl
  have hud : (Try.prog.underlying 45).isSome = true := by rw [Try.underlying45]; rfl
  have HF : Hid (fin x = false) := hF
  clear hF
  go_enter Try.func45, Try.ntmps45
  go_wp2_with (first | (refine wpList_cv rfl 42 45 _ rfl .f32 .f64 (by decide) _ rfl huf Try.underlying45 (fits_wide _) ?_; intro r n hr hw) | (go_at_call 59; refine (fin64_any _ (f64_le (by assumption)) _).mono ?_; rw [wide_inf_iff (by assumption), HF.out]; rintro e w' ⟨rfl, rfl⟩) | (go_at_call 58; refine (nan_any _).mono ?_; rintro e w' ⟨rfl, rfl⟩) | (refine wpList_cv rfl 45 42 _ rfl .f64 .f32 (by decide) _ rfl hud Try.underlying42 (fits_nan nan_isN) ?_; intro r' n' hr' hw'))
  go_ret
  refine ⟨_, _, rfl, rfl, ?_⟩
  have e : cv .f64 .f32 9221120237041090561 = qn .f32 := cv_nan (by decide) nan_isN
  rw [← e]; assumption

theorem num_not_nan {b : Nat} {s : Bool} {m : Nat} {p : Int} (h : Ieee.single.read b = .number s m p) : isN .f32 b = false := by
  show (Ieee.single.read b).isNaN = false
  rw [h]; rfl
theorem wide_num_read {b : Nat} {s : Bool} {m : Nat} {p : Int} (h : Ieee.single.read b = .number s m p) : ∃ m' p', Ieee.double.read (cv .f32 .f64 b) = .number s m' p' := by
  by_cases h0 : m = 0
  · subst h0
    obtain ⟨p', h'⟩ := wide_zero h
    exact ⟨0, p', h'⟩
  · cases s with
    | true => obtain ⟨m', p', h', h0'⟩ := wide_neg h h0; exact ⟨m', p', h'⟩
    | false => obtain ⟨⟨m', p', h', h0', _⟩, _⟩ := wide_pos h h0; exact ⟨m', p', h'⟩
theorem not_num_wide {b Y : Nat} (h : fin b = false) (hY : Sm .f64 Y (cv .f32 .f64 b)) : ∀ s m p, Ieee.double.read Y ≠ .number s m p := by
  intro s m p hd
  have hn : isN .f64 Y = false := by show (Ieee.double.read Y).isNaN = false; rw [hd]; rfl
  have hn2 : isN .f32 b = false := by rw [← wide_isN, ← hY.isN]; exact hn
  rcases read_not_nan hn2 with ⟨s', m', p', hd'⟩ | ⟨s', hd'⟩
  · have hd'' : Ieee.single.read b = .number s' m' p' := hd'
    unfold fin at h
    rw [hd''] at h; cases h
  · obtain rfl := hY.eq_of_not hn
    have := wide_inf hd'
    rw [hd] at this; cases this

/-- a number whose whole part is small is small -/
theorem nm_whole {y : Nat} {s : Bool} {m : Nat} {p : Int} (hd : Ieee.double.read y = .number s m p) (hw : whole m p < 4503599627370496) : Nm y 53 := by
  refine ⟨s, m, p, hd, ?_⟩
  by_cases h0 : m = 0
  · exact .inl h0
  right
  unfold whole at hw
  by_cases hp : 0 ≤ p
  · rw [if_pos hp] at hw
    have h1 : p.toNat < 53 := by
      refine Classical.byContradiction fun h => ?_
      have h2 : 2 ^ 53 ≤ 2 ^ p.toNat := Nat.pow_le_pow_right (by omega) (by omega)
      have h3 : 1 * 2 ^ p.toNat ≤ m * 2 ^ p.toNat := Nat.mul_le_mul_right _ (by omega)
      omega
    refine ⟨by omega, ?_⟩
    have e : 2 ^ 53 = 2 ^ (53 - p).toNat * 2 ^ p.toNat := by rw [← Nat.pow_add]; congr 1; omega
    refine Classical.byContradiction fun h => ?_
    have h3 : 2 ^ (53 - p).toNat * 2 ^ p.toNat ≤ m * 2 ^ p.toNat := Nat.mul_le_mul_right _ (by omega)
    rw [← e] at h3
    omega
  · rw [if_neg hp] at hw
    refine ⟨by omega, ?_⟩
    have h2 : m < (m / 2 ^ (-p).toNat + 1) * 2 ^ (-p).toNat := by
      have := Nat.lt_div_mul_add (a := m) (Nat.two_pow_pos (-p).toNat)
      rw [Nat.add_mul, Nat.one_mul]; exact this
    have h3 : (m / 2 ^ (-p).toNat + 1) * 2 ^ (-p).toNat ≤ 2 ^ 53 * 2 ^ (-p).toNat := Nat.mul_le_mul_right _ (by omega)
    have e : 2 ^ 53 * 2 ^ (-p).toNat = 2 ^ (53 - p).toNat := by rw [← Nat.pow_add]; congr 1; omega
    rw [e] at h3
    omega

theorem nm_sinW {y : Nat} {s : Bool} {m : Nat} {p : Int} (hd : Ieee.double.read y = .number s m p) (hw : whole m p < 4503599627370496) : Nm (sinW y) 43 := by
  have h1 := (nm_f1 (nm_fr hd hw)).2
  have h2 := (nm_f2 h1).2
  have h3 := (nm_f3 h2).2
  obtain ⟨z, u, hu, hs, _⟩ := sv_ops (P := Try.prog) h3
  exact nm_ngf hs _

end Go.Proofs.Ytibpahkjjjhapab.fnExactSineTurnsW
