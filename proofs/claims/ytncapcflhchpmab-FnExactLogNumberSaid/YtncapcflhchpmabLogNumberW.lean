/- LogNumber and its model return the same at every number. -/
import Derived.Test.YtncapcflhchpmabLgSW
import Derived.Test.YtncapcflhchpmabNanW
import Derived.Test.YtncapcflhchpmabFinW
import Derived.Test.YtncapcflhchpmabSameFloatW
import Derived.Test.YtncapcflhchpmabPost
namespace Go.Proofs.Ytncapcflhchpmab.fnExactLogNumberW
open Go.RowKit Go.Fl Go.Proofs.Ytncapcflhchpmab.abs Go.Proofs.Ytncapcflhchpmab.nan Go.Proofs.Ytncapcflhchpmab.lg Go.Proofs.Ytncapcflhchpmab.fin Go.Proofs.Ytncapcflhchpmab.sameFloat

/-- the logarithm, narrowed -/
def lgN (b : Nat) : Nat := match Ieee.single.read b with
  | .nan _ _ => qn .f32
  | .infinity s => if s then qn .f32 else 2139095040
  | .number s m _ => if m = 0 then 4286578688 else if s then qn .f32 else cv .f64 .f32 (lgW (cv .f32 .f64 b))

def LgPost (b : Nat) (w : World) (e : Ending) (w' : World) : Prop := ∃ r n, e = .returned (.float .f32 r) ∧ w' = w.drewN n ∧ Sm .f32 r (lgN b)

/-- what a number is, as the switch asks it -/
theorem kinds (b : Nat) : isN .f32 b = true ∨ (FloatKind.f32.format.order b 0 = some .lt ∧ lgN b = qn .f32 ∧ isN .f32 b = false) ∨ (FloatKind.f32.format.order b 0 = some .eq ∧ lgN b = 4286578688 ∧ isN .f32 b = false)
    ∨ (FloatKind.f32.format.order b 0 = some .gt ∧ Ieee.single.read b = .infinity false ∧ isN .f32 b = false) ∨ (FloatKind.f32.format.order b 0 = some .gt ∧ isN .f32 b = false ∧ ∃ m p, Ieee.single.read b = .number false m p ∧ m ≠ 0) := by
  have ho := order_zero .f32 b
  have e : FloatKind.f32.format.read b = Ieee.single.read b := rfl
  rw [e] at ho
  have hN : isN .f32 b = (Ieee.single.read b).isNaN := rfl
  rw [ho, hN]
  unfold lgN
  cases hd : Ieee.single.read b with
  | nan s f => exact .inl rfl
  | infinity s => cases s <;> simp [Ieee.Datum.isNaN]
  | number s m p =>
    by_cases h0 : m = 0
    · simp [h0, Ieee.Datum.isNaN]
    · cases s <;> simp [h0, Ieee.Datum.isNaN]

theorem lgN_nan {b : Nat} (h : isN .f32 b = true) : lgN b = qn .f32 := by
  have h' : (Ieee.single.read b).isNaN = true := h
  unfold lgN
  cases hd : Ieee.single.read b with
  | nan s f => rfl
  | infinity s => rw [hd] at h'; cases h'
  | number s m p => rw [hd] at h'; cases h'
theorem inf_bits {b : Nat} (hb : (b : Int) ≤ 4294967295) (h : Ieee.single.read b = .infinity false) : b = 2139095040 := by
  have hs : Ieee.single.signWeight = 2147483648 := by decide
  have hbi : Ieee.single.binade = 8388608 := by decide
  have hi : Ieee.single.infRung = 2139095040 := by decide
  unfold Ieee.Format.read at h
  simp only [hs, hbi, hi] at h
  split at h
  · cases h
  · split at h
    · cases h
    · split at h
      · injection h with h
        simp at h
        omega
      · cases h

theorem narrow_nan {r x : Nat} (hx : isN .f64 x = true) (h : Sm .f32 r (cv .f64 .f32 x)) : Sm .f32 r (qn .f32) := by
  rw [cv_nan (by decide) hx] at h; exact h

theorem impl_any (b : Nat) (hb : (b : Int) ≤ 4294967295) (w : World) : Calls Try.prog 29 #[.float .f32 b] w (LgPost b w) := by
  have huf : (Try.prog.underlying 22).isSome = true := by rw [Try.underlying22]; rfl
  have hud : (Try.prog.underlying 25).isSome = true := by rw [Try.underlying25]; rfl
  rcases kinds b with hn | ⟨ho, hl, hn⟩ | ⟨ho, hl, hn⟩ | ⟨ho, hd, hn⟩ | ⟨ho, hn, m, p, hd, h0⟩
  · have HL : Hid (lgN b = qn .f32) := lgN_nan hn
    have hs := order_self_nan hn
    clear hn
    go_enter Try.func29, Try.ntmps29
    go_wp2_with (first | (go_at_call 41; refine (nan_any _).mono ?_; rintro e w' ⟨rfl, rfl⟩) | (refine wpList_cv rfl 25 22 _ rfl .f64 .f32 (by decide) _ rfl hud Try.underlying22 (fits_nan nan_isN) ?_; intro r n hr hw))
    go_ret
    exact ⟨_, _, rfl, rfl, by rw [HL.out]; exact narrow_nan nan_isN (by assumption)⟩
  · have HL : Hid (lgN b = qn .f32) := hl
    have hs := order_self_num hn
    clear hn hl
    go_enter Try.func29, Try.ntmps29
    go_wp2_with (first | (go_at_call 41; refine (nan_any _).mono ?_; rintro e w' ⟨rfl, rfl⟩) | (refine wpList_cv rfl 25 22 _ rfl .f64 .f32 (by decide) _ rfl hud Try.underlying22 (fits_nan nan_isN) ?_; intro r n hr hw))
    go_ret
    exact ⟨_, _, rfl, rfl, by rw [HL.out]; exact narrow_nan nan_isN (by assumption)⟩
  · have HL : Hid (lgN b = 4286578688) := hl
    have hs := order_self_num hn
    clear hn hl
    go_enter Try.func29, Try.ntmps29
    go_wp2_with (first | (go_at_call 55; refine (inf_neg _).mono ?_; rintro e w' ⟨rfl, rfl⟩) | (refine wpList_cv rfl 25 22 _ rfl .f64 .f32 (by decide) _ rfl hud Try.underlying22 (fits_inf (s := true) (by decide)) ?_; intro r n hr hw))
    go_ret
    refine ⟨_, _, rfl, rfl, ?_⟩
    rw [HL.out]
    have e : cv .f64 .f32 18442240474082181120 = 4286578688 := by decide
    rw [← e]; assumption
  · have HL : Hid (lgN b = b) := by show lgN b = b; rw [inf_bits hb hd]; decide
    have HF : Hid (fin b = false) := by show fin b = false; unfold fin; rw [hd]
    have hs := order_self_num hn
    clear hn hd
    go_enter Try.func29, Try.ntmps29
    go_wp2_with (first | (go_at_call 48; refine (fin.impl_any _ _).mono ?_; rw [HF.out]; rintro e w' ⟨rfl, n, rfl⟩))
    go_ret
    exact ⟨_, _, rfl, rfl, by rw [HL.out]; exact Sm.refl _ _⟩
  · obtain ⟨hp, hp1, hp2⟩ := wide_pos hd h0
    have HL : Hid (lgN b = cv .f64 .f32 (lgW (cv .f32 .f64 b))) := by show lgN b = _; unfold lgN; rw [hd]; simp [h0]
    have HF : Hid (fin b = true) := by show fin b = true; unfold fin; rw [hd]
    have hs := order_self_num hn
    have HN : Hid (isN .f64 (cv .f32 .f64 b) = false) := by show isN _ _ = false; rw [wide_isN]; exact hn
    have hfit : Fits .f64 .f32 (lgW (cv .f32 .f64 b)) := ok_fits (nm_lgW hp (by omega) (by omega)).ok (by omega)
    clear hn hd h0
    generalize hL : p + (m.log2 : Int) = L at *
    clear hL
    go_enter Try.func29, Try.ntmps29
    go_wp2_with (first | (go_at_call 48; refine (fin.impl_any _ _).mono ?_; rw [HF.out]; rintro e w' ⟨rfl, n, rfl⟩) | (refine wpList_cv rfl 22 25 _ rfl .f32 .f64 (by decide) _ rfl huf Try.underlying25 (fits_wide _) ?_; intro r n hr hw; obtain rfl := (hr.symm.eq_of_not HN.out).symm; clear hr) | (go_at_call 52; refine (impl_pos _ _ hp (by omega) (by omega) _).mono ?_; rintro e w' ⟨rfl, rfl⟩) | (go_at_call 33; refine (nan.narrow_impl hfit _).mono ?_; rintro e w' ⟨r, n, rfl, rfl, hr⟩))
    go_ret
    exact ⟨_, _, rfl, rfl, by rw [HL.out]; assumption⟩

theorem wide_nan (y : Nat) (hy : isN .f64 y = true) (w : World) : Calls Try.prog 68 #[.float .f64 y] w fun e w' => e = .returned (.float .f64 9221120237041090561) ∧ w = w' := by
  have hs := order_self_nan hy
  clear hy
  go_enter Try.func68, Try.ntmps68
  go_wp2_with (first | (go_at_call 41; refine (nan_any _).mono ?_; rintro e w' ⟨rfl, rfl⟩))
  go_ret
  exact ⟨rfl, rfl⟩
theorem wide_lt (y : Nat) (hy : isN .f64 y = false) (ho : FloatKind.f64.format.order y 0 = some .lt) (w : World) : Calls Try.prog 68 #[.float .f64 y] w fun e w' => e = .returned (.float .f64 9221120237041090561) ∧ w = w' := by
  have hs := order_self_num hy
  clear hy
  go_enter Try.func68, Try.ntmps68
  go_wp2_with (first | (go_at_call 41; refine (nan_any _).mono ?_; rintro e w' ⟨rfl, rfl⟩))
  go_ret
  exact ⟨rfl, rfl⟩
theorem wide_eq (y : Nat) (hy : isN .f64 y = false) (ho : FloatKind.f64.format.order y 0 = some .eq) (w : World) : Calls Try.prog 68 #[.float .f64 y] w fun e w' => e = .returned (.float .f64 18442240474082181120) ∧ w = w' := by
  have hs := order_self_num hy
  clear hy
  go_enter Try.func68, Try.ntmps68
  go_wp2_with (first | (go_at_call 55; refine (inf_neg _).mono ?_; rintro e w' ⟨rfl, rfl⟩))
  go_ret
  exact ⟨rfl, rfl⟩
theorem wide_in (y : Nat) (hy : isN .f64 y = false) (ho : FloatKind.f64.format.order y 0 = some .gt) (hm : (FloatKind.f64.format.order y 9218868437227405311 == some .gt) = true) (w : World) : Calls Try.prog 68 #[.float .f64 y] w fun e w' => e = .returned (.float .f64 y) ∧ w = w' := by
  have hs := order_self_num hy
  clear hy
  go_enter Try.func68, Try.ntmps68
  go_wp2_with (first | (go_at_call 65; go_in))
  go_ret
  exact ⟨rfl, rfl⟩

theorem spec_log (b : Nat) (w : World) : Calls Try.prog 54 #[.float .f32 b] w (LgPost b w) := by
  have huf : (Try.prog.underlying 22).isSome = true := by rw [Try.underlying22]; rfl
  rcases kinds b with hn | ⟨ho, hl, hn⟩ | ⟨ho, hl, hn⟩ | ⟨ho, hd, hn⟩ | ⟨ho, hn, m, p, hd, h0⟩
  · have HL : Hid (lgN b = qn .f32) := lgN_nan hn
    have HN : Hid (isN .f64 (cv .f32 .f64 b) = true) := by show isN _ _ = true; rw [wide_isN]; exact hn
    clear hn
    go_enter Try.func54, Try.ntmps54
    go_wp2_with (first | (refine wpList_cv rfl 22 25 _ rfl .f32 .f64 (by decide) _ rfl huf Try.underlying25 (fits_wide _) ?_; intro r n hr hw) | (go_at_call 68; refine (wide_nan _ ((Sm.isN (by assumption)).trans HN.out) _).mono ?_; rintro e w' ⟨rfl, rfl⟩) | (go_at_call 57; refine (nan.narrow_spec (fits_nan nan_isN) _).mono ?_; rintro e w' ⟨r, n, rfl, rfl, hr⟩))
    go_ret
    exact ⟨_, _, rfl, rfl, by rw [HL.out]; exact narrow_nan nan_isN (by assumption)⟩
  · have HL : Hid (lgN b = qn .f32) := hl
    have HN : Hid (isN .f64 (cv .f32 .f64 b) = false) := by show isN _ _ = false; rw [wide_isN]; exact hn
    have HO : Hid (FloatKind.f64.format.order (cv .f32 .f64 b) 0 = some .lt) := by
      show _ = _
      rw [order_zero] at ho ⊢
      rcases read_not_nan hn with ⟨s, m, p, hd⟩ | ⟨s, hd⟩
      · rw [hd] at ho
        by_cases h0 : m = 0
        · simp [h0] at ho
        · cases s with
          | false => simp [h0] at ho
          | true =>
            obtain ⟨m', p', hd', h0'⟩ := wide_neg hd h0
            have hd'' : FloatKind.f64.format.read (cv .f32 .f64 b) = _ := hd'
            rw [hd'']; simp [h0']
      · rw [hd] at ho
        cases s with
        | false => simp at ho
        | true =>
          have hd'' : FloatKind.f64.format.read (cv .f32 .f64 b) = _ := wide_inf hd
          rw [hd'']; rfl
    clear hn hl ho
    go_enter Try.func54, Try.ntmps54
    go_wp2_with (first | (refine wpList_cv rfl 22 25 _ rfl .f32 .f64 (by decide) _ rfl huf Try.underlying25 (fits_wide _) ?_; intro r n hr hw; obtain rfl := (hr.symm.eq_of_not HN.out).symm; clear hr) | (go_at_call 68; refine (wide_lt _ HN.out HO.out _).mono ?_; rintro e w' ⟨rfl, rfl⟩) | (go_at_call 57; refine (nan.narrow_spec (fits_nan nan_isN) _).mono ?_; rintro e w' ⟨r, n, rfl, rfl, hr⟩))
    go_ret
    exact ⟨_, _, rfl, rfl, by rw [HL.out]; exact narrow_nan nan_isN (by assumption)⟩
  · have HL : Hid (lgN b = 4286578688) := hl
    have HN : Hid (isN .f64 (cv .f32 .f64 b) = false) := by show isN _ _ = false; rw [wide_isN]; exact hn
    have HO : Hid (FloatKind.f64.format.order (cv .f32 .f64 b) 0 = some .eq) := by
      obtain ⟨s, p, hd⟩ := zero_of_order ho
      obtain ⟨p', hd'⟩ := wide_zero hd
      have hd'' : FloatKind.f64.format.read (cv .f32 .f64 b) = _ := hd'
      show _ = _
      rw [order_zero, hd'']; rfl
    clear hn hl ho
    go_enter Try.func54, Try.ntmps54
    go_wp2_with (first | (refine wpList_cv rfl 22 25 _ rfl .f32 .f64 (by decide) _ rfl huf Try.underlying25 (fits_wide _) ?_; intro r n hr hw; obtain rfl := (hr.symm.eq_of_not HN.out).symm; clear hr) | (go_at_call 68; refine (wide_eq _ HN.out HO.out _).mono ?_; rintro e w' ⟨rfl, rfl⟩) | (go_at_call 57; refine (nan.narrow_spec (fits_inf (s := true) (by decide)) _).mono ?_; rintro e w' ⟨r, n, rfl, rfl, hr⟩))
    go_ret
    refine ⟨_, _, rfl, rfl, ?_⟩
    rw [HL.out]
    have e : cv .f64 .f32 18442240474082181120 = 4286578688 := by decide
    rw [← e]; assumption
  · have HD : Hid (Ieee.double.read (cv .f32 .f64 b) = .infinity false) := wide_inf hd
    have HL : Hid (lgN b = cv .f64 .f32 (cv .f32 .f64 b)) := by
      show _ = _
      have h1 : cv .f64 .f32 (cv .f32 .f64 b) = 2139095040 := by
        have hde : FloatKind.f64.decode (cv .f32 .f64 b) = .infinity false := HD.out
        generalize cv .f32 .f64 b = x at *
        unfold cv floatToFloatBits
        rw [if_neg (by decide), hde]; decide
      rw [h1]; unfold lgN; rw [hd]; rfl
    have HN : Hid (isN .f64 (cv .f32 .f64 b) = false) := by show isN _ _ = false; rw [wide_isN]; exact hn
    have HO : Hid (FloatKind.f64.format.order (cv .f32 .f64 b) 0 = some .gt) := by
      have hd'' : FloatKind.f64.format.read (cv .f32 .f64 b) = _ := HD.out
      show _ = _
      rw [order_zero, hd'']; rfl
    have HM : Hid ((FloatKind.f64.format.order (cv .f32 .f64 b) 9218868437227405311 == some .gt) = true) := max_inf HD.out
    clear hn hd ho
    go_enter Try.func54, Try.ntmps54
    go_wp2_with (first | (refine wpList_cv rfl 22 25 _ rfl .f32 .f64 (by decide) _ rfl huf Try.underlying25 (fits_wide _) ?_; intro r n hr hw; obtain rfl := (hr.symm.eq_of_not HN.out).symm; clear hr) | (go_at_call 68; refine (wide_in _ HN.out HO.out HM.out _).mono ?_; rintro e w' ⟨rfl, rfl⟩) | (go_at_call 57; refine (nan.narrow_spec (fits_inf HD.out) _).mono ?_; rintro e w' ⟨r, n, rfl, rfl, hr⟩))
    go_ret
    exact ⟨_, _, rfl, rfl, by rw [HL.out]; assumption⟩
  · obtain ⟨hp, hp1, hp2⟩ := wide_pos hd h0
    have HL : Hid (lgN b = cv .f64 .f32 (lgW (cv .f32 .f64 b))) := by show lgN b = _; unfold lgN; rw [hd]; simp [h0]
    have HN : Hid (isN .f64 (cv .f32 .f64 b) = false) := by show isN _ _ = false; rw [wide_isN]; exact hn
    have hfit : Fits .f64 .f32 (lgW (cv .f32 .f64 b)) := ok_fits (nm_lgW hp (by omega) (by omega)).ok (by omega)
    clear hn hd h0 ho
    generalize hL : p + (m.log2 : Int) = L at *
    clear hL
    go_enter Try.func54, Try.ntmps54
    go_wp2_with (first | (refine wpList_cv rfl 22 25 _ rfl .f32 .f64 (by decide) _ rfl huf Try.underlying25 (fits_wide _) ?_; intro r n hr hw; obtain rfl := (hr.symm.eq_of_not HN.out).symm; clear hr) | (go_at_call 68; refine (spec_pos _ _ hp (by omega) (by omega) _).mono ?_; rintro e w' ⟨rfl, rfl⟩) | (go_at_call 57; refine (nan.narrow_spec hfit _).mono ?_; rintro e w' ⟨r, n, rfl, rfl, hr⟩))
    go_ret
    exact ⟨_, _, rfl, rfl, by rw [HL.out]; assumption⟩

theorem spec_any (b : Nat) (w : World) : Calls Try.prog 28 #[.float .f32 b] w (LgPost b w) := by
  go_enter Try.func28, Try.ntmps28
  go_wp2_with (first | (go_at_call 54; refine (spec_log _ _).mono ?_; rintro e w' ⟨r, n, rfl, rfl, hr⟩))
  go_ret
  exact ⟨_, _, rfl, rfl, by assumption⟩

theorem walk (a0 : Nat) (w0 : (Lit.float .f32 a0).wf = true) (w : World) :
    Calls Try.prog 10 #[.float .f32 a0] w fun e w' => e = .returned (.bool true) ∧ Below w.heap.size w w' := by
  have huf : (Try.prog.underlying 22).isSome = true := by rw [Try.underlying22]; rfl
  have hb : (a0 : Int) ≤ 4294967295 := by
    simp [Lit.wf] at w0
    omega
  clear w0
  go_enter Try.func10, Try.ntmps10
  go_wp2_with fail
  refine (spec_any a0 _).mono ?_
  rintro e w' ⟨x, n, rfl, rfl, hx⟩
  go_wp2_with fail
  refine (fnExactLogNumberW.impl_any a0 hb _).mono ?_
  rintro e w' ⟨y, n', rfl, rfl, hy⟩
  have hxy : ∀ r r', Sm .f64 r (cv .f32 .f64 y) → Sm .f64 r' (cv .f32 .f64 x) → Sm .f64 r r' := fun r r' h h' => by
    rw [cv_congr (by decide) (hy.trans hx.symm)] at h
    exact h.trans h'.symm
  clear hx hy
  go_wp2_with (first | (refine wpList_cv rfl 22 25 _ rfl .f32 .f64 (by decide) _ rfl huf Try.underlying25 (fits_wide _) ?_; intro r n hr hw) | (go_at_call 14; refine (same_any _ _ (hxy _ _ (by assumption) (by assumption)) _).mono ?_; rintro e w' ⟨rfl, n, rfl⟩))
  go_ret
  exact ⟨rfl, Go.Pst.below_draws ⟨_, rfl⟩⟩
end Go.Proofs.Ytncapcflhchpmab.fnExactLogNumberW
