/- LogNumber returns the logarithm at every number. -/
import Derived.Test.YtclogbnecgfndabLgW
import Derived.Test.YtclogbnecgfndabNanW
import Derived.Test.YtclogbnecgfndabFinW
namespace Go.Proofs.Ytclogbnecgfndab.fnExactLogNumberW
open Go.RowKit Go.Fl Go.Proofs.Ytclogbnecgfndab.abs Go.Proofs.Ytclogbnecgfndab.nan Go.Proofs.Ytclogbnecgfndab.lg Go.Proofs.Ytclogbnecgfndab.fin

/-- the logarithm, narrowed -/
def lgN (b : Nat) : Nat := match Ieee.single.read b with
  | .nan _ _ => qn .f32
  | .infinity s => if s then qn .f32 else 2139095040
  | .number s m _ => if m = 0 then 4286578688 else if s then qn .f32 else cv .f64 .f32 (lgW (cv .f32 .f64 b))

def LgPost (b : Nat) (w : World) (e : Ending) (w' : World) : Prop := ∃ r n, e = .returned (.float .f32 r) ∧ w' = w.drewN n ∧ Sm .f32 r (lgN b)

/-- what a number is, as the switch asks it -/
theorem kinds (b : Nat) : isN .f32 b = true ∨ (FloatKind.f32.format.order b 0 = some .lt ∧ lgN b = qn .f32 ∧ isN .f32 b = false) ∨ (FloatKind.f32.format.order b 0 = some .eq ∧ lgN b = 4286578688 ∧ isN .f32 b = false)
    ∨ (FloatKind.f32.format.order b 0 = some .gt ∧ Ieee.single.read b = .infinity false ∧ isN .f32 b = false) ∨ (FloatKind.f32.format.order b 0 = some .gt ∧ isN .f32 b = false ∧ ∃ m p, Ieee.single.read b = .number false m p ∧ m ≠ 0) := by
  have ho := order_zero .f32 b
  have e : FloatKind.f32.format.read b = Ieee.single.read b := rfl
  rw [e] at ho
  have hN : isN .f32 b = (Ieee.single.read b).isNaN := rfl
  rw [ho, hN]
  unfold lgN
  cases hd : Ieee.single.read b with
  | nan s f => exact .inl rfl
  | infinity s => cases s <;> simp [Ieee.Datum.isNaN]
  | number s m p =>
    by_cases h0 : m = 0
    · simp [h0, Ieee.Datum.isNaN]
    · cases s <;> simp [h0, Ieee.Datum.isNaN]

theorem lgN_nan {b : Nat} (h : isN .f32 b = true) : lgN b = qn .f32 := by
  have h' : (Ieee.single.read b).isNaN = true := h
  unfold lgN
  cases hd : Ieee.single.read b with
  | nan s f => rfl
  | infinity s => rw [hd] at h'; cases h'
  | number s m p => rw [hd] at h'; cases h'
theorem inf_bits {b : Nat} (hb : (b : Int) ≤ 4294967295) (h : Ieee.single.read b = .infinity false) : b = 2139095040 := by
  have hs : Ieee.single.signWeight = 2147483648 := by decide
  have hbi : Ieee.single.binade = 8388608 := by decide
  have hi : Ieee.single.infRung = 2139095040 := by decide
  unfold Ieee.Format.read at h
  simp only [hs, hbi, hi] at h
  split at h
  · cases h
  · split at h
    · cases h
    · split at h
      · injection h with h
        simp at h
        omega
      · cases h

theorem narrow_nan {r x : Nat} (hx : isN .f64 x = true) (h : Sm .f32 r (cv .f64 .f32 x)) : Sm .f32 r (qn .f32) := by
  rw [cv_nan (by decide) hx] at h; exact h

theorem impl_any (b : Nat) (hb : (b : Int) ≤ 4294967295) (w : World) : Calls Try.prog 16 #[.float .f32 b] w (LgPost b w) := by
  have huf : (Try.prog.underlying 28).isSome = true := by rw [Try.underlying28]; rfl
  have hud : (Try.prog.underlying 27).isSome = true := by rw [Try.underlying27]; rfl
  rcases kinds b with hn | ⟨ho, hl, hn⟩ | ⟨ho, hl, hn⟩ | ⟨ho, hd, hn⟩ | ⟨ho, hn, m, p, hd, h0⟩
  · have HL : Hid (lgN b = qn .f32) := lgN_nan hn
    have hs := order_self_nan hn
    clear hn
    go_enter Try.func16, Try.ntmps16
    go_wp2_with (first | (go_at_call 19; refine (nan_any _).mono ?_; rintro e w' ⟨rfl, rfl⟩) | (refine wpList_cv rfl 27 28 _ rfl .f64 .f32 (by decide) _ rfl hud Try.underlying28 (fits_nan nan_isN) ?_; intro r n hr hw))
    go_ret
    exact ⟨_, _, rfl, rfl, by rw [HL.out]; exact narrow_nan nan_isN (by assumption)⟩
  · have HL : Hid (lgN b = qn .f32) := hl
    have hs := order_self_num hn
    clear hn hl
    go_enter Try.func16, Try.ntmps16
    go_wp2_with (first | (go_at_call 19; refine (nan_any _).mono ?_; rintro e w' ⟨rfl, rfl⟩) | (refine wpList_cv rfl 27 28 _ rfl .f64 .f32 (by decide) _ rfl hud Try.underlying28 (fits_nan nan_isN) ?_; intro r n hr hw))
    go_ret
    exact ⟨_, _, rfl, rfl, by rw [HL.out]; exact narrow_nan nan_isN (by assumption)⟩
  · have HL : Hid (lgN b = 4286578688) := hl
    have hs := order_self_num hn
    clear hn hl
    go_enter Try.func16, Try.ntmps16
    go_wp2_with (first | (go_at_call 31; refine (inf_neg _).mono ?_; rintro e w' ⟨rfl, rfl⟩) | (refine wpList_cv rfl 27 28 _ rfl .f64 .f32 (by decide) _ rfl hud Try.underlying28 (fits_inf (s := true) (by decide)) ?_; intro r n hr hw))
    go_ret
    refine ⟨_, _, rfl, rfl, ?_⟩
    rw [HL.out]
    have e : cv .f64 .f32 18442240474082181120 = 4286578688 := by decide
    rw [← e]; assumption
  · have HL : Hid (lgN b = b) := by show lgN b = b; rw [inf_bits hb hd]; decide
    have HF : Hid (fin b = false) := by show fin b = false; unfold fin; rw [hd]
    have hs := order_self_num hn
    clear hn hd
    go_enter Try.func16, Try.ntmps16
    go_wp2_with (first | (go_at_call 27; refine (fin.impl_any _ _).mono ?_; rw [HF.out]; rintro e w' ⟨rfl, n, rfl⟩))
    go_ret
    exact ⟨_, _, rfl, rfl, by rw [HL.out]; exact Sm.refl _ _⟩
  · obtain ⟨hp, hp1, hp2⟩ := wide_pos hd h0
    have HL : Hid (lgN b = cv .f64 .f32 (lgW (cv .f32 .f64 b))) := by show lgN b = _; unfold lgN; rw [hd]; simp [h0]
    have HF : Hid (fin b = true) := by show fin b = true; unfold fin; rw [hd]
    have hs := order_self_num hn
    have HN : Hid (isN .f64 (cv .f32 .f64 b) = false) := by show isN _ _ = false; rw [wide_isN]; exact hn
    have hfit : Fits .f64 .f32 (lgW (cv .f32 .f64 b)) := ok_fits (nm_lgW hp (by omega) (by omega)).ok (by omega)
    clear hn hd h0
    generalize hL : p + (m.log2 : Int) = L at *
    clear hL
    go_enter Try.func16, Try.ntmps16
    go_wp2_with (first | (go_at_call 27; refine (fin.impl_any _ _).mono ?_; rw [HF.out]; rintro e w' ⟨rfl, n, rfl⟩) | (refine wpList_cv rfl 28 27 _ rfl .f32 .f64 (by decide) _ rfl huf Try.underlying27 (fits_wide _) ?_; intro r n hr hw; obtain rfl := (hr.symm.eq_of_not HN.out).symm; clear hr) | (go_at_call 28; refine (impl_pos _ _ hp (by omega) (by omega) _).mono ?_; rintro e w' ⟨rfl, rfl⟩) | (go_at_call 24; refine (nan.narrow_impl hfit _).mono ?_; rintro e w' ⟨r, n, rfl, rfl, hr⟩))
    go_ret
    exact ⟨_, _, rfl, rfl, by rw [HL.out]; assumption⟩
end Go.Proofs.Ytclogbnecgfndab.fnExactLogNumberW
