/- TenthsOf returns the tenths at every number. -/
import Derived.Test.YtclogbnecgfndabLgW
import Derived.Test.YtclogbnecgfndabFlF
import Derived.Test.YtclogbnecgfndabFlZ
import Derived.Test.YtclogbnecgfndabFinW
namespace Go.Proofs.Ytclogbnecgfndab.fnExactTenthsOfW
open Go.RowKit Go.Fl Go.Proofs.Ytclogbnecgfndab.lg Go.Proofs.Ytclogbnecgfndab.fin

theorem call_floor {b m : Nat} {s : Bool} {p : Int} (hd : Ieee.double.read b = .number s m p) (w : World) : (callFunc 38 #[.float .f64 b]).run Try.prog w = .ok (.value (.float .f64 (flo b))) w := by
  rw [run_callFunc_extern Try.func38 (by kernel_rfl) (by kernel_rfl) (by kernel_rfl) (e := Extern.MathFloor.toIntegral "math.archFloor" .down) (by kernel_rfl)]
  have hde : FloatKind.f64.decode b = .number s m p := hd
  have e : Extern.MathFloor.toIntegral "math.archFloor" .down #[.float .f64 b] = (match FloatKind.f64.decode b with
    | .nan s t =>
      if FloatKind.f64.format.quiet t = t then pure (.float .f64 b) else do
      let kept ← choose (.extern "math.Floor,Ceil,Trunc,RoundToEven.signallingNaN kept" 2)
      pure (.float .f64 (if kept == 1 then b else FloatKind.f64.encode (.nan s (FloatKind.f64.format.quiet t))))
    | d => pure (.float .f64 (FloatKind.f64.encode (d.integral .down)))) := rfl
  rw [e, hde]
  unfold flo
  rw [hd]
  rfl

theorem floor_any {b : Nat} {E : Int} (h : Nm b E) (w : World) : Calls Try.prog 29 #[.float .f64 b] w fun e w' => e = .returned (.float .f64 (flo b)) ∧ w = w' := by
  obtain ⟨s, m, p, hd, _⟩ := h
  have hc := fun w => call_floor hd w
  clear hd
  go_enter Try.func29, Try.ntmps29
  go_wp2
  go_ret
  exact ⟨rfl, rfl⟩

/-- tenths of decibels, before they are cut -/
def tnX (b : Nat) : Nat := ar .add .f64 (ar .mul .f64 (lgW (cv .f32 .f64 b)) 4631308968768463603) 4602678819172646912
def tn (b : Nat) : Int := trunc (flo (tnX b))

theorem nm_c : Nm 4631308968768463603 6 := nm_const 6 (s := false) (m := 6112151458964211) (p := -47) (by decide) (by decide) (by decide)
theorem nm_half : Nm 4602678819172646912 0 := nm_const 0 (s := false) (m := 4503599627370496) (p := -53) (by decide) (by decide) (by decide)

/-- the operations of both functions, all of numbers -/
theorem steps {P : Program} {b : Nat} {L : Int} (hp : Pos (cv .f32 .f64 b) L) (h1 : L ≤ 200) (h2 : -200 ≤ L) : ∃ a x y : Nat, x = tnX b ∧ y = flo x ∧ Nm x 52 ∧ Nm y 53 ∧
    (∀ t w, (binOp .mul t (.float .f64 (lgW (cv .f32 .f64 b))) (.float .f64 4631308968768463603)).run P w = .ok (.float .f64 a) w) ∧
    (∀ t w, (binOp .add t (.float .f64 a) (.float .f64 4602678819172646912)).run P w = .ok (.float .f64 x) w) := by
  have n1 := nm_lgW hp (by omega) (by omega)
  have n2 : Nm (ar .mul .f64 (lgW (cv .f32 .f64 b)) 4631308968768463603) 51 := nm_mul n1 nm_c (by omega) (by omega) (by omega)
  have n3 : Nm (tnX b) 52 := nm_add n2 (nm_half.mono (by omega)) (by omega) (by omega) (by omega)
  exact ⟨_, _, _, rfl, rfl, n3, nm_flo n3 (by omega) (by omega), fun t w => run_nm n2 t w, fun t w => run_nm (op := .add) n3 t w⟩

theorem impl_yes (b : Nat) {m : Nat} {p : Int} (hd : Ieee.single.read b = .number false m p) (h0 : m ≠ 0) (w : World) :
    Calls Try.prog 13 #[.float .f32 b] w fun e w' => e = .returned (.tuple #[.int .i64 (tn b), .bool true]) ∧ ∃ n, w' = w.drewN n := by
  have huf : (Try.prog.underlying 28).isSome = true := by rw [Try.underlying28]; rfl
  have hud : (Try.prog.underlying 27).isSome = true := by rw [Try.underlying27]; rfl
  obtain ⟨hp, hp1, hp2⟩ := wide_pos hd h0
  obtain ⟨a, x, y, hx, hy, nx, ny, o1, o2⟩ := steps (P := Try.prog) hp (by omega) (by omega)
  have HF : Hid (fin b = true) := by show fin b = true; unfold fin; rw [hd]
  have ho : FloatKind.f32.format.order b 0 = some .gt := by
    have hd' : FloatKind.f32.format.read b = _ := hd
    rw [order_zero, hd']; simp [h0]
  have HN : Hid (isN .f64 (cv .f32 .f64 b) = false) := by
    show isN _ _ = false
    rw [wide_isN]
    show (Ieee.single.read b).isNaN = false
    rw [hd]; rfl
  have HT : Hid (trunc y = tn b) := by show trunc y = tn b; rw [hy, hx]; rfl
  have HX : Hid (Nm x 52) := nx
  have hc : ∀ w, (convert 27 2 (.float .f64 y)).run Try.prog w = .ok (.int .i64 (trunc y)) w := fun w => to_int ny (by omega) (by omega) _ _ hud Try.underlying2 w
  have HY : Hid (y = flo x) := hy
  clear hx hy nx ny hd h0
  generalize hL : p + (m.log2 : Int) = L at *
  clear hL
  go_enter Try.func13, Try.ntmps13
  go_wp2_with (first | (go_at_call 27; refine (fin.impl_any _ _).mono ?_; rw [HF.out]; rintro e w' ⟨rfl, n, rfl⟩) | (refine wpList_cv rfl 28 27 _ rfl .f32 .f64 (by decide) _ rfl huf Try.underlying27 (fits_wide _) ?_; intro r n hr hw; obtain rfl := (hr.symm.eq_of_not HN.out).symm; clear hr) | (go_at_call 28; refine (impl_pos _ _ hp (by omega) (by omega) _).mono ?_; rintro e w' ⟨rfl, rfl⟩) | (go_at_call 29; refine (floor_any HX.out _).mono ?_; rw [← HY.out]; rintro e w' ⟨rfl, rfl⟩))
  go_ret2
  exact ⟨by rw [← HT.out]; rfl, _, rfl⟩

theorem impl_no (b : Nat) (h : fin b = false ∨ FloatKind.f32.format.order b 0 = some .lt ∨ FloatKind.f32.format.order b 0 = some .eq) (w : World) :
    Calls Try.prog 13 #[.float .f32 b] w fun e w' => e = .returned (.tuple #[.int .i64 0, .bool false]) ∧ ∃ n, w' = w.drewN n := by
  cases hf : fin b with
  | false =>
    have HF : Hid (fin b = false) := hf
    clear hf h
    go_enter Try.func13, Try.ntmps13
    go_wp2_with (first | (go_at_call 27; refine (fin.impl_any _ _).mono ?_; rw [HF.out]; rintro e w' ⟨rfl, n, rfl⟩))
    go_ret2
    exact ⟨rfl, _, rfl⟩
  | true =>
    have HF : Hid (fin b = true) := hf
    have h2 : FloatKind.f32.format.order b 0 = some .lt ∨ FloatKind.f32.format.order b 0 = some .eq := by
      rcases h with h | h
      · rw [hf] at h; cases h
      · exact h
    clear hf h
    rcases h2 with ho | ho
    all_goals
      go_enter Try.func13, Try.ntmps13
      go_wp2_with (first | (go_at_call 27; refine (fin.impl_any _ _).mono ?_; rw [HF.out]; rintro e w' ⟨rfl, n, rfl⟩))
      go_ret2
      exact ⟨rfl, _, rfl⟩
end Go.Proofs.Ytclogbnecgfndab.fnExactTenthsOfW
