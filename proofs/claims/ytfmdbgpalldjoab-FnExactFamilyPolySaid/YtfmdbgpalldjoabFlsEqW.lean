/- Two lists of the same 32-bit numbers are the same to the exact laws, not-a-numbers too. -/
import Derived.Test.YtfmdbgpalldjoabFlsW
import Derived.Test.YtfmdbgpalldjoabSameFloatW
import Derived.Deep.RegionWith
import Derived.Deep.QuietTactic
import Derived.BigQuiet
namespace Go.Proofs.Ytfmdbgpalldjoab.fls
open Go.RowKit Go.Fl Go.Proofs.Ytfmdbgpalldjoab.sameFloat

/-- the bits that a widened not-a-number takes in a world -/
def nv (b : Nat) (w : World) : Nat := (Question.nanConv .f64 b).cut (w.tape w.drawn (.nanConv .f64 b))
theorem nv_nan (b : Nat) (w : World) : isN .f64 (nv b w) = true := cut_nan .f64 _ _ (.inr ⟨b, rfl⟩)

theorem wide_nan_run {b : Nat} (h : isN .f32 b = true) (w : World) : (convert 31 36 (.float .f32 b)).run Try.prog w = .ok (.float .f64 (nv b w)) w.drew := by
  unfold isN at h
  have hs := Try.underlying31
  have hd := Try.underlying36
  cases hde : FloatKind.f32.decode b with
  | number _ _ _ => rw [hde] at h; cases h
  | infinity _ => rw [hde] at h; cases h
  | nan a c => simp [convert, run_underlying hs, run_underlying hd, Conv.floatToFloat, hde, Question.forced] <;> rfl

theorem wide_num_run {b : Nat} (h : isN .f32 b = false) : ∃ r, isN .f64 r = false ∧ ∀ w, (convert 31 36 (.float .f32 b)).run Try.prog w = .ok (.float .f64 r) w := by
  have hf : floatToFloatBits .f32 b .f64 = some (cv .f32 .f64 b) := by
    rcases fits_wide b with hn | hs
    · rw [h] at hn; cases hn
    · unfold cv
      cases hb : floatToFloatBits .f32 b .f64 with
      | some r => rfl
      | none => rw [hb] at hs; cases hs
  exact ⟨cv .f32 .f64 b, by rw [wide_isN]; exact h, fun w => run_convert_float_float w 31 36 .f32 .f64 b _ (by rw [Try.underlying31]; rfl) Try.underlying36 hf⟩

theorem same_nan {x y : Nat} (hx : isN .f64 x = true) (hy : isN .f64 y = true) (w : World) : Calls Try.prog 13 #[.float .f64 x, .float .f64 y] w fun e w' => e = .returned (.bool true) ∧ ∃ n, w' = w.drewN n :=
  same_any x y (.inr ⟨hx, hy⟩) w

set_option maxHeartbeats 1600000 in
theorem eq_any {v0 v1 : Value} {n : Nat} {f : Nat → Nat} {w : World} (h0 : Fls w v0 n f) (h1 : Fls w v1 n f) :
    Calls Try.prog 14 #[v0, v1] w fun e w' => e = .returned (.bool true) ∧ ∃ m, w' = w.drewN m := by
  obtain ⟨ao, cap, rfl, hn, hc0⟩ := h0
  obtain ⟨bo, cap1, rfl, _, hc1⟩ := h1
  have hc0' : Hid (n ≠ 0 → ∃ b off, ao = some ⟨b, off, none⟩ ∧ b < w.heap.size ∧ ∀ k, k < n → w.cell? ⟨b, off + k, none⟩ = some (.float .f32 (f k))) := hc0
  have hc1' : Hid (n ≠ 0 → ∃ b off, bo = some ⟨b, off, none⟩ ∧ b < w.heap.size ∧ ∀ k, k < n → w.cell? ⟨b, off + k, none⟩ = some (.float .f32 (f k))) := hc1
  clear hc0 hc1
  go_enter Try.func14, Try.ntmps14
  go_wp2
  go_loopw [5] (fun i wr => ∃ (k : Nat), k ≤ n ∧ i = .int .i64 k ∧ Hid (∃ m, wr = w.drewN m)) (fun i _ => n - (intOf i).toNat)
  case atStart => exact ⟨0, by omega, rfl, 0, rfl⟩
  case round =>
    obtain ⟨k, hk, rfl, hm⟩ := hrel
    by_cases hlt : k < n
    · obtain ⟨b, off, rfl, _, hcell⟩ := hc0'.out (by omega)
      obtain ⟨b', off', rfl, _, hcell'⟩ := hc1'.out (by omega)
      have e1 : wr.cell? ⟨b, off + k, none⟩ = some (.float .f32 (f k)) := by obtain ⟨m, rfl⟩ := hm.out; exact hcell k hlt
      have e2 : wr.cell? ⟨b', off' + k, none⟩ = some (.float .f32 (f k)) := by obtain ⟨m, rfl⟩ := hm.out; exact hcell' k hlt
      clear hcell hcell'
      have next : ∀ q, Hid (∃ m, wr.drewN q = w.drewN m) := fun q => by obtain ⟨m, rfl⟩ := hm.out; exact ⟨m + q, World.drewN_drewN _ _ _⟩
      clear hm
      cases hN : isN .f32 (f k) with
      | false =>
        obtain ⟨r, hr, hrun⟩ := wide_num_run hN
        have hq := fun w => same_any r r (Sm.refl _ _) w
        clear hN
        generalize f k = z at *
        go_wp2_with fail
        go_quiet (first | (go_at_call 13; exact Calls.quiet_of (hq _)))
        go_wp2
        go_roundw
        case rel => exact ⟨k + 1, by omega, by go_num, next _⟩
        case measure => simp [intOf]; omega
      | true =>
        have hrun := fun w => wide_nan_run hN w
        have hq := fun w w1 w2 => same_nan (nv_nan (f k) w1) (nv_nan (f k) w2) w
        clear hN
        generalize nv (f k) = g at *
        generalize f k = z at *
        go_wp2_with fail
        go_region_with (first | (go_at_call 13; refine (hq _ _ _).mono ?_; rintro e w' ⟨rfl, n, rfl⟩))
        all_goals
          go_wp2
          go_roundw
          case rel => exact ⟨k + 1, by omega, by go_num, next _⟩
          case measure => simp [intOf]; omega
    · obtain rfl : k = n := by omega
      obtain ⟨m, rfl⟩ := hm.out
      go_wp2
      go_ret
      exact ⟨rfl, _, rfl⟩
end Go.Proofs.Ytfmdbgpalldjoab.fls
