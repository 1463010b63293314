/- Lists of complex numbers without imaginary parts: finite ones, and ones whose highest is not 0, in the program. -/
import Derived.Test.YtfmdbgpalldjoabFpH
namespace Go.Proofs.Ytfmdbgpalldjoab.fp
open Go.RowKit Go.Fl Go.Fa Go.Fp Go.Proofs.Ytfmdbgpalldjoab.fls Go.Proofs.Ytfmdbgpalldjoab.fa Go.Proofs.Ytfmdbgpalldjoab.fin

theorem icf_any (a : Nat) (ha : fin a = true) (w : World) : Calls Try.prog 60 #[.complex .f32 a 0] w fun e w' => e = .returned (.bool true) ∧ ∃ n, w' = w.drewN n := by
  have HY := Lib.hid (fun b w => fin.impl_any b w)
  have h0 := fin_0
  go_enter Try.func60, Try.ntmps60
  go_wp2_with (first | (go_at_call 31; refine (HY.out _ _).mono ?_; rintro e w' ⟨rfl, q, rfl⟩; try rw [ha]; try rw [h0]))
  go_ret
  exact ⟨by rfl, _, by first | rfl | exact World.drewN_drewN _ _ _⟩

theorem icfin_any {g n cap : Nat} {f : Nat → Nat} {w : World} (h : Cxl w g n f) (hf : ∀ k, k < n → fin (f k) = true) (hn : n ≤ 100) : Calls Try.prog 56 #[.slice (some ⟨g, 0, none⟩) n cap] w fun e w' => e = .returned (.bool true) ∧ ∃ m, w' = w.drewN m := by
  have HC := Lib.hid h
  clear h
  go_enter Try.func56, Try.ntmps56
  go_wp2_with fail
  go_loopw [7] (fun i wr => ∃ (k : Nat), k ≤ n ∧ i = .int .i64 k ∧ Hid (∃ m, wr = w.drewN m)) (fun i _ => n - (RowKit.intOf i).toNat)
  case atStart => exact ⟨0, by omega, rfl, 0, rfl⟩
  case round =>
    obtain ⟨k, hk, rfl, hm⟩ := hrel
    by_cases hlt : k < n
    · have e1 : wr.cell? ⟨g, k, none⟩ = some (.complex .f32 (f k) 0) := by obtain ⟨m, rfl⟩ := hm.out; exact (HC.out.drew m).2 k hlt
      have next : ∀ q, Hid (∃ m, wr.drewN q = w.drewN m) := fun q => by obtain ⟨m, rfl⟩ := hm.out; exact ⟨m + q, World.drewN_drewN _ _ _⟩
      have HY := Lib.hid (fun w => icf_any (f k) (hf k hlt) w)
      clear hf HC hm
      generalize f k = z at *
      go_wp2_with (first | (go_at_call 60; refine (HY.out _).mono ?_; rintro e w' ⟨rfl, q, rfl⟩))
      go_roundw
      case rel => exact ⟨k + 1, by omega, by go_num, next _⟩
      case measure => simp [RowKit.intOf]; omega
    · obtain rfl : k = n := by omega
      go_wp2
      go_ret
      exact ⟨rfl, hm.out⟩

theorem itrim_any {g n cap : Nat} {f : Nat → Nat} {w : World} (h : Cxl w g (n + 1) f) (hz : isz (f n) = false) (hn : n ≤ 100) : Calls Try.prog 52 #[.slice (some ⟨g, 0, none⟩) (n + 1) cap] w fun e w' => e = .returned (.int .i64 (n + 1 : Nat)) ∧ w' = w := by
  have e1 : w.cell? ⟨g, n, none⟩ = some (.complex .f32 (f n) 0) := h.2 n (by omega)
  unfold isz at hz
  clear h
  generalize f n = z at *
  go_enter Try.func52, Try.ntmps52
  go_wp2_with fail
  go_loopw [3] (fun i wr => i = .int .i64 (n + 1 : Nat) ∧ wr = w) (fun i _ => 0)
  case atStart => exact ⟨rfl, rfl⟩
  case round =>
    obtain ⟨rfl, rfl⟩ := hrel
    go_wp2_with fail
    all_goals go_ret
    all_goals exact ⟨by rfl, rfl⟩

theorem ilast_any {g n cap : Nat} {f : Nat → Nat} {w : World} (h : Cxl w g (n + 1) f) (hn : n ≤ 100) : Calls Try.prog 61 #[.slice (some ⟨g, 0, none⟩) (n + 1) cap] w fun e w' => e = .returned (.complex .f32 (f n) 0) ∧ w' = w := by
  have e1 : w.cell? ⟨g, n, none⟩ = some (.complex .f32 (f n) 0) := h.2 n (by omega)
  clear h
  generalize f n = z at *
  go_enter Try.func61, Try.ntmps61
  go_wp2_with fail
  go_ret
  exact ⟨rfl, rfl⟩

theorem izero_any {g n cap : Nat} {f : Nat → Nat} {w : World} (h : Cxl w g (n + 1) f) (hz : isz (f n) = false) (hn : n ≤ 100) : Calls Try.prog 57 #[.agg #[.slice (some ⟨g, 0, none⟩) (n + 1) cap]] w fun e w' => e = .returned (.bool false) ∧ Below w.heap.size w w' := by
  have HL : Hid (∀ W, Below w.heap.size w W → Calls Try.prog 61 #[.slice (some ⟨g, 0, none⟩) (n + 1) cap] W fun e w' => e = .returned (.complex .f32 (f n) 0) ∧ w' = W) := fun W hb => ilast_any (h.below hb) hn
  unfold isz at hz
  clear h
  generalize f n = z at *
  go_enter Try.func57, Try.ntmps57
  go_wp2_with fail
  refine (HL.out _ ((Below.refl _ w).alloc (Nat.le_refl _) _)).mono ?_
  rintro e w1 ⟨rfl, hw⟩
  rw [hw]
  clear hw
  go_wp2_with fail
  go_ret
  exact ⟨by rfl, (Below.refl _ w).alloc (Nat.le_refl _) _⟩
end Go.Proofs.Ytfmdbgpalldjoab.fp
