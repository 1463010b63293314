/- Lists of complex numbers without imaginary parts: finite ones, and ones whose highest is not 0, in the model. -/
import Derived.Test.YtfmdbgpalldjoabFpC
namespace Go.Proofs.Ytfmdbgpalldjoab.fp
open Go.RowKit Go.Fl Go.Fa Go.Fp Go.Proofs.Ytfmdbgpalldjoab.fls Go.Proofs.Ytfmdbgpalldjoab.fa Go.Proofs.Ytfmdbgpalldjoab.fin

/-- n complex numbers without imaginary parts, in a block from its beginning -/
def Cxl (w : World) (g n : Nat) (f : Nat → Nat) : Prop := g < w.heap.size ∧ ∀ k, k < n → w.cell? ⟨g, k, none⟩ = some (.complex .f32 (f k) 0)
theorem Cxl.below {w w' : World} {g n : Nat} {f : Nat → Nat} (h : Cxl w g n f) (hb : Below w.heap.size w w') : Cxl w' g n f :=
  ⟨Nat.lt_of_lt_of_le h.1 hb.size, fun k hk => (hb.cell h.1).trans (h.2 k hk)⟩
theorem Cxl.drew {w : World} {g n : Nat} {f : Nat → Nat} (h : Cxl w g n f) (m : Nat) : Cxl (w.drewN m) g n f := h.below (Go.Pst.below_drewN (Below.refl _ _) m)
theorem cown_lt {w : World} {base e size g n cap m : Nat} {xs : List Value} (h : w.ownsRow base e size (.slice (some ⟨g, 0, none⟩) n cap) m xs) : g < w.heap.size := by
  rcases h.2 with ⟨h', _⟩ | ⟨g', cap', cur, h', _, hg, _⟩
  · simp at h'
  · simp only [Value.slice.injEq, Option.some.injEq, Addr.mk.injEq, and_true] at h'
    obtain ⟨rfl, _⟩ := h'
    exact (Array.getElem?_eq_some_iff.1 hg).1
theorem Cxl.own {w : World} {B g n cap : Nat} {f : Nat → Nat} (h : w.ownsRow B 63 1 (.slice (some ⟨g, 0, none⟩) n cap) n (cl f n)) : Cxl w g n f := by
  refine ⟨cown_lt h, fun k hk => ?_⟩
  have h1 := h.cellAt k (by omega)
  rw [h1]
  unfold cl
  simp [hk]

theorem fin_0 : fin 0 = true := by decide +kernel
theorem scf_any (a : Nat) (w : World) : Calls Try.prog 51 #[.complex .f32 a 0] w fun e w' => e = .returned (.bool (fin a)) ∧ ∃ n, w' = w.drewN n := by
  have HY := Lib.hid (fun b w => l01_any b w)
  have h0 := fin_0
  go_enter Try.func51, Try.ntmps51
  cases hf : fin a with
  | true =>
    go_wp2_with (first | (go_at_call 25; refine (HY.out _ _).mono ?_; rintro e w' ⟨rfl, q, rfl⟩; try rw [hf]; try rw [h0]))
    go_ret
    exact ⟨by rfl, _, by first | rfl | exact World.drewN_drewN _ _ _⟩
  | false =>
    go_wp2_with (first | (go_at_call 25; refine (HY.out _ _).mono ?_; rintro e w' ⟨rfl, q, rfl⟩; try rw [hf]; try rw [h0]))
    go_ret
    exact ⟨by rfl, _, rfl⟩

theorem scfin_any {g n cap : Nat} {f : Nat → Nat} {w : World} (h : Cxl w g n f) (hf : ∀ k, k < n → fin (f k) = true) (hn : n ≤ 100) : Calls Try.prog 46 #[.slice (some ⟨g, 0, none⟩) n cap] w fun e w' => e = .returned (.bool true) ∧ ∃ m, w' = w.drewN m := by
  have HC := Lib.hid h
  clear h
  go_enter Try.func46, Try.ntmps46
  go_wp2_with fail
  go_loopw [3] (fun i wr => ∃ (k : Nat), k ≤ n ∧ i = .int .i64 k ∧ Hid (∃ m, wr = w.drewN m)) (fun i _ => n - (RowKit.intOf i).toNat)
  case atStart => exact ⟨0, by omega, rfl, 0, rfl⟩
  case round =>
    obtain ⟨k, hk, rfl, hm⟩ := hrel
    by_cases hlt : k < n
    · have e1 : wr.cell? ⟨g, k, none⟩ = some (.complex .f32 (f k) 0) := by obtain ⟨m, rfl⟩ := hm.out; exact (HC.out.drew m).2 k hlt
      have next : ∀ q, Hid (∃ m, wr.drewN q = w.drewN m) := fun q => by obtain ⟨m, rfl⟩ := hm.out; exact ⟨m + q, World.drewN_drewN _ _ _⟩
      have hy := fun w => scf_any (f k) w
      rw [hf k hlt] at hy
      have HY := Lib.hid hy
      clear hy hf HC hm
      generalize f k = z at *
      go_wp2_with (first | (go_at_call 51; refine (HY.out _).mono ?_; rintro e w' ⟨rfl, q, rfl⟩))
      go_roundw
      case rel => exact ⟨k + 1, by omega, by go_num, next _⟩
      case measure => simp [RowKit.intOf]; omega
    · obtain rfl : k = n := by omega
      go_wp2
      go_ret
      exact ⟨rfl, hm.out⟩

theorem sctrim_any {g n cap : Nat} {f : Nat → Nat} {w : World} (h : Cxl w g (n + 1) f) (hz : isz (f n) = false) (hn : n ≤ 100) (hc : n + 1 ≤ cap) : Calls Try.prog 37 #[.slice (some ⟨g, 0, none⟩) (n + 1) cap] w fun e w' => e = .returned (.slice (some ⟨g, 0, none⟩) (n + 1) cap) ∧ w' = w := by
  have e1 : w.cell? ⟨g, n, none⟩ = some (.complex .f32 (f n) 0) := h.2 n (by omega)
  unfold isz at hz
  clear h
  generalize f n = z at *
  go_enter Try.func37, Try.ntmps37
  go_wp2_with fail
  go_loopw [3] (fun i wr => i = .int .i64 (n + 1 : Nat) ∧ wr = w) (fun i _ => 0)
  case atStart => exact ⟨rfl, rfl⟩
  case round =>
    obtain ⟨rfl, rfl⟩ := hrel
    go_wp2_with fail
    all_goals go_ret
    all_goals exact ⟨rfl, rfl⟩
end Go.Proofs.Ytfmdbgpalldjoab.fp
