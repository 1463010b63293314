/- The model gives the polynomial of a list whose terms are finite and whose highest is not 0. -/
import Derived.Test.YtfmdbgpalldjoabFpD
namespace Go.Proofs.Ytfmdbgpalldjoab.fp
open Go.RowKit Go.Fl Go.Fa Go.Fp Go.Proofs.Ytfmdbgpalldjoab.fls Go.Proofs.Ytfmdbgpalldjoab.fa Go.Proofs.Ytfmdbgpalldjoab.fin

theorem sis_any {p g n cap : Nat} {f : Nat → Nat} {w : World} (hp : w.cell? ⟨p, 0, none⟩ = some (.slice (some ⟨g, 0, none⟩) (n + 1) cap)) (h : Cxl w g (n + 1) f) (hf : ∀ k, k < n + 1 → fin (f k) = true) (hz : isz (f n) = false) (hn : n ≤ 16) : Calls Try.prog 38 #[.pointer (some ⟨p, 0, none⟩)] w fun e w' => e = .returned (.bool true) ∧ ∃ m, w' = w.drewN m := by
  have HF := Lib.hid (scfin_any (cap := cap) h hf (by omega))
  have e1 : w.cell? ⟨g, n, none⟩ = some (.complex .f32 (f n) 0) := h.2 n (by omega)
  unfold isz at hz
  clear h hf
  generalize f n = z at *
  go_enter Try.func38, Try.ntmps38
  go_wp2_with (first | (go_at_call 46; refine HF.out.mono ?_; rintro e w' ⟨rfl, q, rfl⟩))
  all_goals go_ret
  all_goals exact ⟨by rfl, _, by rfl⟩

end Go.Proofs.Ytfmdbgpalldjoab.fp
