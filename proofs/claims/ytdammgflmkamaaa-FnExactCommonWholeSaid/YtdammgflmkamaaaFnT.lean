/- Sums of terms with weights: the program's half. -/
import Derived.Test.YtdammgflmkamaaaFnO
import Derived.Test.YtdammgflmkamaaaFnP
namespace Go.Proofs.Ytdammgflmkamaaa.wh
open Go.RowKit Go.Pl

theorem termAt_any {v : Value} {L : List Int} {w : World} (h : Ls w v L) (k : Nat) :
    Calls Try.prog 86 #[v, .int .i64 k] w fun e w' => e = .returned (.int .i64 (at' L k)) ∧ w' = w := by
  obtain ⟨ao, cap, rfl, hn, hcap, hc⟩ := h
  by_cases hk : k < L.length
  · obtain ⟨b, off, rfl, _, hcell⟩ := hc (by omega)
    have e1 := hcell k _ (at_some L k hk)
    clear hc hcell
    generalize at' L k = y at *
    generalize L.length = n at *
    go_enter Try.func86, Try.ntmps86
    go_wp2
    go_ret
    exact ⟨rfl, rfl⟩
  · have HZ : Hid (at' L k = 0) := at_out (by omega)
    clear hc
    generalize L.length = n at *
    go_enter Try.func86, Try.ntmps86
    go_wp2
    go_ret
    exact ⟨by rw [HZ.out]; rfl, rfl⟩

end Go.Proofs.Ytdammgflmkamaaa.wh
