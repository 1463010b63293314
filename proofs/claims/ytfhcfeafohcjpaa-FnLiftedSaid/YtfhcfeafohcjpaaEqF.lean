/- Exact quotients: both sides. -/
import Derived.Test.YtfhcfeafohcjpaaLdX
namespace Go.Proofs.Ytfhcfeafohcjpaa.wh
open Go.RowKit Go.Pl

theorem izero_any {v : Value} {L : List Int} {w : World} (h : Ls w v L) (h0 : L ≠ []) :
    Calls Try.prog 78 #[v] w fun e w' => e = .returned (.bool (decide (at' L (L.length - 1) = 0))) ∧ w' = w := by
  have HH : Hid (Ls w v L) := h
  obtain ⟨ao, cap, rfl⟩ := h.shape
  have hp := len_pos h0
  have hz := at_some L (L.length - 1) (by omega)
  obtain ⟨z, hz'⟩ : ∃ z, z = at' L (L.length - 1) := ⟨_, rfl⟩
  rw [← hz'] at hz ⊢
  have HZ : Hid (L[L.length - 1]? = some z) := hz
  clear h hz hz'
  go_enter Try.func78, Try.ntmps78
  go_wp2_with fail
  refine (last_any HH.out HZ.out).mono ?_
  rintro e w1 ⟨rfl, hw1⟩
  rw [hw1]
  clear hw1
  go_wp2_with fail
  go_ret
  exact ⟨by congr 1, rfl⟩

theorem szero_any {v : Value} {L : List Int} {w : World} (h : Ls w v L) :
    Calls Try.prog 55 #[v] w fun e w' => e = .returned (.bool (decide (L = [0]))) ∧ w' = w := by
  obtain ⟨ao, cap, rfl, hn, hcap, hc⟩ := h
  by_cases h1 : L.length = 1
  · obtain ⟨b, off, rfl, hbw, hcell⟩ := hc (by omega)
    obtain ⟨z, rfl⟩ : ∃ z, L = [z] := List.length_eq_one_iff.1 h1
    have e1 := hcell 0 z rfl
    rw [Nat.add_zero] at e1
    have HV : Hid (decide ([z] = [0]) = decide (z = 0)) := by show decide _ = decide _; congr 1; simp
    rw [HV.out]
    clear hcell hc
    go_enter Try.func55, Try.ntmps55
    go_wp2
    go_ret
    exact ⟨by congr 1, rfl⟩
  · have HV : Hid (decide (L = [0]) = false) := decide_eq_false fun h => h1 (by rw [h]; rfl)
    rw [HV.out]
    obtain ⟨n, hnn⟩ : ∃ n, n = L.length := ⟨_, rfl⟩
    rw [← hnn] at h1 hn hcap ⊢
    have hb : ((n : Int) == 1) = false := by rw [beq_eq_false_iff_ne]; omega
    clear hc hnn
    go_enter Try.func55, Try.ntmps55
    go_wp2
    go_ret
    exact ⟨rfl, rfl⟩

end Go.Proofs.Ytfhcfeafohcjpaa.wh
