/- What both sides share: validity, zeros left out. -/
import Derived.Test.YtdeoemeibbkdoaaDoorWw
import Derived.Test.YtdeoemeibbkdoaaDoorPl
import Derived.Handy
namespace Go.Proofs.YtdeoemeibbkdoaaDoor.wh
open Go.RowKit Go.Pl

theorem in_any (x lo hi : Int) (w : World) : Calls Tryd.prog 54 #[.int .i64 x, .int .i64 lo, .int .i64 hi] w fun e w' => e = .returned (.bool (decide (lo ≤ x ∧ x ≤ hi))) ∧ w' = w := by
  by_cases h1 : lo ≤ x <;> by_cases h2 : x ≤ hi
  all_goals
    go_enter Tryd.func54, Tryd.ntmps54
    go_wp2
    go_ret
    exact ⟨by simp [h1, h2], rfl⟩
theorem from_any (x lo hi : Int) (w : World) : Calls Tryd.prog 75 #[.int .i64 x, .int .i64 lo, .int .i64 hi] w fun e w' => e = .returned (.bool (decide (lo ≤ x ∧ x ≤ hi))) ∧ w' = w := by
  by_cases h1 : lo ≤ x <;> by_cases h2 : x ≤ hi
  all_goals
    go_enter Tryd.func75, Tryd.ntmps75
    go_wp2
    go_ret
    exact ⟨by simp [h1, h2], rfl⟩

theorem are_any {v : Value} {L : List Int} {w : World} (h : Ls w v L) (lo hi : Int) :
    Calls Tryd.prog 56 #[v, .int .i64 lo, .int .i64 hi] w fun e w' => e = .returned (.bool (decide (inR lo hi L))) ∧ w' = w := by
  obtain ⟨ao, cap, rfl, hn, hcap, hc⟩ := h
  obtain ⟨n, hnn⟩ : ∃ n, n = L.length := ⟨_, rfl⟩
  rw [← hnn] at hn hcap hc
  have HN : Hid (n = L.length) := hnn
  clear hnn
  simp only [← HN.out]
  have hc' : Hid (n ≠ 0 → ∃ b off, ao = some ⟨b, off, none⟩ ∧ b < w.heap.size ∧ ∀ k z, L[k]? = some z → w.cell? ⟨b, off + k, none⟩ = some (.int .i64 z)) := hc
  clear hc
  go_enter Tryd.func56, Tryd.ntmps56
  go_wp2
  go_loop [11] (fun i => ∃ (k : Nat), k ≤ n ∧ i = .int .i64 k ∧ Hid (∀ j z, j < k → L[j]? = some z → lo ≤ z ∧ z ≤ hi)) (fun i => n - (intOf i).toNat)
  case atStart => exact ⟨0, by omega, rfl, fun j _ hj => by omega⟩
  case round =>
    obtain ⟨k, hk, rfl, hr⟩ := hrel
    by_cases hlt : k < n
    · obtain ⟨b, off, rfl, _, hcell⟩ := hc'.out (by omega)
      obtain ⟨z, hz⟩ := get_some L k (by have := HN.out; omega)
      have e1 := hcell k z hz
      clear hcell
      by_cases hin : lo ≤ z ∧ z ≤ hi
      · have HR : Hid (∀ j z, j < k + 1 → L[j]? = some z → lo ≤ z ∧ z ≤ hi) := fun j y hj hy => by
          by_cases e : j = k
          · rw [e, hz] at hy; injection hy with hy; omega
          · exact hr.out j y (by omega) hy
        clear hr hz
        go_wp2_with fail
        refine (from_any z _ _ _).mono ?_
        rintro e w1 ⟨rfl, hw1⟩
        rw [hw1, decide_eq_true hin]
        clear hw1
        go_wp2_with fail
        go_round
        case rel => exact ⟨k + 1, by omega, by go_num, HR⟩
        case measure => simp [intOf]; omega
      · have HV : Hid (decide (inR lo hi L) = false) := decide_eq_false fun h => hin (h.get hz)
        clear hr hz
        go_wp2_with fail
        refine (from_any z _ _ _).mono ?_
        rintro e w1 ⟨rfl, hw1⟩
        rw [hw1, decide_eq_false hin]
        clear hw1
        go_wp2_with fail
        go_ret
        exact ⟨by rw [HV.out]; first | rfl | (simp; omega), rfl⟩
    · obtain rfl : k = n := by omega
      have HV : Hid (decide (inR lo hi L) = true) := decide_eq_true (inR_of fun k z hk hz => hr.out k z (by have := HN.out; omega) hz)
      clear hr
      go_wp2
      go_ret
      exact ⟨by rw [HV.out]; first | rfl | (simp; omega), rfl⟩

theorem last_any {v : Value} {L : List Int} {w : World} {z : Int} (h : Ls w v L) (hz : L[L.length - 1]? = some z) :
    Calls Tryd.prog 57 #[v] w fun e w' => e = .returned (.int .i64 z) ∧ w' = w := by
  obtain ⟨ao, cap, rfl, hn, hcap, hc⟩ := h
  have hl : 0 < L.length := by have := (List.getElem?_eq_some_iff.1 hz).1; omega
  obtain ⟨b, off, rfl, _, hcell⟩ := hc (by omega)
  have e1 := hcell _ z hz
  generalize L.length = n at *
  clear hcell hc hz
  go_enter Tryd.func57, Tryd.ntmps57
  go_wp2
  go_ret
  exact ⟨rfl, rfl⟩

end Go.Proofs.YtdeoemeibbkdoaaDoor.wh
