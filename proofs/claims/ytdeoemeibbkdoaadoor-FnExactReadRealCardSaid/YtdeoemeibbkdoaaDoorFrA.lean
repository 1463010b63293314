/- Validity of reals: both sides. -/
import Derived.Test.YtdeoemeibbkdoaaDoorFnA
import Derived.Test.YtdeoemeibbkdoaaDoorWr
import Derived.Test.YtdeoemeibbkdoaaDoorPr
namespace Go.Proofs.YtdeoemeibbkdoaaDoor.wh
open Go.RowKit Go.Pl

theorem isR_any {b : Nat} {s : Value} {L : List Int} {w : World} (hb : w.cell? ⟨b, 0, none⟩ = some s) (h : Ls w s L) :
    Calls Tryd.prog 29 #[.pointer (some ⟨b, 0, none⟩)] w fun e w' => e = .returned (.bool (valR L)) ∧ w' = w := by
  obtain ⟨ao, cap, rfl, hn, hcap, hc⟩ := h
  obtain ⟨n, hnn⟩ : ∃ n, n = L.length := ⟨_, rfl⟩
  rw [← hnn] at hn hcap hc hb
  have HN : Hid (n = L.length) := hnn
  clear hnn
  have hc' : Hid (n ≠ 0 → ∃ b off, ao = some ⟨b, off, none⟩ ∧ b < w.heap.size ∧ ∀ k z, L[k]? = some z → w.cell? ⟨b, off + k, none⟩ = some (.int .i64 z)) := hc
  clear hc
  go_enter Tryd.func29, Tryd.ntmps29
  go_wp2
  go_loop [4] (fun i => ∃ (k : Nat), k ≤ n ∧ i = .int .i64 k ∧ Hid (∀ j z, j < k → L[j]? = some z → -1000 ≤ z ∧ z ≤ 1000)) (fun i => n - (intOf i).toNat)
  case atStart => exact ⟨0, by omega, rfl, fun j _ hj => by omega⟩
  case round =>
    obtain ⟨k, hk, rfl, hr⟩ := hrel
    by_cases hlt : k < n
    · obtain ⟨b2, off, rfl, _, hcell⟩ := hc'.out (by omega)
      obtain ⟨z, hz⟩ := get_some L k (by have := HN.out; omega)
      have e1 := hcell k z hz
      clear hcell
      by_cases hin : -1000 ≤ z ∧ z ≤ 1000
      · have HR : Hid (∀ j z, j < k + 1 → L[j]? = some z → -1000 ≤ z ∧ z ≤ 1000) := fun j y hj hy => by
          by_cases e : j = k
          · rw [e, hz] at hy; injection hy with hy; omega
          · exact hr.out j y (by omega) hy
        clear hr hz
        go_wp2_with fail
        refine (in_any z _ _ _).mono ?_
        rintro e w1 ⟨rfl, hw1⟩
        rw [hw1, decide_eq_true hin]
        clear hw1
        go_wp2_with fail
        go_round
        case rel => exact ⟨k + 1, by omega, by go_num, HR⟩
        case measure => simp [intOf]; omega
      · have HV : Hid (valR L = false) := valR_no fun h => hin (h.inr.get hz)
        clear hr hz
        go_wp2_with fail
        refine (in_any z _ _ _).mono ?_
        rintro e w1 ⟨rfl, hw1⟩
        rw [hw1, decide_eq_false hin]
        clear hw1
        go_wp2_with fail
        go_ret
        exact ⟨by rw [HV.out]; first | rfl | (simp; omega), rfl⟩
    · obtain rfl : k = n := by omega
      have hin : Hid (inR (-1000) 1000 L) := inR_of fun k z hk hz => hr.out k z (by have := HN.out; omega) hz
      clear hr
      by_cases h1 : k < 1
      · have HV : Hid (valR L = false) := valR_no fun h => by have := h.pos; have := HN.out; omega
        obtain rfl : k = 0 := by omega
        clear hin
        go_wp2
        go_ret
        exact ⟨by rw [HV.out]; first | rfl | (simp; omega), rfl⟩
      by_cases h9 : 9 < k
      · have HV : Hid (valR L = false) := valR_no fun h => by have := h.le; have := HN.out; omega
        clear hin
        go_wp2
        go_ret
        exact ⟨by rw [HV.out]; first | rfl | (simp; omega), rfl⟩
      obtain ⟨b2, off, rfl, _, hcell⟩ := hc'.out (by omega)
      obtain ⟨z, hz⟩ := get_some L (k - 1) (by have := HN.out; omega)
      have e1 := hcell _ z hz
      clear hcell
      by_cases hz0 : z = 0
      · have HV : Hid (valR L = false) := valR_no fun h => h.2.2.2 (by rw [← HN.out, hz, hz0])
        subst hz0
        clear hin hz
        go_wp2
        go_ret
        exact ⟨by rw [HV.out]; first | rfl | (simp; omega), rfl⟩
      · have HV : Hid (valR L = true) := valR_iff.2 ⟨by have := HN.out; omega, by have := HN.out; omega, hin.out, by rw [← HN.out, hz]; simpa using hz0⟩
        have hzb : (z == 0) = false := by rw [beq_eq_false_iff_ne]; exact hz0
        clear hin hz
        go_wp2
        go_ret
        exact ⟨by rw [HV.out]; first | rfl | (simp; omega), rfl⟩

theorem validR_any {v : Value} {L : List Int} {w : World} (h : Wh w v L) :
    Calls Tryd.prog 32 #[v] w fun e w' => e = .returned (.bool (valR L)) ∧ Below w.heap.size w w' := by
  obtain ⟨s, rfl, h⟩ := h
  obtain ⟨ao, cap, rfl, hn, hcap, _⟩ := id h
  have HH : Hid (Ls w (.slice ao L.length cap) L) := h
  clear h
  obtain ⟨n, hnn⟩ : ∃ n, n = L.length := ⟨_, rfl⟩
  rw [← hnn] at hn hcap HH ⊢
  have HN : Hid (n = L.length) := hnn
  clear hnn
  by_cases h1 : n < 1
  · have HV : Hid (valR L = false) := valR_no fun h => by have := h.pos; have := HN.out; omega
    obtain rfl : n = 0 := by omega
    go_enter Tryd.func32, Tryd.ntmps32
    go_wp2
    go_ret
    exact ⟨by rw [HV.out]; first | rfl | (simp; omega), new1 _ _⟩
  by_cases h9 : 9 < n
  · have HV : Hid (valR L = false) := valR_no fun h => by have := h.le; have := HN.out; omega
    go_enter Tryd.func32, Tryd.ntmps32
    go_wp2
    go_ret
    exact ⟨by rw [HV.out]; first | rfl | (simp; omega), new1 _ _⟩
  go_enter Tryd.func32, Tryd.ntmps32
  go_wp2_with fail
  refine (are_any (HH.out.below (new1 _ _)) _ _).mono ?_
  rintro e w1 ⟨rfl, hw1⟩
  rw [hw1]
  clear hw1
  by_cases hin : inR (-1000) 1000 L
  · rw [decide_eq_true hin]
    have HI : Hid (inR (-1000) 1000 L) := hin
    clear hin
    obtain ⟨z, hz⟩ := get_some L (L.length - 1) (by have := HN.out; omega)
    have Hz : Hid (L[L.length - 1]? = some z) := hz
    have HV : Hid (valR L = (decide (z ≠ 0))) := by
      by_cases hz0 : z = 0
      · rw [decide_eq_false (fun h => h hz0)]
        exact valR_no fun h => h.2.2.2 (by rw [hz, hz0])
      · rw [decide_eq_true hz0]
        exact valR_iff.2 ⟨by have := HN.out; omega, by have := HN.out; omega, HI.out, by rw [hz]; simpa using hz0⟩
    clear hz
    go_wp2_with fail
    refine (last_any (HH.out.below (new1 _ _)) Hz.out).mono ?_
    rintro e w1 ⟨rfl, hw1⟩
    rw [hw1]
    clear hw1
    by_cases hz0 : z = 0
    · subst hz0
      go_wp2_with fail
      go_ret
      exact ⟨by rw [HV.out]; first | rfl | (simp; omega), new1 _ _⟩
    · have hzb : (z == 0) = false := by rw [beq_eq_false_iff_ne]; exact hz0
      go_wp2_with fail
      go_ret
      exact ⟨by rw [HV.out, decide_eq_true hz0]; first | rfl | (simp; omega), new1 _ _⟩
  · rw [decide_eq_false hin]
    have HV : Hid (valR L = false) := valR_no fun h => hin h.2.2.1
    clear hin
    go_wp2_with fail
    go_ret
    exact ⟨by rw [HV.out]; first | rfl | (simp; omega), new1 _ _⟩
end Go.Proofs.YtdeoemeibbkdoaaDoor.wh
