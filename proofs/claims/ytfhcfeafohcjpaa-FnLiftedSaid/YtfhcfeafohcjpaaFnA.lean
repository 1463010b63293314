/- What both sides share: validity, zeros left out. -/
import Derived.Test.YtfhcfeafohcjpaaWw
import Derived.Test.YtfhcfeafohcjpaaPl
import Derived.Handy
namespace Go.Proofs.Ytfhcfeafohcjpaa.wh
open Go.RowKit Go.Pl

theorem in_any (x lo hi : Int) (w : World) : Calls Try.prog 54 #[.int .i64 x, .int .i64 lo, .int .i64 hi] w fun e w' => e = .returned (.bool (decide (lo ≤ x ∧ x ≤ hi))) ∧ w' = w := by
  by_cases h1 : lo ≤ x <;> by_cases h2 : x ≤ hi
  all_goals
    go_enter Try.func54, Try.ntmps54
    go_wp2
    go_ret
    exact ⟨by simp [h1, h2], rfl⟩
theorem from_any (x lo hi : Int) (w : World) : Calls Try.prog 73 #[.int .i64 x, .int .i64 lo, .int .i64 hi] w fun e w' => e = .returned (.bool (decide (lo ≤ x ∧ x ≤ hi))) ∧ w' = w := by
  by_cases h1 : lo ≤ x <;> by_cases h2 : x ≤ hi
  all_goals
    go_enter Try.func73, Try.ntmps73
    go_wp2
    go_ret
    exact ⟨by simp [h1, h2], rfl⟩

theorem terms_any {v : Value} {L : List Int} {w : World} (h : Ls w v L) :
    Calls Try.prog 52 #[v] w fun e w' => e = .returned (.bool (val L)) ∧ w' = w := by
  obtain ⟨ao, cap, rfl, hn, hcap, hc⟩ := h
  obtain ⟨n, hnn⟩ : ∃ n, n = L.length := ⟨_, rfl⟩
  rw [← hnn] at hn hcap hc
  have HN : Hid (n = L.length) := hnn
  clear hnn
  simp only [← HN.out]
  have hc' : Hid (n ≠ 0 → ∃ b off, ao = some ⟨b, off, none⟩ ∧ b < w.heap.size ∧ ∀ k z, L[k]? = some z → w.cell? ⟨b, off + k, none⟩ = some (.int .i64 z)) := hc
  clear hc
  by_cases h1 : n < 1
  · have HV : Hid (val L = false) := val_no fun h => by have := h.pos; have := HN.out; omega
    obtain rfl : n = 0 := by omega
    go_enter Try.func52, Try.ntmps52
    go_wp2
    go_ret
    exact ⟨by rw [HV.out]; first | rfl | (simp; omega), rfl⟩
  by_cases h17 : 17 < n
  · have HV : Hid (val L = false) := val_no fun h => by have := h.le; have := HN.out; omega
    go_enter Try.func52, Try.ntmps52
    go_wp2
    go_ret
    exact ⟨by rw [HV.out]; first | rfl | (simp; omega), rfl⟩
  go_enter Try.func52, Try.ntmps52
  go_wp2
  go_loop [15] (fun i => ∃ (k : Nat), k ≤ n ∧ i = .int .i64 k ∧ Hid (∀ j z, j < k → L[j]? = some z → -1000000 ≤ z ∧ z ≤ 1000000)) (fun i => n - (intOf i).toNat)
  case atStart => exact ⟨0, by omega, rfl, fun j _ hj => by omega⟩
  case round =>
    obtain ⟨k, hk, rfl, hr⟩ := hrel
    by_cases hlt : k < n
    · obtain ⟨b, off, rfl, _, hcell⟩ := hc'.out (by omega)
      obtain ⟨z, hz⟩ := get_some L k (by have := HN.out; omega)
      have e1 := hcell k z hz
      clear hcell
      by_cases hin : -1000000 ≤ z ∧ z ≤ 1000000
      · have HR : Hid (∀ j z, j < k + 1 → L[j]? = some z → -1000000 ≤ z ∧ z ≤ 1000000) := fun j y hj hy => by
          by_cases e : j = k
          · rw [e, hz] at hy; injection hy with hy; omega
          · exact hr.out j y (by omega) hy
        clear hr hz
        go_wp2_with fail
        refine (in_any z _ _ _).mono ?_
        rintro e w1 ⟨rfl, hw1⟩
        rw [hw1, decide_eq_true hin]
        clear hw1
        go_wp2_with fail
        go_round
        case rel => exact ⟨k + 1, by omega, by go_num, HR⟩
        case measure => simp [intOf]; omega
      · have HV : Hid (val L = false) := val_no fun h => hin (h.get hz)
        clear hr hz
        go_wp2_with fail
        refine (in_any z _ _ _).mono ?_
        rintro e w1 ⟨rfl, hw1⟩
        rw [hw1, decide_eq_false hin]
        clear hw1
        go_wp2_with fail
        go_ret
        exact ⟨by rw [HV.out]; first | rfl | (simp; omega), rfl⟩
    · obtain rfl : k = n := by omega
      have hin : Hid (∀ z ∈ L, -1000000 ≤ z ∧ z ≤ 1000000) := inR_of fun k z hk hz => hr.out k z (by have := HN.out; omega) hz
      clear hr
      obtain ⟨b, off, rfl, _, hcell⟩ := hc'.out (by omega)
      obtain ⟨z, hz⟩ := get_some L (k - 1) (by have := HN.out; omega)
      have e1 := hcell _ z hz
      clear hcell
      by_cases hone : k = 1
      · have HV : Hid (val L = true) := val_iff.2 ⟨by have := HN.out; omega, by have := HN.out; omega, hin.out, .inl (by have := HN.out; omega)⟩
        clear hin hz e1
        go_wp2
        go_ret
        exact ⟨by rw [HV.out]; first | rfl | (simp; omega), rfl⟩
      · by_cases hz0 : z = 0
        · have HV : Hid (val L = false) := val_no fun h => by
            rcases h.2.2.2 with h | h
            · exact hone (by have := HN.out; omega)
            · exact h (by rw [← HN.out, hz, hz0])
          subst hz0
          clear hin hz
          go_wp2
          go_ret
          exact ⟨by rw [HV.out]; first | rfl | (simp; omega), rfl⟩
        · have HV : Hid (val L = true) := val_iff.2 ⟨by have := HN.out; omega, by have := HN.out; omega, hin.out, .inr (by rw [← HN.out, hz]; simpa using hz0)⟩
          have hzb : (z == 0) = false := by rw [beq_eq_false_iff_ne]; exact hz0
          clear hin hz
          go_wp2
          go_ret
          exact ⟨by rw [HV.out]; first | rfl | (simp; omega), rfl⟩

theorem are_any {v : Value} {L : List Int} {w : World} (h : Ls w v L) (lo hi : Int) :
    Calls Try.prog 72 #[v, .int .i64 lo, .int .i64 hi] w fun e w' => e = .returned (.bool (decide (inR lo hi L))) ∧ w' = w := by
  obtain ⟨ao, cap, rfl, hn, hcap, hc⟩ := h
  obtain ⟨n, hnn⟩ : ∃ n, n = L.length := ⟨_, rfl⟩
  rw [← hnn] at hn hcap hc
  have HN : Hid (n = L.length) := hnn
  clear hnn
  simp only [← HN.out]
  have hc' : Hid (n ≠ 0 → ∃ b off, ao = some ⟨b, off, none⟩ ∧ b < w.heap.size ∧ ∀ k z, L[k]? = some z → w.cell? ⟨b, off + k, none⟩ = some (.int .i64 z)) := hc
  clear hc
  go_enter Try.func72, Try.ntmps72
  go_wp2
  go_loop [11] (fun i => ∃ (k : Nat), k ≤ n ∧ i = .int .i64 k ∧ Hid (∀ j z, j < k → L[j]? = some z → lo ≤ z ∧ z ≤ hi)) (fun i => n - (intOf i).toNat)
  case atStart => exact ⟨0, by omega, rfl, fun j _ hj => by omega⟩
  case round =>
    obtain ⟨k, hk, rfl, hr⟩ := hrel
    by_cases hlt : k < n
    · obtain ⟨b, off, rfl, _, hcell⟩ := hc'.out (by omega)
      obtain ⟨z, hz⟩ := get_some L k (by have := HN.out; omega)
      have e1 := hcell k z hz
      clear hcell
      by_cases hin : lo ≤ z ∧ z ≤ hi
      · have HR : Hid (∀ j z, j < k + 1 → L[j]? = some z → lo ≤ z ∧ z ≤ hi) := fun j y hj hy => by
          by_cases e : j = k
          · rw [e, hz] at hy; injection hy with hy; omega
          · exact hr.out j y (by omega) hy
        clear hr hz
        go_wp2_with fail
        refine (from_any z _ _ _).mono ?_
        rintro e w1 ⟨rfl, hw1⟩
        rw [hw1, decide_eq_true hin]
        clear hw1
        go_wp2_with fail
        go_round
        case rel => exact ⟨k + 1, by omega, by go_num, HR⟩
        case measure => simp [intOf]; omega
      · have HV : Hid (decide (inR lo hi L) = false) := decide_eq_false fun h => hin (h.get hz)
        clear hr hz
        go_wp2_with fail
        refine (from_any z _ _ _).mono ?_
        rintro e w1 ⟨rfl, hw1⟩
        rw [hw1, decide_eq_false hin]
        clear hw1
        go_wp2_with fail
        go_ret
        exact ⟨by rw [HV.out]; first | rfl | (simp; omega), rfl⟩
    · obtain rfl : k = n := by omega
      have HV : Hid (decide (inR lo hi L) = true) := decide_eq_true (inR_of fun k z hk hz => hr.out k z (by have := HN.out; omega) hz)
      clear hr
      go_wp2
      go_ret
      exact ⟨by rw [HV.out]; first | rfl | (simp; omega), rfl⟩

theorem last_any {v : Value} {L : List Int} {w : World} {z : Int} (h : Ls w v L) (hz : L[L.length - 1]? = some z) :
    Calls Try.prog 59 #[v] w fun e w' => e = .returned (.int .i64 z) ∧ w' = w := by
  obtain ⟨ao, cap, rfl, hn, hcap, hc⟩ := h
  have hl : 0 < L.length := by have := (List.getElem?_eq_some_iff.1 hz).1; omega
  obtain ⟨b, off, rfl, _, hcell⟩ := hc (by omega)
  have e1 := hcell _ z hz
  generalize L.length = n at *
  clear hcell hc hz
  go_enter Try.func59, Try.ntmps59
  go_wp2
  go_ret
  exact ⟨rfl, rfl⟩

theorem valid_any {v : Value} {L : List Int} {w : World} (h : Wh w v L) :
    Calls Try.prog 71 #[v] w fun e w' => e = .returned (.bool (val L)) ∧ Below w.heap.size w w' := by
  obtain ⟨s, rfl, h⟩ := h
  obtain ⟨ao, cap, rfl, hn, hcap, _⟩ := id h
  have HH : Hid (Ls w (.slice ao L.length cap) L) := h
  clear h
  obtain ⟨n, hnn⟩ : ∃ n, n = L.length := ⟨_, rfl⟩
  rw [← hnn] at hn hcap HH ⊢
  have HN : Hid (n = L.length) := hnn
  clear hnn
  by_cases h1 : n < 1
  · have HV : Hid (val L = false) := val_no fun h => by have := h.pos; have := HN.out; omega
    obtain rfl : n = 0 := by omega
    go_enter Try.func71, Try.ntmps71
    go_wp2
    go_ret
    exact ⟨by rw [HV.out]; first | rfl | (simp; omega), new1 _ _⟩
  by_cases h17 : 17 < n
  · have HV : Hid (val L = false) := val_no fun h => by have := h.le; have := HN.out; omega
    go_enter Try.func71, Try.ntmps71
    go_wp2
    go_ret
    exact ⟨by rw [HV.out]; first | rfl | (simp; omega), new1 _ _⟩
  go_enter Try.func71, Try.ntmps71
  go_wp2_with fail
  refine (are_any (HH.out.below (new1 _ _)) _ _).mono ?_
  rintro e w1 ⟨rfl, hw1⟩
  rw [hw1]
  clear hw1
  by_cases hin : inR (-1000000) 1000000 L
  · rw [decide_eq_true hin]
    have HI : Hid (inR (-1000000) 1000000 L) := hin
    clear hin
    by_cases hone : n = 1
    · have HV : Hid (val L = true) := val_iff.2 ⟨by have := HN.out; omega, by have := HN.out; omega, HI.out, .inl (by have := HN.out; omega)⟩
      go_wp2_with fail
      go_ret
      exact ⟨by rw [HV.out]; first | rfl | (simp; omega), new1 _ _⟩
    · obtain ⟨z, hz⟩ := get_some L (L.length - 1) (by have := HN.out; omega)
      have Hz : Hid (L[L.length - 1]? = some z) := hz
      have HV : Hid (val L = (decide (z ≠ 0))) := by
        by_cases hz0 : z = 0
        · rw [decide_eq_false (fun h => h hz0)]
          exact val_no fun h => by
            rcases h.2.2.2 with h | h
            · exact hone (by have := HN.out; omega)
            · exact h (by rw [hz, hz0])
        · rw [decide_eq_true hz0]
          exact val_iff.2 ⟨by have := HN.out; omega, by have := HN.out; omega, HI.out, .inr (by rw [hz]; simpa using hz0)⟩
      clear hz
      go_wp2_with fail
      refine (last_any (HH.out.below (new1 _ _)) Hz.out).mono ?_
      rintro e w1 ⟨rfl, hw1⟩
      rw [hw1]
      clear hw1
      by_cases hz0 : z = 0
      · subst hz0
        go_wp2_with fail
        go_ret
        exact ⟨by rw [HV.out]; first | rfl | (simp; omega), new1 _ _⟩
      · have hzb : (z == 0) = false := by rw [beq_eq_false_iff_ne]; exact hz0
        go_wp2_with fail
        go_ret
        exact ⟨by rw [HV.out, decide_eq_true hz0]; first | rfl | (simp; omega), new1 _ _⟩
  · rw [decide_eq_false hin]
    have HV : Hid (val L = false) := val_no fun h => hin h.2.2.1
    clear hin
    go_wp2_with fail
    go_ret
    exact ⟨by rw [HV.out]; first | rfl | (simp; omega), new1 _ _⟩

theorem is_any {b : Nat} {s : Value} {L : List Int} {w : World} (hb : w.cell? ⟨b, 0, none⟩ = some s) (h : Ls w s L) :
    Calls Try.prog 23 #[.pointer (some ⟨b, 0, none⟩)] w fun e w' => e = .returned (.bool (val L)) ∧ w' = w := by
  have hs := terms_any h
  clear h
  go_enter Try.func23, Try.ntmps23
  go_wp2_with fail
  refine hs.mono ?_
  rintro e w1 ⟨rfl, hw1⟩
  rw [hw1]
  clear hw1 hs
  go_wp2_with fail
  go_ret
  exact ⟨rfl, rfl⟩

end Go.Proofs.Ytfhcfeafohcjpaa.wh
