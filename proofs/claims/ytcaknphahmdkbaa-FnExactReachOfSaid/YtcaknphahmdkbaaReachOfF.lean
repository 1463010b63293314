/- ReachOf: what both sides answer. -/
import Derived.Test.YtcaknphahmdkbaaFrA
import Derived.Deep.DeepCutAuto
import Derived.Test.YtcaknphahmdkbaaHr
namespace Go.Proofs.Ytcaknphahmdkbaa.fReachOf
open Go.RowKit Go.Pl Go.Proofs.Ytcaknphahmdkbaa.wh
def ok (A : List Int) : Bool := valR A
theorem pow12 : ∀ j : Nat, j ≤ 12 → (1 : Int) ≤ 2 ^ j ∧ (2 : Int) ^ j ≤ 4096 ∧ (j = 12 → (2 : Int) ^ j = 4096) := by decide
theorem cell_lt {w : World} {b o : Nat} {v : Value} (h : w.cell? ⟨b, o, none⟩ = some v) : b < w.heap.size := by
  simp only [World.cell?] at h
  rcases hb : w.heap[b]? with _ | x
  · simp [hb] at h
  · exact (Array.getElem?_eq_some_iff.1 hb).1
def z (A : List Int) : Int := if valR A = true then (reach A : Int) else 0

set_option maxRecDepth 100000 in
set_option maxHeartbeats 1600000 in
theorem sreach_any {bx : Nat} {s : Value} {L : List Int} {w : World} (hb : w.cell? ⟨bx, 0, none⟩ = some s) (h : Ls w s L) (hv : ValR L) :
    Calls Try.prog 62 #[.pointer (some ⟨bx, 0, none⟩)] w fun e w' => e = .returned (.int .i64 (reach L)) ∧ Below w.heap.size w w' := by
  obtain ⟨ao, cap, rfl, hn, hcap, hc⟩ := h
  have hp := hv.pos
  have h9 := hv.le
  obtain ⟨b, off, rfl, hbw, hcell⟩ := hc (by omega)
  have HC : Hid (∀ (k : Nat) (z : Int), L[k]? = some z → w.cell? ⟨b, off + k, none⟩ = some (.int .i64 z)) := hcell
  have HV : Hid (ValR L) := hv
  obtain ⟨n, hnn⟩ : ∃ n, n = L.length := ⟨_, rfl⟩
  rw [← hnn] at hn hcap hp h9 hb
  have HN : Hid (n = L.length) := hnn
  clear hc hcell hv hnn
  obtain ⟨m, rfl⟩ : ∃ m, n = m + 1 := ⟨n - 1, by omega⟩
  have HR : Hid (reach L = if m = 0 then 0 else rch (max (at' L m) (-(at' L m))) (max (at' L m) (-(at' L m)) + most L m) 12 0) := by
    show _ = _
    unfold reach
    rw [← HN.out]
    by_cases h : m = 0
    · subst h; simp
    · rw [if_neg (by omega), if_neg h, Nat.add_sub_cancel]
  have e1 : w.cell? ⟨b, off + m, none⟩ = some (.int .i64 (at' L m)) := HC.out _ _ (at_some L m (by have := HN.out; omega))
  have bd := HV.out.at m
  have hne : at' L m ≠ 0 := by have := HV.out.last; rw [← HN.out] at this; simpa using this
  obtain ⟨y, hy⟩ : ∃ y, y = at' L m := ⟨_, rfl⟩
  rw [← hy] at HR e1 bd hne
  obtain ⟨a, ha⟩ : ∃ a, a = max y (-y) := ⟨_, rfl⟩
  rw [← ha] at HR
  have HA : Hid (1 ≤ a ∧ a ≤ 1000 ∧ max y (-y) = a) := by constructor <;> omega
  clear hy
  have q0 : ((m + 1 : Nat) : Int) - 1 = (m : Int) := by omega
  have HBx : Hid (bx < w.heap.size) := cell_lt hb
  have HBw : Hid (b < w.heap.size) := hbw
  go_enter Try.func62, Try.ntmps62
  go_wp2_with fail
  go_cut [4] (fun v wx => v = .int .i64 a ∧ Hid (Below w.heap.size w wx))
  case first =>
    by_cases hs : y ≤ -y
    · have : a = -y := by omega
      subst this
      clear ha
      go_region
      all_goals (go_wp2_with fail; go_meet; exact ⟨rfl, (Below.refl _ _).drew⟩)
    · have : a = y := by omega
      subst this
      clear ha
      go_region
      all_goals (go_wp2_with fail; go_meet; exact ⟨rfl, (Below.refl _ _).drew⟩)
  case rest =>
    obtain ⟨rfl, hwc⟩ := hcut
    clear e1 bd hne ha
    have HB0 : Hid (Below w.heap.size w wc) := hwc
    clear hwc
    go_wp2_with fail
    go_loopw [5, 6] (fun p q wr => ∃ k : Nat, k ≤ m ∧ p = .int .i64 (most L k) ∧ q = .int .i64 (k : Int) ∧ Hid (Below w.heap.size w wr)) (fun _ q _ => m - (intOf q).toNat)
    case atStart => exact ⟨0, by omega, rfl, rfl, HB0⟩
    case round =>
      obtain ⟨k, hk, rfl, rfl, hb'⟩ := hrel
      have c0 : wr.cell? ⟨bx, 0, none⟩ = some (Value.slice (some ⟨b, off, none⟩) (m + 1) cap) := (hb'.out.cell (p := ⟨bx, 0, none⟩) HBx.out).trans hb
      by_cases hlt : k < m
      · have e1 : wr.cell? ⟨b, off + k, none⟩ = some (.int .i64 (at' L k)) := (hb'.out.cell (p := ⟨b, off + k, none⟩) HBw.out).trans (HC.out _ _ (at_some L k (by have := HN.out; omega)))
        have bd := HV.out.at k
        have mb := most_bd HV.out k
        have HM : Hid (most L (k + 1) = max (max (most L k) (at' L k)) (-(at' L k))) := rfl
        obtain ⟨x, hx⟩ : ∃ x, x = at' L k := ⟨_, rfl⟩
        obtain ⟨p, hp'⟩ : ∃ p, p = most L k := ⟨_, rfl⟩
        rw [← hx] at e1 bd HM
        rw [← hp'] at mb HM ⊢
        clear hx hp'
        have HB1 : Hid (Below w.heap.size w wr.drew) := hb'.out.drew
        have fin : ∀ v : Int, v = max (max p x) (-x) → Value.int .i64 v = Value.int .i64 (most L (k + 1)) := fun v h => by rw [HM.out, h]
        have FIN : Hid (∀ v : Int, v = max (max p x) (-x) → Value.int .i64 v = Value.int .i64 (most L (k + 1))) := fin
        clear fin HM hb'
        go_wp2_with fail
        go_region
        all_goals go_wp2
        all_goals go_roundw
        all_goals first | (case rel => exact ⟨k + 1, by omega, FIN.out _ (by omega), by go_num, HB1⟩) | (case measure => simp [intOf]; omega) | skip
      · obtain rfl : k = m := by omega
        have mb := most_bd HV.out k
        by_cases h0 : k = 0
        · subst h0
          have HR0 : Hid (reach L = 0) := by show _ = _; rw [HR.out]; rfl
          clear HR HA mb
          go_wp2
          go_ret
          exact ⟨by rw [HR0.out]; rfl, hb'.out⟩
        · have HR1 : Hid (reach L = rch a (a + most L k) 12 0) := by show _ = _; rw [HR.out, if_neg h0]
          obtain ⟨p, hp'⟩ : ∃ p, p = most L k := ⟨_, rfl⟩
          rw [← hp'] at mb HR1 ⊢
          clear hp' HR
          have HA' := HA.out
          obtain ⟨ha1, ha2, _⟩ := HA'
          have w1 : IntKind.i64.wrap (a + p) = a + p := IntWalk.i64_in _ (by omega)
          have w2 : wrap64 (a + p) = a + p := IntWalk.wrap64_in _ (by omega)
          go_wp2_with fail
          go_loopw [7] (fun q wr => ∃ j : Nat, j ≤ 12 ∧ q = .int .i64 (j : Int) ∧ Hid (rch a (a + p) (12 - j) j = rch a (a + p) 12 0) ∧ Hid (Below w.heap.size w wr)) (fun q _ => 12 - (intOf q).toNat)
          case atStart => exact ⟨0, by omega, rfl, rfl, hb'⟩
          case round =>
            obtain ⟨j, hj, rfl, hr, hb2⟩ := hrel
            have hP := pow12 j hj
            have HPP : Hid (j ≤ 11 ∨ ¬ a * 2 ^ j ≤ a + p) := by
              by_cases h : j ≤ 11
              · exact .inl h
              · obtain rfl : j = 12 := by omega
                exact .inr (by omega)
            have hab := mul_ab (A := 1000) (B := 4096) (a := a) (b := 2 ^ j) (by omega) (by omega)
            have hjn : (j : Int).toNat = j := by omega
            obtain ⟨s, hs⟩ : ∃ s, s = a * 2 ^ j := ⟨_, rfl⟩
            have HS : Hid (a * 2 ^ j = s) := hs.symm
            have w3 : IntKind.i64.wrap (a * 2 ^ j) = s := by rw [← hs]; exact IntWalk.i64_in _ (by omega)
            rw [← hs] at hab
            clear hs hP
            by_cases hle : s ≤ a + p
            · have h11 : j ≤ 11 := HPP.out.resolve_right (fun h => h (by rw [HS.out]; exact hle))
              have HRN : Hid (rch a (a + p) (12 - (j + 1)) (j + 1) = rch a (a + p) 12 0) := by
                have h2 : 12 - j = (12 - (j + 1)) + 1 := by omega
                have h1 := hr.out
                rw [h2, rch_go (by rw [HS.out]; exact hle)] at h1
                exact h1
              clear hr HPP HS
              go_wp2
              go_roundw
              case rel => exact ⟨j + 1, by omega, by go_num, HRN, hb2⟩
              case measure => simp [intOf]; omega
            · have HRF : Hid (reach L = j) := by
                have h1 := hr.out
                show _ = _
                rw [HR1.out, ← h1]
                by_cases e : j = 12
                · subst e; rfl
                · rw [show 12 - j = (11 - j) + 1 by omega, rch_stop (by rw [HS.out]; exact hle)]
              clear hr HPP HS HR1
              go_wp2
              go_ret
              exact ⟨by rw [HRF.out]; rfl, hb2.out⟩

set_option maxRecDepth 100000 in
set_option maxHeartbeats 1600000 in
theorem ireach_any {v : Value} {L : List Int} {w : World} (h : Ls w v L) (hv : ValR L) :
    Calls Try.prog 63 #[v] w fun e w' => e = .returned (.int .i64 (reach L)) ∧ Below w.heap.size w w' := by
  obtain ⟨ao, cap, rfl, hn, hcap, hc⟩ := h
  have hp := hv.pos
  have h9 := hv.le
  obtain ⟨b, off, rfl, hbw, hcell⟩ := hc (by omega)
  have HC : Hid (∀ (k : Nat) (z : Int), L[k]? = some z → w.cell? ⟨b, off + k, none⟩ = some (.int .i64 z)) := hcell
  have HV : Hid (ValR L) := hv
  obtain ⟨n, hnn⟩ : ∃ n, n = L.length := ⟨_, rfl⟩
  rw [← hnn] at hn hcap hp h9 ⊢
  have HN : Hid (n = L.length) := hnn
  clear hc hcell hv hnn
  obtain ⟨m, rfl⟩ : ∃ m, n = m + 1 := ⟨n - 1, by omega⟩
  have HR : Hid (reach L = if m = 0 then 0 else rch (max (at' L m) (-(at' L m))) (max (at' L m) (-(at' L m)) + most L m) 12 0) := by
    show _ = _
    unfold reach
    rw [← HN.out]
    by_cases h : m = 0
    · subst h; simp
    · rw [if_neg (by omega), if_neg h, Nat.add_sub_cancel]
  have HBw : Hid (b < w.heap.size) := hbw
  have q0 : ((m + 1 : Nat) : Int) - 1 = (m : Int) := by omega
  have q1 : (m : Int) + 1 - 1 = (m : Int) := by omega
  by_cases h0 : m = 0
  · subst h0
    have HR0 : Hid (reach L = 0) := by show _ = _; rw [HR.out]; rfl
    clear HR
    go_enter Try.func63, Try.ntmps63
    go_wp2
    go_ret
    exact ⟨by rw [HR0.out]; rfl, Below.refl _ _⟩
  have hm0 : ((m : Int) == 0) = false := by rw [beq_eq_false_iff_ne]; omega
  have bd := HV.out.at m
  have hne : at' L m ≠ 0 := by have := HV.out.last; rw [← HN.out] at this; simpa using this
  obtain ⟨y, hy⟩ : ∃ y, y = at' L m := ⟨_, rfl⟩
  have e0 : w.cell? ⟨b, off + m, none⟩ = some (.int .i64 y) := by rw [hy]; exact HC.out _ _ (at_some L m (by have := HN.out; omega))
  have HE0 : Hid (w.cell? ⟨b, off + m, none⟩ = some (.int .i64 y)) := e0
  rw [← hy] at HR bd hne
  obtain ⟨a, ha⟩ : ∃ a, a = max y (-y) := ⟨_, rfl⟩
  rw [← ha] at HR
  have HA : Hid (1 ≤ a ∧ a ≤ 1000 ∧ max y (-y) = a) := by constructor <;> omega
  have HR1 : Hid (reach L = rch a (a + most L m) 12 0) := by show _ = _; rw [HR.out, if_neg h0]
  clear hy e0 HR
  go_enter Try.func63, Try.ntmps63
  go_wp2_with fail
  go_loopw [4, 18] (fun p q wr => ∃ k : Nat, k ≤ m ∧ p = .int .i64 (most L k) ∧ q = .int .i64 (k : Int) ∧ Hid (Below w.heap.size w wr)) (fun _ q _ => m - (intOf q).toNat)
  case atStart => exact ⟨0, by omega, rfl, rfl, Below.refl _ _⟩
  case round =>
    obtain ⟨k, hk, rfl, rfl, hb'⟩ := hrel
    by_cases hlt : k < m
    · have e1 : wr.cell? ⟨b, off + k, none⟩ = some (.int .i64 (at' L k)) := (hb'.out.cell (p := ⟨b, off + k, none⟩) HBw.out).trans (HC.out _ _ (at_some L k (by have := HN.out; omega)))
      have bdk := HV.out.at k
      have mb := most_bd HV.out k
      have HM : Hid (most L (k + 1) = max (max (most L k) (at' L k)) (-(at' L k))) := rfl
      obtain ⟨x, hx⟩ : ∃ x, x = at' L k := ⟨_, rfl⟩
      obtain ⟨p, hp'⟩ : ∃ p, p = most L k := ⟨_, rfl⟩
      rw [← hx] at e1 bdk HM
      rw [← hp'] at mb HM ⊢
      clear hx hp'
      have HB1 : Hid (Below w.heap.size w wr) := hb'.out
      have FIN : Hid (∀ v : Int, v = max (max p x) (-x) → Value.int .i64 v = Value.int .i64 (most L (k + 1))) := fun v h => by rw [HM.out, h]
      clear HM hb'
      go_wp2
      all_goals go_roundw
      all_goals first | (case rel => exact ⟨k + 1, by omega, FIN.out _ (by omega), by go_num, HB1⟩) | (case measure => simp [intOf]; omega) | skip
    · obtain rfl : k = m := by omega
      have mb := most_bd HV.out k
      obtain ⟨p, hp'⟩ : ∃ p, p = most L k := ⟨_, rfl⟩
      rw [← hp'] at mb HR1 ⊢
      clear hp'
      have e1 : wr.cell? ⟨b, off + k, none⟩ = some (.int .i64 y) := (hb'.out.cell (p := ⟨b, off + k, none⟩) HBw.out).trans HE0.out
      go_wp2_with fail
      go_cut [7] (fun v wx => v = .int .i64 a ∧ Hid (Below w.heap.size w wx))
      case first =>
        by_cases hs : y ≤ -y
        · have : a = -y := by omega
          subst this
          clear ha
          go_region
          all_goals (go_wp2_with fail; go_meet; exact ⟨rfl, hb'.out.drew⟩)
        · have : a = y := by omega
          subst this
          clear ha
          go_region
          all_goals (go_wp2_with fail; go_meet; exact ⟨rfl, hb'.out.drew⟩)
      case rest =>
        obtain ⟨rfl, hwc⟩ := hcut
        clear e1 bd hne ha
        have HB0 : Hid (Below w.heap.size w wc) := hwc
        clear hwc
        have HA' := HA.out
        obtain ⟨ha1, ha2, _⟩ := HA'
        have w1 : IntKind.i64.wrap (a + p) = a + p := IntWalk.i64_in _ (by omega)
        have w2 : wrap64 (a + p) = a + p := IntWalk.wrap64_in _ (by omega)
        go_wp2_with fail
        go_loopw [8] (fun q wr => ∃ j : Nat, j ≤ 12 ∧ q = .int .i64 (j : Int) ∧ Hid (rch a (a + p) (12 - j) j = rch a (a + p) 12 0) ∧ Hid (Below w.heap.size w wr)) (fun q _ => 12 - (intOf q).toNat)
        case atStart => exact ⟨0, by omega, rfl, rfl, HB0⟩
        case round =>
          obtain ⟨j, hj, rfl, hr, hb2⟩ := hrel
          have hP := pow12 j hj
          have HPP : Hid (j ≤ 11 ∨ ¬ a * 2 ^ j ≤ a + p) := by
            by_cases h : j ≤ 11
            · exact .inl h
            · obtain rfl : j = 12 := by omega
              exact .inr (by omega)
          have hab := mul_ab (A := 1000) (B := 4096) (a := a) (b := 2 ^ j) (by omega) (by omega)
          have hjn : (j : Int).toNat = j := by omega
          obtain ⟨s, hs⟩ : ∃ s, s = a * 2 ^ j := ⟨_, rfl⟩
          have HS : Hid (a * 2 ^ j = s) := hs.symm
          have w3 : IntKind.i64.wrap (a * 2 ^ j) = s := by rw [← hs]; exact IntWalk.i64_in _ (by omega)
          rw [← hs] at hab
          clear hs hP
          by_cases hle : s ≤ a + p
          · have h11 : j ≤ 11 := HPP.out.resolve_right (fun h => h (by rw [HS.out]; exact hle))
            have HRN : Hid (rch a (a + p) (12 - (j + 1)) (j + 1) = rch a (a + p) 12 0) := by
              have h2 : 12 - j = (12 - (j + 1)) + 1 := by omega
              have h1 := hr.out
              rw [h2, rch_go (by rw [HS.out]; exact hle)] at h1
              exact h1
            clear hr HPP HS
            go_wp2
            go_roundw
            case rel => exact ⟨j + 1, by omega, by go_num, HRN, hb2⟩
            case measure => simp [intOf]; omega
          · have HRF : Hid (reach L = j) := by
              have h1 := hr.out
              show _ = _
              rw [HR1.out, ← h1]
              by_cases e : j = 12
              · subst e; rfl
              · rw [show 12 - j = (11 - j) + 1 by omega, rch_stop (by rw [HS.out]; exact hle)]
            clear hr HPP HS HR1
            go_wp2
            go_ret
            exact ⟨by rw [HRF.out]; rfl, hb2.out⟩


set_option maxRecDepth 100000 in
theorem spec_any {A : List Int} {v : Value} {w : World} (h : Wh w v A) : Calls Try.prog 28 #[v] w fun e w' => e = .returned (.tuple #[.int .i64 (z A), .bool (ok A)]) ∧ Below w.heap.size w w' := by
  obtain ⟨s, rfl, h⟩ := h
  obtain ⟨ao, cap, rfl⟩ := id h.shape
  have HH : Hid (Ls w (.slice ao A.length cap) A) := h
  clear h
  obtain ⟨w1, hw⟩ : ∃ x, x = w.alloc (.cells #[.slice ao A.length cap] 27) := ⟨_, rfl⟩
  have X : Hid (Bx w1 w.heap.size (.slice ao A.length cap)) := by rw [hw]; exact Bx.new _ _ _
  have B1 : Hid (Below w.heap.size w w1) := by rw [hw]; exact new1 _ _
  have H1 : Hid (Ls w1 (.slice ao A.length cap) A) := HH.out.below B1.out
  have c := X.out.cell
  clear HH
  go_enter Try.func28, Try.ntmps28
  go_wp2_with fail
  rw [← hw]
  clear hw
  refine (isR_any c H1.out).mono ?_
  rintro e w2 ⟨rfl, hw2⟩
  rw [hw2]
  clear hw2
  cases hv : valR A with
  | false =>
    have HZ : Hid (z A = 0 ∧ ok A = false) := ⟨by unfold z; rw [hv]; rfl, hv⟩
    clear hv
    go_wp2_with fail
    go_ret2
    exact ⟨by rw [HZ.out.1, HZ.out.2]; rfl, B1.out⟩
  | true =>
    have HZ : Hid (z A = ((reach A : Int)) ∧ ok A = true) := ⟨by unfold z; rw [hv]; rfl, hv⟩
    have HV : Hid (ValR A) := valR_iff.1 hv
    clear hv
    go_wp2_with fail
    refine (sreach_any c H1.out HV.out).mono ?_
    rintro e w3 ⟨rfl, b⟩
    have B2 : Hid (Below w.heap.size w w3) := B1.out.trans (b.mono B1.out.size)
    clear b
    go_wp2_with fail
    go_ret2
    exact ⟨by rw [HZ.out.1, HZ.out.2]; rfl, B2.out⟩

set_option maxRecDepth 100000 in
theorem impl_any {A : List Int} {v : Value} {w : World} (h : Wh w v A) : Calls Try.prog 29 #[v] w fun e w' => e = .returned (.tuple #[.int .i64 (z A), .bool (ok A)]) ∧ Below w.heap.size w w' := by
  obtain ⟨s, rfl, h⟩ := h
  obtain ⟨ao, cap, rfl⟩ := id h.shape
  have HH : Hid (Ls w (.slice ao A.length cap) A) := h
  clear h
  obtain ⟨w1, hw⟩ : ∃ x, x = w.alloc (.cells #[.slice ao A.length cap] 27) := ⟨_, rfl⟩
  have X : Hid (Bx w1 w.heap.size (.slice ao A.length cap)) := by rw [hw]; exact Bx.new _ _ _
  have B1 : Hid (Below w.heap.size w w1) := by rw [hw]; exact new1 _ _
  have H1 : Hid (Ls w1 (.slice ao A.length cap) A) := HH.out.below B1.out
  have c := X.out.cell
  clear HH
  go_enter Try.func29, Try.ntmps29
  go_wp2_with fail
  rw [← hw]
  clear hw
  refine (validR_any ⟨_, rfl, H1.out⟩).mono ?_
  rintro e w2 ⟨rfl, b⟩
  replace B1 : Hid (Below w.heap.size w w2) := B1.out.trans (b.mono B1.out.size)
  replace H1 : Hid (Ls w2 (.slice ao A.length cap) A) := H1.out.below b
  replace X : Hid (Bx w2 w.heap.size (.slice ao A.length cap)) := X.out.kept b
  replace c := X.out.cell
  clear b
  cases hv : valR A with
  | false =>
    have HZ : Hid (z A = 0 ∧ ok A = false) := ⟨by unfold z; rw [hv]; rfl, hv⟩
    clear hv
    go_wp2_with fail
    go_ret2
    exact ⟨by rw [HZ.out.1, HZ.out.2]; rfl, B1.out⟩
  | true =>
    have HZ : Hid (z A = ((reach A : Int)) ∧ ok A = true) := ⟨by unfold z; rw [hv]; rfl, hv⟩
    have HV : Hid (ValR A) := valR_iff.1 hv
    clear hv
    go_wp2_with fail
    refine (ireach_any H1.out HV.out).mono ?_
    rintro e w3 ⟨rfl, b⟩
    have B2 : Hid (Below w.heap.size w w3) := B1.out.trans (b.mono B1.out.size)
    clear b
    go_wp2_with fail
    go_ret2
    exact ⟨by rw [HZ.out.1, HZ.out.2]; rfl, B2.out⟩
end Go.Proofs.Ytcaknphahmdkbaa.fReachOf
