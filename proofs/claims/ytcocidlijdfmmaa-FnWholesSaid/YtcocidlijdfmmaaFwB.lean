/- The law of wholes: its comparison of two wholes. -/
import Derived.Test.YtcocidlijdfmmaaFwE
namespace Go.Proofs.Ytcocidlijdfmmaa.fw
open Go.RowKit Go.Pl Go.Proofs.Ytcocidlijdfmmaa.wh Go.Proofs.Ytcocidlijdfmmaa.bys

theorem ints_any {v0 v1 : Value} {L : List Int} {w : World} (h0 : Ls w v0 L) (h1 : Ls w v1 L) :
    Calls Try.prog 30 #[v0, v1] w fun e w' => e = .returned (.bool true) ∧ ∃ m, w' = w.drewN m := by
  obtain ⟨ao, cap, rfl, hn, _, hc0⟩ := h0
  obtain ⟨bo, cap1, rfl, _, _, hc1⟩ := h1
  have hc0' : Hid (L.length ≠ 0 → ∃ b off, ao = some ⟨b, off, none⟩ ∧ b < w.heap.size ∧ ∀ (k : Nat) (z : Int), L[k]? = some z → w.cell? ⟨b, off + k, none⟩ = some (.int .i64 z)) := hc0
  have hc1' : Hid (L.length ≠ 0 → ∃ b off, bo = some ⟨b, off, none⟩ ∧ b < w.heap.size ∧ ∀ (k : Nat) (z : Int), L[k]? = some z → w.cell? ⟨b, off + k, none⟩ = some (.int .i64 z)) := hc1
  clear hc0 hc1
  go_enter Try.func30, Try.ntmps30
  go_wp2
  go_loopw [13] (fun i wr => ∃ (k : Nat), k ≤ L.length ∧ i = .int .i64 k ∧ Hid (∃ m, wr = w.drewN m)) (fun i _ => L.length - (intOf i).toNat)
  case atStart => exact ⟨0, by omega, rfl, 0, rfl⟩
  case round =>
    obtain ⟨k, hk, rfl, hm⟩ := hrel
    by_cases hlt : k < L.length
    · obtain ⟨b, off, rfl, _, hcell⟩ := hc0'.out (by omega)
      obtain ⟨b', off', rfl, _, hcell'⟩ := hc1'.out (by omega)
      obtain ⟨z, hz⟩ : ∃ z, L[k]? = some z := ⟨L[k]'(by omega), List.getElem?_eq_getElem _⟩
      have e1 : wr.cell? ⟨b, off + k, none⟩ = some (.int .i64 z) := by obtain ⟨m, rfl⟩ := hm.out; exact hcell k z hz
      have e2 : wr.cell? ⟨b', off' + k, none⟩ = some (.int .i64 z) := by obtain ⟨m, rfl⟩ := hm.out; exact hcell' k z hz
      clear hcell hcell' hz
      have next : ∀ q, Hid (∃ m, wr.drewN q = w.drewN m) := fun q => by obtain ⟨m, rfl⟩ := hm.out; exact ⟨m + q, World.drewN_drewN _ _ _⟩
      clear hm
      go_wp2_with fail
      go_region
      go_wp2
      go_roundw
      case rel => exact ⟨k + 1, by omega, by go_num, next 1⟩
      case measure => simp [intOf]; omega
    · obtain rfl : k = L.length := by omega
      obtain ⟨m, rfl⟩ := hm.out
      go_wp2
      go_ret
      exact ⟨rfl, _, rfl⟩
theorem whole_any {v0 v1 : Value} {L : List Int} {w : World} (h0 : Wh w v0 L) (h1 : Wh w v1 L) (hne : 1 ≤ L.length) :
    Calls Try.prog 12 #[v0, v1] w fun e w' => e = .returned (.bool true) ∧ Below w.heap.size w w' := by
  obtain ⟨s0, rfl, h0⟩ := h0
  obtain ⟨s1, rfl, h1⟩ := h1
  obtain ⟨ao, cap, rfl⟩ := h0.shape
  obtain ⟨bo, cap1, rfl⟩ := h1.shape
  have hmx : L.length ≤ 9223372036854775807 := by obtain ⟨_, _, _, h, _⟩ := h0; exact h
  have H0 : Hid (Ls w (.slice ao L.length cap) L) := h0
  have H1 : Hid (Ls w (.slice bo L.length cap1) L) := h1
  clear h0 h1
  go_enter Try.func12, Try.ntmps12
  go_wp2_with fail
  refine (ints_any (H0.out.below (new2 _ _ _)) (H1.out.below (new2 _ _ _))).mono ?_
  rintro e w1 ⟨rfl, m, hm⟩
  have B1 : Hid (Below w.heap.size w w1) := by
    have b : Below ((w.alloc (.cells #[.slice ao L.length cap] 26)).alloc (.cells #[.slice bo L.length cap1] 26)).heap.size ((w.alloc (.cells #[.slice ao L.length cap] 26)).alloc (.cells #[.slice bo L.length cap1] 26)) w1 := Go.Pst.below_draws ⟨m, hm⟩
    exact (new2 w _ _).trans (b.mono (by simp; omega))
  clear hm
  go_wp2_with fail
  go_ret
  exact ⟨rfl, B1.out⟩
end Go.Proofs.Ytcocidlijdfmmaa.fw
