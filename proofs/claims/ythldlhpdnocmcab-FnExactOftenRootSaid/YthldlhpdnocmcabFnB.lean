/- Zeros left out, and wholes made of terms: both sides. -/
import Derived.Test.YthldlhpdnocmcabFnA
import Derived.Laws.ResultCell
import Derived.Maps.AppendAt
namespace Go.Proofs.Ythldlhpdnocmcab.wh
open Go.RowKit Go.Pl

theorem map_take_get {L : List Int} {k j : Nat} {u : Value} (h : ((L.take k).map (Value.int .i64))[j]? = some u) : ∃ z, L[j]? = some z ∧ u = .int .i64 z ∧ j < k := by
  rw [List.getElem?_map, List.getElem?_take] at h
  split at h
  · cases hz : L[j]? with
    | none => rw [hz] at h; cases h
    | some z =>
      rw [hz] at h
      exact ⟨z, rfl, (Option.some.inj h).symm, by assumption⟩
  · cases h
theorem one_of_map {L : List Int} : ∀ u ∈ L.map (Value.int .i64), u.oneCell' = true := by
  intro u hu
  obtain ⟨z, _, rfl⟩ := List.mem_map.1 hu
  rfl

theorem tl_any {v : Value} {L : List Int} {w : World} (h : Ls w v L) (h0 : L ≠ []) :
    Calls Try.prog 70 #[v] w fun e w' => e = .returned (.int .i64 (tlen L L.length)) ∧ w' = w := by
  obtain ⟨ao, cap, rfl, hn, hcap, hc⟩ := h
  have hp := len_pos h0
  obtain ⟨b, off, rfl, hbw, hcell⟩ := hc (by omega)
  have HC : Hid (∀ (k : Nat) (z : Int), L[k]? = some z → w.cell? ⟨b, off + k, none⟩ = some (.int .i64 z)) := hcell
  obtain ⟨n, hnn⟩ : ∃ n, n = L.length := ⟨_, rfl⟩
  rw [← hnn] at hn hcap hp
  simp only [← hnn]
  have HN : Hid (n = L.length) := hnn
  clear hnn hc hcell hbw h0
  go_enter Try.func70, Try.ntmps70
  go_wp2
  go_loop [3] (fun i => ∃ (k : Nat), 1 ≤ k ∧ k ≤ n ∧ i = .int .i64 k ∧ Hid (tlen L k = tlen L n)) (fun i => (intOf i).toNat)
  case atStart => exact ⟨n, hp, by omega, rfl, rfl⟩
  case round =>
    obtain ⟨k, hk1, hk, rfl, ht⟩ := hrel
    obtain ⟨z, hz⟩ := get_some L (k - 1) (by have := HN.out; omega)
    have e1 : w.cell? ⟨b, off + (k - 1), none⟩ = some (.int .i64 z) := HC.out _ z hz
    have Hz : Hid (L[k - 1]? = some z) := hz
    clear hz
    by_cases h1 : k = 1
    · subst h1
      clear e1
      go_wp2
      go_ret
      exact ⟨by rw [← ht.out]; rfl, rfl⟩
    · by_cases hz0' : z = 0
      · subst hz0'
        have HT2 : Hid (tlen L (k - 1) = tlen L n) := by
          have := tlen_zero L (n := k) (by omega) Hz.out
          show _ = _
          rw [← this]; exact ht.out
        go_wp2
        go_round
        case rel => exact ⟨k - 1, by omega, by omega, by go_num, HT2⟩
        case measure => simp [intOf]; omega
      · have hzb : (z == 0) = false := by rw [beq_eq_false_iff_ne]; exact hz0'
        have hk' : Hid (tlen L k = k) := tlen_stop L (by omega) (by rw [Hz.out]; simpa using hz0')
        go_wp2
        go_ret
        exact ⟨by rw [← ht.out, hk'.out]; rfl, rfl⟩

theorem wz_any {v : Value} {L : List Int} {w : World} {lo hi : Nat} (h : Own w lo hi v L) (hh : hi ≤ w.heap.size) (h0 : L ≠ []) :
    Calls Try.prog 58 #[v] w fun e w' => ∃ v', e = .returned v' ∧ Own w lo hi v' (trim L) ∧ w' = w := by
  have ht := tl_any (h.ls hh) h0
  have hp := len_pos h0
  obtain ⟨hn, ⟨rfl, e⟩ | ⟨g, cap, cs, rfl, hcap, hlo, hhi, hg, hm, hle, hcs⟩⟩ := h
  · exact absurd e h0
  have hT := tlen_le L L.length
  have HO : Hid (∀ m, Own w lo hi (.slice (some ⟨g, 0, none⟩) (tlen L L.length) m) (trim L) ∨ m < tlen L L.length) := fun m => by
    by_cases hm' : m < tlen L L.length
    · exact .inr hm'
    · have hl := trim_len h0
      refine .inl ⟨by omega, .inr ⟨g, m, cs, by rw [hl], by omega, hlo, hhi, hg, hm, by omega, fun k z hk => hcs k z (trim_get h0 hk)⟩⟩
  have hT1 := tlen_pos L L.length hp
  generalize tlen L L.length = t at *
  clear hcs hg
  go_enter Try.func58, Try.ntmps58
  go_wp2_with fail
  refine ht.mono ?_
  rintro e w1 ⟨rfl, hw1⟩
  rw [hw1]
  clear hw1 ht
  go_wp2_with fail
  go_ret
  refine ⟨_, rfl, ?_, rfl⟩
  rcases HO.out t with h | h
  · exact h
  · omega

theorem gv_own {w : World} {lo hi : Nat} {v : Value} {L : List Int} (h : Own w lo hi v (trim L)) (hv : val (trim L) = true) : Own w lo hi v (gv L) := by
  rw [gv_yes hv]; exact h
theorem Own.setBelow {w : World} {lo hi : Nat} {v : Value} {L : List Int} (h : Own w lo hi v L) {b j : Nat} (hb : b < lo) (u : Value) : Own (w.setCell ⟨b, j, none⟩ u) lo hi v L :=
  h.stay fun k h1 _ _ => Below.heap_setCell _ _ _ _ (by show k ≠ b; omega)

end Go.Proofs.Ythldlhpdnocmcab.wh
