/- Stores into a list of one's own. -/
import Derived.Test.YtfhcfeafohcjpaaFnC
namespace Go.Proofs.Ytfhcfeafohcjpaa.wh
open Go.RowKit Go.Pl

theorem Own.block {w : World} {lo hi : Nat} {v : Value} {L : List Int} (h : Own w lo hi v L) (h0 : L ≠ []) : ∃ g cap, v = .slice (some ⟨g, 0, none⟩) L.length cap ∧ lo ≤ g ∧ g < hi ∧ L.length ≤ cap ∧ g < w.heap.size := by
  obtain ⟨hn, ⟨rfl, rfl⟩ | ⟨g, cap, cs, rfl, hcp, h1, h2, h3, _⟩⟩ := h
  · exact absurd rfl h0
  · exact ⟨g, cap, rfl, h1, h2, hcp, (Array.getElem?_eq_some_iff.1 h3).1⟩
theorem Own.open {w : World} {lo hi g n cap : Nat} {L : List Int} (h : Own w lo hi (.slice (some ⟨g, 0, none⟩) n cap) L) : ∃ cs : Array Value, n = L.length ∧ L.length ≤ 9223372036854775807 ∧ L.length ≤ cap ∧ lo ≤ g ∧ g < hi ∧ w.heap[g]? = some (.cells cs 2 (0, 0)) ∧ cs.size ≤ maxLen ∧ L.length ≤ cs.size ∧ ∀ (k : Nat) (z : Int), L[k]? = some z → cs[k]? = some (Value.int .i64 z) := by
  obtain ⟨hn, ⟨h', _⟩ | ⟨g', cap', cs, h', hcp, h1, h2, h3, h4⟩⟩ := h
  · simp at h'
  · simp only [Value.slice.injEq, Option.some.injEq, Addr.mk.injEq, and_true] at h'
    obtain ⟨rfl, rfl, rfl⟩ := h'
    exact ⟨cs, rfl, hn, hcp, h1, h2, h3, h4⟩
theorem Own.cell {w : World} {lo hi g n cap : Nat} {L : List Int} (h : Own w lo hi (.slice (some ⟨g, 0, none⟩) n cap) L) {k : Nat} {z : Int} (hk : L[k]? = some z) : w.cell? ⟨g, k, none⟩ = some (.int .i64 z) := by
  obtain ⟨cs, _, _, _, _, _, h3, _, _, h5⟩ := h.open
  rw [cell_of_row w g k cs _ _ h3]
  exact h5 k z hk
theorem Own.free {w : World} {lo hi g n cap : Nat} {L : List Int} (h : Own w lo hi (.slice (some ⟨g, 0, none⟩) n cap) L) (k : Nat) : w.frozen? ⟨g, k, none⟩ = false := by
  obtain ⟨cs, _, _, _, _, _, h3, _⟩ := h.open
  exact frozen_of_row _ _ _ _ _ h3
theorem Own.put {w : World} {lo hi g n cap : Nat} {L : List Int} (h : Own w lo hi (.slice (some ⟨g, 0, none⟩) n cap) L) (k : Nat) (z : Int) : Own (w.setCell ⟨g, k, none⟩ (.int .i64 z)) lo hi (.slice (some ⟨g, 0, none⟩) n cap) (L.set k z) := by
  obtain ⟨cs, rfl, h1, h2, h3, h4, h5, h6, h7, h8⟩ := h.open
  refine ⟨by rw [List.length_set]; exact h1, .inr ⟨g, cap, cs.setIfInBounds k (.int .i64 z), by rw [List.length_set], by rw [List.length_set]; exact h2, h3, h4, heap_setCell_same w g k cs _ _ h5, by simpa using h6, by rw [List.length_set]; simpa using h7, fun j y hj => ?_⟩⟩
  by_cases e : j = k
  · subst e
    have hl : j < L.length := by
      have := (List.getElem?_eq_some_iff.1 hj).1
      rw [List.length_set] at this
      exact this
    rw [List.getElem?_set_self hl] at hj
    rw [Array.getElem?_setIfInBounds_self_of_lt (by omega), ← Option.some.inj hj]
  · rw [List.getElem?_set_ne (by omega)] at hj
    rw [Array.getElem?_setIfInBounds_ne (by omega)]
    exact h8 j y hj
theorem Own.other {w : World} {lo hi : Nat} {v : Value} {L : List Int} (h : Own w lo hi v L) {g j : Nat} (hg : g < lo ∨ hi ≤ g) (u : Value) : Own (w.setCell ⟨g, j, none⟩ u) lo hi v L :=
  h.stay fun k h1 h2 _ => Below.heap_setCell _ _ _ _ (show k ≠ g by omega)
theorem Rd.use {w : World} {hi n cap : Nat} {ao : Option Addr} {L : List Int} (h : Rd w hi (.slice ao n cap) L) : n = L.length ∧ L.length ≤ cap ∧ (L.length ≠ 0 → ∃ b off, ao = some ⟨b, off, none⟩ ∧ b < hi ∧ ∀ (k : Nat) (z : Int), L[k]? = some z → w.cell? ⟨b, off + k, none⟩ = some (.int .i64 z)) := by
  obtain ⟨ao', cap', he, _, hc, hcell⟩ := h
  simp only [Value.slice.injEq] at he
  obtain ⟨rfl, rfl, rfl⟩ := he
  exact ⟨rfl, hc, hcell⟩

theorem own_shape {w : World} {B e n : Nat} {v : Value} {xs : List Value} (h : w.ownsRow B e 1 v n xs) (hn : n ≠ 0) : ∃ g cap, v = .slice (some ⟨g, 0, none⟩) n cap := by
  rcases h.2 with ⟨_, h0⟩ | ⟨g, cap, cur, hv, _⟩
  · exact absurd h0 hn
  · exact ⟨g, cap, hv⟩
end Go.Proofs.Ytfhcfeafohcjpaa.wh
