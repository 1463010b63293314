/- Lists of wholes: what they hold; the laws' comparisons and marks over them. -/
import Derived.Test.YtbbdhbamooaloabWw
import Derived.Deep.RegionHeld3
namespace Go.Proofs.Ytbbdhbamooaloab.wh
open Go.RowKit

/-- the slice v holds the lists of LL, all in blocks below hi -/
def RdWs (w : World) (hi : Nat) (v : Value) (LL : List (List Int)) : Prop :=
  ∃ ao cap, v = .slice ao LL.length cap ∧ LL.length ≤ 9223372036854775807 ∧ LL.length ≤ cap ∧ (LL.length ≠ 0 → ∃ b off, ao = some ⟨b, off, none⟩ ∧ b < hi ∧ ∀ k L, LL[k]? = some L → ∃ s, w.cell? ⟨b, off + k, none⟩ = some s ∧ Rd w hi s L)
theorem RdWs.below {w w' : World} {hi B : Nat} {v : Value} {LL : List (List Int)} (h : RdWs w hi v LL) (hb : Below B w w') (hB : hi ≤ B) : RdWs w' hi v LL := by
  obtain ⟨ao, cap, rfl, hn, hcp, hc⟩ := h
  refine ⟨ao, cap, rfl, hn, hcp, fun h0 => ?_⟩
  obtain ⟨b, off, rfl, hlt, hcell⟩ := hc h0
  refine ⟨b, off, rfl, hlt, fun k L hk => ?_⟩
  obtain ⟨s, h1, h2⟩ := hcell k L hk
  exact ⟨s, (hb.cell (p := ⟨b, off + k, none⟩) (Nat.lt_of_lt_of_le hlt hB)).trans h1, h2.below hb hB⟩
theorem Rd.up {w : World} {hi hi' : Nat} {v : Value} {L : List Int} (h : Rd w hi v L) (hh : hi ≤ hi') : Rd w hi' v L := by
  obtain ⟨ao, cap, rfl, hn, hcp, hc⟩ := h
  refine ⟨ao, cap, rfl, hn, hcp, fun h0 => ?_⟩
  obtain ⟨b, off, rfl, hlt, hcell⟩ := hc h0
  exact ⟨b, off, rfl, Nat.lt_of_lt_of_le hlt hh, hcell⟩
theorem RdWs.up {w : World} {hi hi' : Nat} {v : Value} {LL : List (List Int)} (h : RdWs w hi v LL) (hh : hi ≤ hi') : RdWs w hi' v LL := by
  obtain ⟨ao, cap, rfl, hn, hcp, hc⟩ := h
  refine ⟨ao, cap, rfl, hn, hcp, fun h0 => ?_⟩
  obtain ⟨b, off, rfl, hlt, hcell⟩ := hc h0
  refine ⟨b, off, rfl, Nat.lt_of_lt_of_le hlt hh, fun k L hk => ?_⟩
  obtain ⟨s, h1, h2⟩ := hcell k L hk
  exact ⟨s, h1, h2.up hh⟩
theorem RdWs.nil (w : World) (hi : Nat) : RdWs w hi (.slice none 0 0) [] := ⟨none, 0, rfl, by simp, by simp, fun h => absurd rfl h⟩
theorem RdWs.shape {w : World} {hi : Nat} {v : Value} {LL : List (List Int)} (h : RdWs w hi v LL) : ∃ ao cap, v = .slice ao LL.length cap := by
  obtain ⟨ao, cap, h, _⟩ := h
  exact ⟨ao, cap, h⟩

/-- the slice v holds the lists of LL, each in a block of its own with a number from lo to below hi -/
def OwWs (w : World) (lo hi : Nat) (v : Value) (LL : List (List Int)) : Prop :=
  LL.length ≤ 1000 ∧ ((v = .slice none 0 0 ∧ LL = []) ∨ ∃ (g cap : Nat) (cur : Array Value) (p : Nat → Nat), v = .slice (some ⟨g, 0, none⟩) LL.length cap ∧ LL.length ≤ cap ∧ (lo ≤ g ∧ g < hi) ∧ w.heap[g]? = some (.cells cur 37 (0, 0)) ∧
    (∀ i j, i < j → j < LL.length → p i < p j) ∧ ∀ k L, LL[k]? = some L → (lo ≤ p k ∧ p k < hi ∧ p k ≠ g) ∧ ∃ s, cur[k]? = some s ∧ Own w (p k) (p k + 1) s L)
theorem OwWs.rd {w : World} {lo hi : Nat} {v : Value} {LL : List (List Int)} (h : OwWs w lo hi v LL) : RdWs w hi v LL := by
  obtain ⟨hn, ⟨rfl, rfl⟩ | ⟨g, cap, cur, p, rfl, hcp, hg, hc, _, hi⟩⟩ := h
  · exact RdWs.nil _ _
  · refine ⟨_, _, rfl, by omega, hcp, fun _ => ⟨g, 0, rfl, hg.2, fun k L hk => ?_⟩⟩
    obtain ⟨h1, s, h2, h3⟩ := hi k L hk
    exact ⟨s, by rw [Nat.zero_add, cell_of_row w g k cur _ _ hc]; exact h2, h3.rd.up (by omega)⟩
theorem OwWs.stay {w w' : World} {lo hi : Nat} {v : Value} {LL : List (List Int)} (h : OwWs w lo hi v LL) (hs : ∀ k, lo ≤ k → k < hi → k < w.heap.size → w'.heap[k]? = w.heap[k]?) : OwWs w' lo hi v LL := by
  obtain ⟨hn, h | ⟨g, cap, cur, p, rfl, hcp, hg, hc, hp, hi'⟩⟩ := h
  · exact ⟨hn, .inl h⟩
  · refine ⟨hn, .inr ⟨g, cap, cur, p, rfl, hcp, hg, by rw [hs g hg.1 hg.2 (Array.getElem?_eq_some_iff.1 hc).1]; exact hc, hp, fun k L hk => ?_⟩⟩
    obtain ⟨h1, s, h2, h3⟩ := hi' k L hk
    exact ⟨h1, s, h2, h3.stay fun j hj1 hj2 hj3 => hs j (by omega) (by omega) hj3⟩
theorem OwWs.below {w w' : World} {lo hi B : Nat} {v : Value} {LL : List (List Int)} (h : OwWs w lo hi v LL) (hb : Below B w w') (hB : hi ≤ B) : OwWs w' lo hi v LL :=
  h.stay fun k _ h2 _ => hb.block k (by omega)
theorem OwWs.kept {w w' : World} {lo hi : Nat} {v : Value} {LL : List (List Int)} (h : OwWs w lo hi v LL) (hb : Below w.heap.size w w') : OwWs w' lo hi v LL :=
  h.stay fun k _ _ h3 => hb.block k h3
theorem OwWs.wide {w : World} {lo lo' hi hi' : Nat} {v : Value} {LL : List (List Int)} (h : OwWs w lo hi v LL) (h1 : lo' ≤ lo) (h2 : hi ≤ hi') : OwWs w lo' hi' v LL := by
  obtain ⟨hn, h | ⟨g, cap, cur, p, rfl, hcp, hg, hc, hp, hi3⟩⟩ := h
  · exact ⟨hn, .inl h⟩
  · refine ⟨hn, .inr ⟨g, cap, cur, p, rfl, hcp, ⟨by omega, by omega⟩, hc, hp, fun k L hk => ?_⟩⟩
    obtain ⟨h4, r⟩ := hi3 k L hk
    exact ⟨⟨by omega, by omega, h4.2.2⟩, r⟩
theorem OwWs.turned {w w' : World} {lo hi lo' hi' : Nat} {v : Value} {LL : List (List Int)} (h : OwWs w lo hi v LL) (ht : Turned lo' hi' w w') (ho : hi ≤ lo' ∨ hi' ≤ lo) : OwWs w' lo hi v LL :=
  h.stay fun k h1 h2 h3 => ht.block k h3 (by omega)
theorem OwWs.shape {w : World} {lo hi : Nat} {v : Value} {LL : List (List Int)} (h : OwWs w lo hi v LL) : ∃ ao cap, v = .slice ao LL.length cap := h.rd.shape

/-- how many items the lists of LL have together -/
def tot (LL : List (List Int)) : Nat := (LL.map List.length).sum
theorem tot_take {LL : List (List Int)} {k : Nat} {L : List Int} (h : LL[k]? = some L) : tot (LL.take (k + 1)) = tot (LL.take k) + L.length := by
  have e : LL.take (k + 1) = LL.take k ++ [L] := by rw [List.take_add_one, h]; rfl
  rw [e]
  simp only [tot, List.map_append, List.sum_append, List.map_cons, List.map_nil, List.sum_cons, List.sum_nil, Nat.add_zero]
theorem tot_le (LL : List (List Int)) (k : Nat) : tot (LL.take k) ≤ tot LL := by
  have h : tot (LL.take k) + tot (LL.drop k) = tot LL := by
    unfold tot
    rw [← List.sum_append, ← List.map_append, List.take_append_drop]
  omega
/-- the marks of the lists of LL, from k0 on -/
def mks (k0 : Int) (LL : List (List Int)) : List (List Int) := (List.range LL.length).map fun k => mk (k0 + (tot (LL.take k) : Int)) ((LL[k]?.getD []).length)
theorem mks_len (k0 : Int) (LL : List (List Int)) : (mks k0 LL).length = LL.length := by simp [mks]
theorem mks_get {k0 : Int} {LL : List (List Int)} {k : Nat} {L : List Int} (h : LL[k]? = some L) : (mks k0 LL)[k]? = some (mk (k0 + (tot (LL.take k) : Int)) L.length) := by
  obtain ⟨hk, rfl⟩ := List.getElem?_eq_some_iff.1 h
  simp [mks, hk]
theorem Turned.more {lo hi q r : Nat} {w w1 w2 : World} (h : Turned lo hi w w1) (h2 : Turned q r w1 w2) (hq : lo ≤ q) (hr : r ≤ hi) : Turned lo hi w w2 :=
  ⟨h2.os.trans h.os, h2.tape.trans h.tape, h2.output.trans h.output, Nat.le_trans h.size h2.size, fun k hk ho => (h2.block k (Nat.lt_of_lt_of_le hk h.size) (by omega)).trans (h.block k hk ho)⟩
theorem Turned.drew {lo hi : Nat} {w w1 : World} (h : Turned lo hi w w1) : Turned lo hi w w1.drew := ⟨h.os, h.tape, h.output, h.size, h.block⟩
/-- one list among them: it may be turned alone -/
theorem OwWs.one {w : World} {lo hi k : Nat} {v : Value} {M : List (List Int)} {L : List Int} (h : OwWs w lo hi v M) (hk : M[k]? = some L) :
    ∃ g cap s q, v = .slice (some ⟨g, 0, none⟩) M.length cap ∧ M.length ≤ cap ∧ w.cell? ⟨g, k, none⟩ = some s ∧ Own w q (q + 1) s L ∧ lo ≤ q ∧ q < hi ∧ q ≠ g ∧
      ∀ w' L', Own w' q (q + 1) s L' → Turned q (q + 1) w w' → OwWs w' lo hi v (M.set k L') := by
  have hkl : k < M.length := (List.getElem?_eq_some_iff.1 hk).1
  obtain ⟨hn, ⟨_, rfl⟩ | ⟨g, cap, cur, p, rfl, hcp, hg, hc, hp, hi3⟩⟩ := h
  · simp at hkl
  · obtain ⟨⟨h1, h2, h3⟩, s, h4, h5⟩ := hi3 k L hk
    refine ⟨g, cap, s, p k, rfl, hcp, by rw [cell_of_row w g k cur _ _ hc]; exact h4, h5, h1, h2, h3, fun w' L' ho ht => ?_⟩
    refine ⟨by simpa using hn, .inr ⟨g, cap, cur, p, by simp, by simpa using hcp, hg, ?_, fun i j hij hj => hp i j hij (by simpa using hj), fun j Lj hj => ?_⟩⟩
    · rw [ht.block g (Array.getElem?_eq_some_iff.1 (by exact hc)).1 (by omega)]; exact hc
    · by_cases hjk : j = k
      · subst hjk
        rw [List.getElem?_set_self hkl] at hj
        obtain rfl : L' = Lj := by simpa using hj
        exact ⟨⟨h1, h2, h3⟩, s, h4, ho⟩
      · rw [List.getElem?_set_ne (fun e => hjk e.symm)] at hj
        obtain ⟨a1, sj, a2, a3⟩ := hi3 j Lj hj
        have hjl : j < M.length := (List.getElem?_eq_some_iff.1 hj).1
        refine ⟨a1, sj, a2, a3.turned ht ?_⟩
        rcases Nat.lt_or_gt_of_ne hjk with hl | hl
        · have := hp j k hl hkl; omega
        · have := hp k j hl hjl; omega

end Go.Proofs.Ytbbdhbamooaloab.wh
