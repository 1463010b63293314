/- Lists of wholes: what they hold; the laws' comparisons and marks over them. -/
import Derived.Test.YtbbdhbamooaloaaWw
import Derived.Deep.RegionHeld3
namespace Go.Proofs.Ytbbdhbamooaloaa.wh
open Go.RowKit

/-- the slice v holds the lists of LL, all in blocks below hi -/
def RdWs (w : World) (hi : Nat) (v : Value) (LL : List (List Int)) : Prop :=
  ∃ ao cap, v = .slice ao LL.length cap ∧ LL.length ≤ 9223372036854775807 ∧ LL.length ≤ cap ∧ (LL.length ≠ 0 → ∃ b off, ao = some ⟨b, off, none⟩ ∧ b < hi ∧ ∀ k L, LL[k]? = some L → ∃ s, w.cell? ⟨b, off + k, none⟩ = some s ∧ Rd w hi s L)
theorem RdWs.below {w w' : World} {hi B : Nat} {v : Value} {LL : List (List Int)} (h : RdWs w hi v LL) (hb : Below B w w') (hB : hi ≤ B) : RdWs w' hi v LL := by
  obtain ⟨ao, cap, rfl, hn, hcp, hc⟩ := h
  refine ⟨ao, cap, rfl, hn, hcp, fun h0 => ?_⟩
  obtain ⟨b, off, rfl, hlt, hcell⟩ := hc h0
  refine ⟨b, off, rfl, hlt, fun k L hk => ?_⟩
  obtain ⟨s, h1, h2⟩ := hcell k L hk
  exact ⟨s, (hb.cell (p := ⟨b, off + k, none⟩) (Nat.lt_of_lt_of_le hlt hB)).trans h1, h2.below hb hB⟩
theorem Rd.up {w : World} {hi hi' : Nat} {v : Value} {L : List Int} (h : Rd w hi v L) (hh : hi ≤ hi') : Rd w hi' v L := by
  obtain ⟨ao, cap, rfl, hn, hcp, hc⟩ := h
  refine ⟨ao, cap, rfl, hn, hcp, fun h0 => ?_⟩
  obtain ⟨b, off, rfl, hlt, hcell⟩ := hc h0
  exact ⟨b, off, rfl, Nat.lt_of_lt_of_le hlt hh, hcell⟩
theorem RdWs.up {w : World} {hi hi' : Nat} {v : Value} {LL : List (List Int)} (h : RdWs w hi v LL) (hh : hi ≤ hi') : RdWs w hi' v LL := by
  obtain ⟨ao, cap, rfl, hn, hcp, hc⟩ := h
  refine ⟨ao, cap, rfl, hn, hcp, fun h0 => ?_⟩
  obtain ⟨b, off, rfl, hlt, hcell⟩ := hc h0
  refine ⟨b, off, rfl, Nat.lt_of_lt_of_le hlt hh, fun k L hk => ?_⟩
  obtain ⟨s, h1, h2⟩ := hcell k L hk
  exact ⟨s, h1, h2.up hh⟩
theorem RdWs.nil (w : World) (hi : Nat) : RdWs w hi (.slice none 0 0) [] := ⟨none, 0, rfl, by simp, by simp, fun h => absurd rfl h⟩
theorem RdWs.shape {w : World} {hi : Nat} {v : Value} {LL : List (List Int)} (h : RdWs w hi v LL) : ∃ ao cap, v = .slice ao LL.length cap := by
  obtain ⟨ao, cap, h, _⟩ := h
  exact ⟨ao, cap, h⟩

/-- the slice v holds the lists of LL, each in a block of its own with a number from lo to below hi -/
def OwWs (w : World) (lo hi : Nat) (v : Value) (LL : List (List Int)) : Prop :=
  LL.length ≤ 1000 ∧ ((v = .slice none 0 0 ∧ LL = []) ∨ ∃ (g cap : Nat) (cur : Array Value) (p : Nat → Nat), v = .slice (some ⟨g, 0, none⟩) LL.length cap ∧ LL.length ≤ cap ∧ (lo ≤ g ∧ g < hi) ∧ w.heap[g]? = some (.cells cur 29 (0, 0)) ∧
    (∀ i j, i < j → j < LL.length → p i < p j) ∧ ∀ k L, LL[k]? = some L → (lo ≤ p k ∧ p k < hi ∧ p k ≠ g) ∧ ∃ s, cur[k]? = some s ∧ Own w (p k) (p k + 1) s L)
theorem OwWs.rd {w : World} {lo hi : Nat} {v : Value} {LL : List (List Int)} (h : OwWs w lo hi v LL) : RdWs w hi v LL := by
  obtain ⟨hn, ⟨rfl, rfl⟩ | ⟨g, cap, cur, p, rfl, hcp, hg, hc, _, hi⟩⟩ := h
  · exact RdWs.nil _ _
  · refine ⟨_, _, rfl, by omega, hcp, fun _ => ⟨g, 0, rfl, hg.2, fun k L hk => ?_⟩⟩
    obtain ⟨h1, s, h2, h3⟩ := hi k L hk
    exact ⟨s, by rw [Nat.zero_add, cell_of_row w g k cur _ _ hc]; exact h2, h3.rd.up (by omega)⟩
theorem OwWs.stay {w w' : World} {lo hi : Nat} {v : Value} {LL : List (List Int)} (h : OwWs w lo hi v LL) (hs : ∀ k, lo ≤ k → k < hi → k < w.heap.size → w'.heap[k]? = w.heap[k]?) : OwWs w' lo hi v LL := by
  obtain ⟨hn, h | ⟨g, cap, cur, p, rfl, hcp, hg, hc, hp, hi'⟩⟩ := h
  · exact ⟨hn, .inl h⟩
  · refine ⟨hn, .inr ⟨g, cap, cur, p, rfl, hcp, hg, by rw [hs g hg.1 hg.2 (Array.getElem?_eq_some_iff.1 hc).1]; exact hc, hp, fun k L hk => ?_⟩⟩
    obtain ⟨h1, s, h2, h3⟩ := hi' k L hk
    exact ⟨h1, s, h2, h3.stay fun j hj1 hj2 hj3 => hs j (by omega) (by omega) hj3⟩
theorem OwWs.below {w w' : World} {lo hi B : Nat} {v : Value} {LL : List (List Int)} (h : OwWs w lo hi v LL) (hb : Below B w w') (hB : hi ≤ B) : OwWs w' lo hi v LL :=
  h.stay fun k _ h2 _ => hb.block k (by omega)
theorem OwWs.kept {w w' : World} {lo hi : Nat} {v : Value} {LL : List (List Int)} (h : OwWs w lo hi v LL) (hb : Below w.heap.size w w') : OwWs w' lo hi v LL :=
  h.stay fun k _ _ h3 => hb.block k h3
theorem OwWs.wide {w : World} {lo lo' hi hi' : Nat} {v : Value} {LL : List (List Int)} (h : OwWs w lo hi v LL) (h1 : lo' ≤ lo) (h2 : hi ≤ hi') : OwWs w lo' hi' v LL := by
  obtain ⟨hn, h | ⟨g, cap, cur, p, rfl, hcp, hg, hc, hp, hi3⟩⟩ := h
  · exact ⟨hn, .inl h⟩
  · refine ⟨hn, .inr ⟨g, cap, cur, p, rfl, hcp, ⟨by omega, by omega⟩, hc, hp, fun k L hk => ?_⟩⟩
    obtain ⟨h4, r⟩ := hi3 k L hk
    exact ⟨⟨by omega, by omega, h4.2.2⟩, r⟩
theorem OwWs.turned {w w' : World} {lo hi lo' hi' : Nat} {v : Value} {LL : List (List Int)} (h : OwWs w lo hi v LL) (ht : Turned lo' hi' w w') (ho : hi ≤ lo' ∨ hi' ≤ lo) : OwWs w' lo hi v LL :=
  h.stay fun k h1 h2 h3 => ht.block k h3 (by omega)
theorem OwWs.shape {w : World} {lo hi : Nat} {v : Value} {LL : List (List Int)} (h : OwWs w lo hi v LL) : ∃ ao cap, v = .slice ao LL.length cap := h.rd.shape

set_option maxHeartbeats 800000 in
theorem eqWs_any {v0 v1 : Value} {LL : List (List Int)} {w : World} (h0 : RdWs w w.heap.size v0 LL) (h1 : RdWs w w.heap.size v1 LL) :
    Calls Try.prog 11 #[v0, v1] w fun e w' => e = .returned (.bool true) ∧ Below w.heap.size w w' := by
  have H0 : Hid (RdWs w w.heap.size v0 LL) := h0
  have H1 : Hid (RdWs w w.heap.size v1 LL) := h1
  obtain ⟨ao, cap, rfl⟩ := h0.shape
  obtain ⟨bo, cap1, rfl⟩ := h1.shape
  obtain ⟨n, hn⟩ : ∃ n, n = LL.length := ⟨_, rfl⟩
  have HN : Hid (n = LL.length) := hn
  have hn9 : n ≤ 9223372036854775807 := by obtain ⟨_, _, _, h, _⟩ := h0; rw [hn]; exact h
  have hcp0 : n ≤ cap := by obtain ⟨_, _, he, _, h, _⟩ := h0; simp only [Value.slice.injEq] at he; rw [hn, he.2.2]; exact h
  have hcp1 : n ≤ cap1 := by obtain ⟨_, _, he, _, h, _⟩ := h1; simp only [Value.slice.injEq] at he; rw [hn, he.2.2]; exact h
  rw [← hn] at H0 H1 ⊢
  clear h0 h1 hn
  go_enter Try.func11, Try.ntmps11
  go_wp2
  go_loopw [5] (fun i wr => ∃ (k : Nat), k ≤ n ∧ i = .int .i64 k ∧ Hid (Below w.heap.size w wr)) (fun i _ => n - (intOf i).toNat)
  case atStart => exact ⟨0, by omega, rfl, Below.refl _ _⟩
  case round =>
    obtain ⟨k, hk, rfl, hb⟩ := hrel
    by_cases hlt : k < n
    · obtain ⟨L, hL⟩ : ∃ L, LL[k]? = some L := ⟨LL[k]'(by have := HN.out; omega), List.getElem?_eq_getElem _⟩
      obtain ⟨_, _, he0, _, _, hc0⟩ := H0.out
      obtain ⟨_, _, he1, _, _, hc1⟩ := H1.out
      simp only [Value.slice.injEq] at he0 he1
      obtain ⟨b0, f0, q0, hl0, k0⟩ := hc0 (by have := HN.out; omega)
      obtain ⟨b1, f1, q1, hl1, k1⟩ := hc1 (by have := HN.out; omega)
      obtain ⟨s0, e0, r0⟩ := k0 k L hL
      obtain ⟨s1, e1, r1⟩ := k1 k L hL
      obtain rfl : ao = some ⟨b0, f0, none⟩ := he0.1.trans q0
      obtain rfl : bo = some ⟨b1, f1, none⟩ := he1.1.trans q1
      have R0 : Hid (Ls wr.drew s0 L) := (r0.below hb.out.drew (Nat.le_refl _)).ls hb.out.size
      have R1 : Hid (Ls wr.drew s1 L) := (r1.below hb.out.drew (Nat.le_refl _)).ls hb.out.size
      have bd : Hid (Below w.heap.size w wr.drew) := hb.out.drew
      have E0 : Hid (∀ w', Below w.heap.size w w' → w'.cell? ⟨b0, f0 + k, none⟩ = some s0) := fun w' h => (h.cell (p := ⟨b0, f0 + k, none⟩) hl0).trans e0
      have E1 : Hid (∀ w', Below w.heap.size w w' → w'.cell? ⟨b1, f1 + k, none⟩ = some s1) := fun w' h => (h.cell (p := ⟨b1, f1 + k, none⟩) hl1).trans e1
      clear hc0 hc1 k0 k1 r0 r1 he0 he1 q0 q1 hl0 hl1 hL e0 e1
      go_wp2_with fail
      go_region_held3 (fun w' => w'.cell? ⟨b0, f0 + k, none⟩ = some s0 ∧ w'.cell? ⟨b1, f1 + k, none⟩ = some s1 ∧ Hid (Below w.heap.size w w'))
        (first | exact ⟨E0.out _ by2.out, E1.out _ by2.out, by2⟩ | exact ⟨E0.out _ bd.out, E1.out _ bd.out, bd⟩)
        (first
          | (go_at_call 12; refine (eqW_any (L := L) ⟨_, rfl, R0.out⟩ ⟨_, rfl, R1.out⟩).mono ?_; rintro e w2 ⟨rfl, b⟩; have by2 : Hid (Below w.heap.size w w2) := bd.out.trans (b.mono bd.out.size); clear b))
      go_wp2
      go_roundw
      case rel => exact ⟨k + 1, by omega, by go_num, by2⟩
      case measure => simp [intOf]; omega
    · obtain rfl : k = n := by omega
      go_wp2
      go_ret
      exact ⟨rfl, hb.out⟩

/-- how many items the lists of LL have together -/
def tot (LL : List (List Int)) : Nat := (LL.map List.length).sum
theorem tot_take {LL : List (List Int)} {k : Nat} {L : List Int} (h : LL[k]? = some L) : tot (LL.take (k + 1)) = tot (LL.take k) + L.length := by
  have e : LL.take (k + 1) = LL.take k ++ [L] := by rw [List.take_add_one, h]; rfl
  rw [e]
  simp only [tot, List.map_append, List.sum_append, List.map_cons, List.map_nil, List.sum_cons, List.sum_nil, Nat.add_zero]
theorem tot_le (LL : List (List Int)) (k : Nat) : tot (LL.take k) ≤ tot LL := by
  have h : tot (LL.take k) + tot (LL.drop k) = tot LL := by
    unfold tot
    rw [← List.sum_append, ← List.map_append, List.take_append_drop]
  omega
/-- the marks of the lists of LL, from k0 on -/
def mks (k0 : Int) (LL : List (List Int)) : List (List Int) := (List.range LL.length).map fun k => mk (k0 + (tot (LL.take k) : Int)) ((LL[k]?.getD []).length)
theorem mks_len (k0 : Int) (LL : List (List Int)) : (mks k0 LL).length = LL.length := by simp [mks]
theorem mks_get {k0 : Int} {LL : List (List Int)} {k : Nat} {L : List Int} (h : LL[k]? = some L) : (mks k0 LL)[k]? = some (mk (k0 + (tot (LL.take k) : Int)) L.length) := by
  obtain ⟨hk, rfl⟩ := List.getElem?_eq_some_iff.1 h
  simp [mks, hk]
theorem Turned.more {lo hi q r : Nat} {w w1 w2 : World} (h : Turned lo hi w w1) (h2 : Turned q r w1 w2) (hq : lo ≤ q) (hr : r ≤ hi) : Turned lo hi w w2 :=
  ⟨h2.os.trans h.os, h2.tape.trans h.tape, h2.output.trans h.output, Nat.le_trans h.size h2.size, fun k hk ho => (h2.block k (Nat.lt_of_lt_of_le hk h.size) (by omega)).trans (h.block k hk ho)⟩
theorem Turned.drew {lo hi : Nat} {w w1 : World} (h : Turned lo hi w w1) : Turned lo hi w w1.drew := ⟨h.os, h.tape, h.output, h.size, h.block⟩
/-- one list among them: it may be turned alone -/
theorem OwWs.one {w : World} {lo hi k : Nat} {v : Value} {M : List (List Int)} {L : List Int} (h : OwWs w lo hi v M) (hk : M[k]? = some L) :
    ∃ g cap s q, v = .slice (some ⟨g, 0, none⟩) M.length cap ∧ M.length ≤ cap ∧ w.cell? ⟨g, k, none⟩ = some s ∧ Own w q (q + 1) s L ∧ lo ≤ q ∧ q < hi ∧ q ≠ g ∧
      ∀ w' L', Own w' q (q + 1) s L' → Turned q (q + 1) w w' → OwWs w' lo hi v (M.set k L') := by
  have hkl : k < M.length := (List.getElem?_eq_some_iff.1 hk).1
  obtain ⟨hn, ⟨_, rfl⟩ | ⟨g, cap, cur, p, rfl, hcp, hg, hc, hp, hi3⟩⟩ := h
  · simp at hkl
  · obtain ⟨⟨h1, h2, h3⟩, s, h4, h5⟩ := hi3 k L hk
    refine ⟨g, cap, s, p k, rfl, hcp, by rw [cell_of_row w g k cur _ _ hc]; exact h4, h5, h1, h2, h3, fun w' L' ho ht => ?_⟩
    refine ⟨by simpa using hn, .inr ⟨g, cap, cur, p, by simp, by simpa using hcp, hg, ?_, fun i j hij hj => hp i j hij (by simpa using hj), fun j Lj hj => ?_⟩⟩
    · rw [ht.block g (Array.getElem?_eq_some_iff.1 (by exact hc)).1 (by omega)]; exact hc
    · by_cases hjk : j = k
      · subst hjk
        rw [List.getElem?_set_self hkl] at hj
        obtain rfl : L' = Lj := by simpa using hj
        exact ⟨⟨h1, h2, h3⟩, s, h4, ho⟩
      · rw [List.getElem?_set_ne (fun e => hjk e.symm)] at hj
        obtain ⟨a1, sj, a2, a3⟩ := hi3 j Lj hj
        have hjl : j < M.length := (List.getElem?_eq_some_iff.1 hj).1
        refine ⟨a1, sj, a2, a3.turned ht ?_⟩
        rcases Nat.lt_or_gt_of_ne hjk with hl | hl
        · have := hp j k hl hkl; omega
        · have := hp k j hl hjl; omega

set_option maxHeartbeats 800000 in
theorem markWs_any {lo hi : Nat} {v : Value} {LL : List (List Int)} {w : World} {k0 : Int} (h : OwWs w lo hi v LL) (hn : tot LL ≤ 1048576) (hk1 : 0 ≤ k0) (hk0 : k0 ≤ 8388608) :
    Calls Try.prog 14 #[v, .int .i64 k0] w fun e w' => e = .returned (.int .i64 (k0 + (tot LL : Int))) ∧ OwWs w' lo hi v (mks k0 LL) ∧ Turned lo hi w w' := by
  have H0 : Hid (OwWs w lo hi v LL) := h
  obtain ⟨n, hnn⟩ : ∃ n, n = LL.length := ⟨_, rfl⟩
  have HN : Hid (n = LL.length) := hnn
  have hn1 : n ≤ 1000 := by rw [hnn]; exact h.1
  have hcp : ∃ ao cap, v = .slice ao n cap ∧ n ≤ cap := by obtain ⟨ao, cap, he, _, hc, _⟩ := h.rd; exact ⟨ao, cap, by rw [hnn]; exact he, by omega⟩
  obtain ⟨ao, cap, rfl, hcp⟩ := hcp
  have HT : Hid (tot LL ≤ 1048576) := hn
  clear h hnn hn
  go_enter Try.func14, Try.ntmps14
  go_wp2
  go_loopw [1, 5] (fun q i wr => ∃ (k : Nat) (z : Nat) (M : List (List Int)), k ≤ n ∧ i = .int .i64 k ∧ q = .int .i64 (k0 + (z : Int)) ∧ Hid (z = tot (LL.take k)) ∧ Hid (OwWs wr lo hi (.slice ao n cap) M) ∧ Hid (Turned lo hi w wr) ∧ Hid (M.length = n ∧ (∀ j, j < k → M[j]? = (mks k0 LL)[j]?) ∧ ∀ j, k ≤ j → M[j]? = LL[j]?)) (fun _ i _ => n - (intOf i).toNat)
  case atStart => exact ⟨0, 0, LL, by omega, rfl, by simp, (by simp [tot] : (0 : Nat) = tot (LL.take 0)), H0, Turned.refl _ _ _, ⟨HN.out.symm, fun j h => absurd h (by omega), fun _ _ => rfl⟩⟩
  case round =>
    obtain ⟨k, z, M, hk, rfl, rfl, hz, hM, hT, hp⟩ := hrel
    have hz9 : z ≤ 1048576 := by have := tot_le LL k; have := HT.out; have := hz.out; omega
    by_cases hlt : k < n
    · obtain ⟨L, hL⟩ : ∃ L, LL[k]? = some L := ⟨LL[k]'(by have := HN.out; omega), List.getElem?_eq_getElem _⟩
      have hML : M[k]? = some L := (hp.out.2.2 k (Nat.le_refl _)).trans hL
      obtain ⟨g, cap2, s, q, he, _, hc, ho, hq1, hq2, hqg, hall⟩ := hM.out.one hML
      simp only [Value.slice.injEq] at he
      obtain ⟨rfl, -, -⟩ := he
      have hlen : L.length ≤ 1048576 := by have := tot_take hL; have := tot_le LL (k + 1); have := HT.out; omega
      have OO : Hid (Own wr q (q + 1) s L) := ho
      have HA : Hid (∀ w' L', Own w' q (q + 1) s L' → Turned q (q + 1) wr w' → OwWs w' lo hi (.slice (some ⟨g, 0, none⟩) n cap) (M.set k L')) := hall
      have HQ : Hid (lo ≤ q ∧ q + 1 ≤ hi) := ⟨hq1, by omega⟩
      have HLs : Hid (LL[k]? = some L) := hL
      have hc0 : wr.cell? ⟨g, 0 + k, none⟩ = some s := by rw [Nat.zero_add]; exact hc
      have hc1 : wr.drew.cell? ⟨g, k, none⟩ = some s := hc
      clear hL hML hall ho hq1 hq2 hqg
      go_wp2_with fail
      refine (mark_any OO.out hlen (by omega) (by omega)).mono ?_
      rintro e w2 ⟨rfl, o2, t2⟩
      have HW : Hid (OwWs w2 lo hi (.slice (some ⟨g, 0, none⟩) n cap) (M.set k (mk (k0 + (z : Int)) L.length))) := HA.out _ _ o2 t2
      have TW : Hid (Turned lo hi w w2) := hT.out.more t2 HQ.out.1 HQ.out.2
      clear o2 t2 hM hT HA OO
      go_wp2_with fail
      go_roundw
      case rel =>
        have hl9 := HLs.out
        refine ⟨k + 1, z + L.length, M.set k (mk (k0 + (z : Int)) L.length), by omega, by go_num, by go_num, ?_, HW, TW, ?_, ?_, ?_⟩
        · show z + L.length = _
          rw [tot_take hl9, ← hz.out]
        · rw [List.length_set]; exact hp.out.1
        · intro j hj
          by_cases hjk : j = k
          · subst hjk
            rw [List.getElem?_set_self (by rw [hp.out.1]; exact hlt), mks_get hl9, ← hz.out]
          · rw [List.getElem?_set_ne (fun e => hjk e.symm)]
            exact hp.out.2.1 j (by omega)
        · intro j hj
          rw [List.getElem?_set_ne (by omega)]
          exact hp.out.2.2 j (by omega)
      case measure => simp [intOf]; omega
    · obtain rfl : k = n := by omega
      have e : M = mks k0 LL := by
        refine List.ext_getElem? fun j => ?_
        by_cases hj : j < k
        · exact hp.out.2.1 j hj
        · have h1 := hp.out.1
          have h2 := mks_len k0 LL
          have h3 := HN.out
          rw [List.getElem?_eq_none (by omega), List.getElem?_eq_none (by omega)]
      have ez : z = tot LL := by
        rw [hz.out, HN.out, List.take_length]
      subst e ez
      go_wp2
      go_ret
      exact ⟨rfl, hM.out, hT.out⟩

set_option maxHeartbeats 800000 in
theorem heldWs_any {v : Value} {LL : List (List Int)} {w : World} {k0 : Int} (h : RdWs w w.heap.size v (mks k0 LL)) (hn : tot LL ≤ 1048576) (hk1 : 0 ≤ k0) (hk0 : k0 ≤ 8388608) :
    Calls Try.prog 15 #[v, .int .i64 k0] w fun e w' => e = .returned (.int .i64 (k0 + (tot LL : Int))) ∧ Below w.heap.size w w' := by
  have H0 : Hid (RdWs w w.heap.size v (mks k0 LL)) := h
  obtain ⟨n, hnn⟩ : ∃ n, n = LL.length := ⟨_, rfl⟩
  have HN : Hid (n = LL.length) := hnn
  obtain ⟨ao, cap, rfl, hn9, hcp, _⟩ := h
  rw [mks_len, ← hnn] at hn9 hcp H0 ⊢
  have HT : Hid (tot LL ≤ 1048576) := hn
  clear hnn hn
  go_enter Try.func15, Try.ntmps15
  go_wp2
  go_loopw [1, 5] (fun q i wr => ∃ (k : Nat) (z : Nat), k ≤ n ∧ i = .int .i64 k ∧ q = .int .i64 (k0 + (z : Int)) ∧ Hid (z = tot (LL.take k)) ∧ wr = w) (fun _ i _ => n - (intOf i).toNat)
  case atStart => exact ⟨0, 0, by omega, rfl, by simp, (by simp [tot] : (0 : Nat) = tot (LL.take 0)), rfl⟩
  case round =>
    obtain ⟨k, z, hk, rfl, rfl, hz, rfl⟩ := hrel
    have hz9 : z ≤ 1048576 := by have := tot_le LL k; have := HT.out; have := hz.out; omega
    by_cases hlt : k < n
    · obtain ⟨L, hL⟩ : ∃ L, LL[k]? = some L := ⟨LL[k]'(by have := HN.out; omega), List.getElem?_eq_getElem _⟩
      obtain ⟨_, _, he, _, _, hc⟩ := H0.out
      simp only [Value.slice.injEq] at he
      obtain ⟨b, f, q, hlb, kk⟩ := hc (by rw [mks_len]; have := HN.out; omega)
      obtain ⟨s, e0, r0⟩ := kk k _ (mks_get hL)
      obtain rfl : ao = some ⟨b, f, none⟩ := he.1.trans q
      have hlen : L.length ≤ 1048576 := by have := tot_take hL; have := tot_le LL (k + 1); have := HT.out; omega
      have R0 : Hid (Ls wr s (mk (k0 + (z : Int)) L.length)) := by rw [hz.out]; exact r0.ls (Nat.le_refl _)
      have HLs : Hid (LL[k]? = some L) := hL
      clear hc kk he q hlb hL r0
      go_wp2_with fail
      refine (held_any R0.out hlen (by omega) (by omega)).mono ?_
      rintro e w2 ⟨rfl, rfl⟩
      go_wp2_with fail
      go_roundw
      case rel =>
        have hl9 := HLs.out
        refine ⟨k + 1, z + L.length, by omega, by go_num, by go_num, ?_, by trivial⟩
        show z + L.length = _
        rw [tot_take hl9, ← hz.out]
      case measure => simp [intOf]; omega
    · obtain rfl : k = n := by omega
      have ez : z = tot LL := by
        rw [hz.out, HN.out, List.take_length]
      subst ez
      go_wp2
      go_ret
      exact ⟨rfl, Below.refl _ _⟩
end Go.Proofs.Ytbbdhbamooaloaa.wh
