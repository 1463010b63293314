/- Sums of terms with weights: the program's half. -/
import Derived.Test.YtfhcfeafohcjpaaFnO
import Derived.Test.YtfhcfeafohcjpaaFnP
namespace Go.Proofs.Ytfhcfeafohcjpaa.wh
open Go.RowKit Go.Pl

theorem termAt_any {v : Value} {L : List Int} {w : World} (h : Ls w v L) (k : Nat) :
    Calls Try.prog 92 #[v, .int .i64 k] w fun e w' => e = .returned (.int .i64 (at' L k)) ∧ w' = w := by
  obtain ⟨ao, cap, rfl, hn, hcap, hc⟩ := h
  by_cases hk : k < L.length
  · obtain ⟨b, off, rfl, _, hcell⟩ := hc (by omega)
    have e1 := hcell k _ (at_some L k hk)
    clear hc hcell
    generalize at' L k = y at *
    generalize L.length = n at *
    go_enter Try.func92, Try.ntmps92
    go_wp2
    go_ret
    exact ⟨rfl, rfl⟩
  · have HZ : Hid (at' L k = 0) := at_out (by omega)
    clear hc
    generalize L.length = n at *
    go_enter Try.func92, Try.ntmps92
    go_wp2
    go_ret
    exact ⟨by rw [HZ.out]; rfl, rfl⟩

set_option maxRecDepth 100000 in
set_option maxHeartbeats 3200000 in
theorem weighed_any {va vb : Value} {A B : List Int} {w : World} (ha : Ls w va A) (hb : Ls w vb B) (hA : 1 ≤ A.length ∧ A.length ≤ 40) (hB : 1 ≤ B.length ∧ B.length ≤ 40) (x y : Int) (hX : ∀ k, -1000000000000 ≤ x * at' A k ∧ x * at' A k ≤ 1000000000000) (hY : ∀ k, -1000000000000 ≤ y * at' B k ∧ y * at' B k ≤ 1000000000000) :
    Calls Try.prog 67 #[va, vb, .int .i64 x, .int .i64 y] w fun e w' => ∃ v', e = .returned v' ∧ Own w' w.heap.size w'.heap.size v' (weigh A B x y) ∧ Below w.heap.size w w' := by
  obtain ⟨i0, hi, hz0, hz1, hz2⟩ := info_parts info_i
  obtain ⟨ao, cap, rfl⟩ := ha.shape
  obtain ⟨bo, cap1, rfl⟩ := hb.shape
  have LA : Hid (Ls w (.slice ao A.length cap) A) := ha
  have LB : Hid (Ls w (.slice bo B.length cap1) B) := hb
  have HX : Hid (∀ k, -1000000000000 ≤ x * at' A k ∧ x * at' A k ≤ 1000000000000) := hX
  have HY : Hid (∀ k, -1000000000000 ≤ y * at' B k ∧ y * at' B k ≤ 1000000000000) := hY
  clear ha hb hX hY
  obtain ⟨n, hnn⟩ : ∃ n, n = A.length := ⟨_, rfl⟩
  obtain ⟨m, hmm⟩ : ∃ m, m = B.length := ⟨_, rfl⟩
  rw [← hnn] at hA LA
  rw [← hmm] at hB LB
  simp only [← hnn, ← hmm]
  have HN : Hid (n = A.length) := hnn
  have HMm : Hid (m = B.length) := hmm
  obtain ⟨hA1, hA2⟩ := hA
  obtain ⟨hB1, hB2⟩ := hB
  clear hnn hmm
  obtain ⟨G, hG⟩ : ∃ G, G = w.heap.size := ⟨_, rfl⟩
  have HE : Hid (G = w.heap.size) := hG
  go_enter Try.func67, Try.ntmps67
  by_cases hmx : (n : Int) < (m : Int)
  · have hml : m ≤ maxLen := by unfold maxLen; omega
    go_wp2_with (first | (refine wpList_make_full _ rfl (.tmp 15) (.tmp 15) 22 rfl w.heap.size 2 i0 (.int .i64 0) 1 Try.underlying22 hi hz0 hz1 .i64 .i64 _ _ m rfl rfl rfl rfl (by rw [hz2]; omega) hml (Nat.le_refl _) ?_; intro w1 hown hgrow))
    rw [← hG] at hown
    rw [← hG]
    have hbel : Below G w w1 := (Below.refl G w).grown hgrow (by omega) (by intro k hk; cases hk)
    have start : Hid (w1.ownsRow G 2 1 (.slice (some ⟨G, 0, none⟩) m m) m _) := hown
    have startB : Hid (Below G w w1) := hbel
    clear hgrow hG hown hbel hi hz0 hz1 hz2
    go_loopw [19] (fun t wr => ∃ (k : Nat) (xs : List Value), k ≤ m ∧ t = .int .i64 k ∧ Hid (wr.ownsRow G 2 1 (.slice (some ⟨G, 0, none⟩) m m) m xs) ∧ Hid (∀ j, j < k → xs[j]? = some (.int .i64 (x * at' A j + y * at' B j))) ∧ Hid (Below G w wr)) (fun t _ => m - (intOf t).toNat)
    case atStart => exact ⟨0, _, by omega, rfl, start, fun j hj => by omega, startB⟩
    case round =>
      obtain ⟨k, xs, hk, rfl, ho, hx, hb⟩ := hrel
      clear start startB
      by_cases hlt : k < m
      · have e2 : wr.cell? ⟨G, k, none⟩ = xs[k]? := ho.out.cellAt k (by omega)
        have hxl : xs.length = m := by have := ho.out.1; simpa using this
        obtain ⟨u, hu⟩ : ∃ u, xs[k]? = some u := ⟨xs[k]'(by omega), List.getElem?_eq_getElem (by omega)⟩
        rw [hu] at e2
        have e3 : wr.frozen? ⟨G, k, none⟩ = false := ho.out.frozenAt k
        have h1 := HX.out k
        have h2 := HY.out k
        have HO : Hid ((wr.setCell ⟨G, k, none⟩ (.int .i64 (x * at' A k + y * at' B k))).ownsRow G 2 1 (.slice (some ⟨G, 0, none⟩) m m) m (xs.set k (.int .i64 (x * at' A k + y * at' B k)))) := (ho.out.stored k (.int .i64 (x * at' A k + y * at' B k))).1
        have HXs : Hid (∀ j, j < k + 1 → (xs.set k (.int .i64 (x * at' A k + y * at' B k)))[j]? = some (.int .i64 (x * at' A j + y * at' B j))) := by
          intro j hj
          by_cases hjk : j = k
          · subst hjk
            rw [List.getElem?_set_self (by omega)]
          · rw [List.getElem?_set_ne (by omega)]
            exact hx.out j (by omega)
        have HB : Hid (Below G w (wr.setCell ⟨G, k, none⟩ (.int .i64 (x * at' A k + y * at' B k)))) := hb.out.setCell (p := ⟨G, k, none⟩) (Nat.le_refl G) _
        have hA := termAt_any (LA.out.below (hb.out.mono (by have := HE.out; omega))) k
        have hB := termAt_any (LB.out.below (hb.out.mono (by have := HE.out; omega))) k
        have hst := store_int (b := x * at' A k + y * at' B k) e2 e3
        clear hu hb ho hx hxl
        generalize at' A k = a at *
        generalize at' B k = b at *
        have w1' : IntKind.i64.wrap (x * a) = x * a := IntWalk.i64_in _ (by omega)
        have w2' : IntKind.i64.wrap (y * b) = y * b := IntWalk.i64_in _ (by omega)
        have w3' : IntKind.i64.wrap (x * a + y * b) = x * a + y * b := IntWalk.i64_in _ (by omega)
        have w4' : wrap64 (x * a) = x * a := IntWalk.wrap64_in _ (by omega)
        have w5' : wrap64 (y * b) = y * b := IntWalk.wrap64_in _ (by omega)
        have w6' : wrap64 (x * a + y * b) = x * a + y * b := IntWalk.wrap64_in _ (by omega)
        clear h1 h2
        go_wp2_with fail
        refine hA.mono ?_
        rintro e w2 ⟨rfl, hw2⟩
        rw [hw2]
        clear hw2 hA
        go_wp2_with fail
        refine hB.mono ?_
        rintro e w2 ⟨rfl, hw2⟩
        rw [hw2]
        clear hw2 hB
        go_wp2_with fail
        go_roundw
        case rel => exact ⟨k + 1, _, by omega, by go_num, HO, HXs, HB⟩
        case measure => simp [intOf]; omega
      · obtain rfl : m = k := by omega
        have HO : Hid (Own wr w.heap.size wr.heap.size (.slice (some ⟨G, 0, none⟩) m m) (weigh A B x y)) := by
          have hl : (weigh A B x y).length = m := by rw [weigh_len, ← HN.out, ← HMm.out]; omega
          have hxs : xs = (weigh A B x y).map (Value.int .i64) := by
            apply List.ext_getElem?
            intro j
            have hxl : xs.length = m := by have := ho.out.1; simpa using this
            by_cases hj : j < m
            · rw [hx.out j hj, List.getElem?_map, weigh_get A B x y (by rw [← HN.out, ← HMm.out]; omega)]; rfl
            · rw [List.getElem?_eq_none (by omega), List.getElem?_eq_none (by simp; omega)]
          have ho' := ho.out
          rw [hxs] at ho'
          have h2 : wr.ownsRow w.heap.size 2 1 (.slice (some ⟨G, 0, none⟩) m m) (weigh A B x y).length ((weigh A B x y).map (Value.int .i64)) := by rw [hl, ← HE.out]; exact ho'
          have := Own.of_row (hi := wr.heap.size) h2 (by omega) (Nat.le_refl _)
          exact this
        have HB : Hid (Below w.heap.size w wr) := by have := hb.out; rw [HE.out] at this; exact this
        clear ho hx hb
        go_wp2_with fail
        go_ret
        exact ⟨_, rfl, HO.out, HB.out⟩
  · have hml : n ≤ maxLen := by unfold maxLen; omega
    go_wp2_with (first | (refine wpList_make_full _ rfl (.tmp 15) (.tmp 15) 22 rfl w.heap.size 2 i0 (.int .i64 0) 1 Try.underlying22 hi hz0 hz1 .i64 .i64 _ _ n rfl rfl rfl rfl (by rw [hz2]; omega) hml (Nat.le_refl _) ?_; intro w1 hown hgrow))
    rw [← hG] at hown
    rw [← hG]
    have hbel : Below G w w1 := (Below.refl G w).grown hgrow (by omega) (by intro k hk; cases hk)
    have start : Hid (w1.ownsRow G 2 1 (.slice (some ⟨G, 0, none⟩) n n) n _) := hown
    have startB : Hid (Below G w w1) := hbel
    clear hgrow hG hown hbel hi hz0 hz1 hz2
    go_loopw [19] (fun t wr => ∃ (k : Nat) (xs : List Value), k ≤ n ∧ t = .int .i64 k ∧ Hid (wr.ownsRow G 2 1 (.slice (some ⟨G, 0, none⟩) n n) n xs) ∧ Hid (∀ j, j < k → xs[j]? = some (.int .i64 (x * at' A j + y * at' B j))) ∧ Hid (Below G w wr)) (fun t _ => n - (intOf t).toNat)
    case atStart => exact ⟨0, _, by omega, rfl, start, fun j hj => by omega, startB⟩
    case round =>
      obtain ⟨k, xs, hk, rfl, ho, hx, hb⟩ := hrel
      clear start startB
      by_cases hlt : k < n
      · have e2 : wr.cell? ⟨G, k, none⟩ = xs[k]? := ho.out.cellAt k (by omega)
        have hxl : xs.length = n := by have := ho.out.1; simpa using this
        obtain ⟨u, hu⟩ : ∃ u, xs[k]? = some u := ⟨xs[k]'(by omega), List.getElem?_eq_getElem (by omega)⟩
        rw [hu] at e2
        have e3 : wr.frozen? ⟨G, k, none⟩ = false := ho.out.frozenAt k
        have h1 := HX.out k
        have h2 := HY.out k
        have HO : Hid ((wr.setCell ⟨G, k, none⟩ (.int .i64 (x * at' A k + y * at' B k))).ownsRow G 2 1 (.slice (some ⟨G, 0, none⟩) n n) n (xs.set k (.int .i64 (x * at' A k + y * at' B k)))) := (ho.out.stored k (.int .i64 (x * at' A k + y * at' B k))).1
        have HXs : Hid (∀ j, j < k + 1 → (xs.set k (.int .i64 (x * at' A k + y * at' B k)))[j]? = some (.int .i64 (x * at' A j + y * at' B j))) := by
          intro j hj
          by_cases hjk : j = k
          · subst hjk
            rw [List.getElem?_set_self (by omega)]
          · rw [List.getElem?_set_ne (by omega)]
            exact hx.out j (by omega)
        have HB : Hid (Below G w (wr.setCell ⟨G, k, none⟩ (.int .i64 (x * at' A k + y * at' B k)))) := hb.out.setCell (p := ⟨G, k, none⟩) (Nat.le_refl G) _
        have hA := termAt_any (LA.out.below (hb.out.mono (by have := HE.out; omega))) k
        have hB := termAt_any (LB.out.below (hb.out.mono (by have := HE.out; omega))) k
        have hst := store_int (b := x * at' A k + y * at' B k) e2 e3
        clear hu hb ho hx hxl
        generalize at' A k = a at *
        generalize at' B k = b at *
        have w1' : IntKind.i64.wrap (x * a) = x * a := IntWalk.i64_in _ (by omega)
        have w2' : IntKind.i64.wrap (y * b) = y * b := IntWalk.i64_in _ (by omega)
        have w3' : IntKind.i64.wrap (x * a + y * b) = x * a + y * b := IntWalk.i64_in _ (by omega)
        have w4' : wrap64 (x * a) = x * a := IntWalk.wrap64_in _ (by omega)
        have w5' : wrap64 (y * b) = y * b := IntWalk.wrap64_in _ (by omega)
        have w6' : wrap64 (x * a + y * b) = x * a + y * b := IntWalk.wrap64_in _ (by omega)
        clear h1 h2
        go_wp2_with fail
        refine hA.mono ?_
        rintro e w2 ⟨rfl, hw2⟩
        rw [hw2]
        clear hw2 hA
        go_wp2_with fail
        refine hB.mono ?_
        rintro e w2 ⟨rfl, hw2⟩
        rw [hw2]
        clear hw2 hB
        go_wp2_with fail
        go_roundw
        case rel => exact ⟨k + 1, _, by omega, by go_num, HO, HXs, HB⟩
        case measure => simp [intOf]; omega
      · obtain rfl : n = k := by omega
        have HO : Hid (Own wr w.heap.size wr.heap.size (.slice (some ⟨G, 0, none⟩) n n) (weigh A B x y)) := by
          have hl : (weigh A B x y).length = n := by rw [weigh_len, ← HN.out, ← HMm.out]; omega
          have hxs : xs = (weigh A B x y).map (Value.int .i64) := by
            apply List.ext_getElem?
            intro j
            have hxl : xs.length = n := by have := ho.out.1; simpa using this
            by_cases hj : j < n
            · rw [hx.out j hj, List.getElem?_map, weigh_get A B x y (by rw [← HN.out, ← HMm.out]; omega)]; rfl
            · rw [List.getElem?_eq_none (by omega), List.getElem?_eq_none (by simp; omega)]
          have ho' := ho.out
          rw [hxs] at ho'
          have h2 : wr.ownsRow w.heap.size 2 1 (.slice (some ⟨G, 0, none⟩) n n) (weigh A B x y).length ((weigh A B x y).map (Value.int .i64)) := by rw [hl, ← HE.out]; exact ho'
          have := Own.of_row (hi := wr.heap.size) h2 (by omega) (Nat.le_refl _)
          exact this
        have HB : Hid (Below w.heap.size w wr) := by have := hb.out; rw [HE.out] at this; exact this
        clear ho hx hb
        go_wp2_with fail
        go_ret
        exact ⟨_, rfl, HO.out, HB.out⟩
end Go.Proofs.Ytfhcfeafohcjpaa.wh
