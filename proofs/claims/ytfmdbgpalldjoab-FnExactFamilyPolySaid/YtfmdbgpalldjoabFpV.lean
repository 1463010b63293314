/- Polynomials in laws: comparisons and marks. -/
import Derived.Test.YtfmdbgpalldjoabFpR
import Derived.Test.YtfmdbgpalldjoabCxsW
namespace Go.Proofs.Ytfmdbgpalldjoab.cxs
open Go.RowKit Go.Fl Go.Proofs.Ytfmdbgpalldjoab.sameFloat

set_option maxRecDepth 100000 in
set_option maxHeartbeats 1600000 in
theorem mark2_any {B : Nat} {v : Value} {n : Nat} {xs : List Value} {w : World} (h : w.ownsRow B 63 1 v n xs) (hn : n ≤ 256) (hB : B ≤ w.heap.size) :
    Calls Try.prog 22 #[v, .int .i64 1] w fun e w' => e = .returned (.int .i64 ((n : Int) + 1)) ∧ Cxs w' v n (fun j => fi ((j : Int) + 1)) (fun _ => 1065353216) ∧ Below B w w' ∧ ∀ j, v.ownBlock ≠ some j → w'.heap[j]? = w.heap[j]? := by
  rcases id h.2 with ⟨rfl, rfl⟩ | ⟨g, cap, cur, rfl, hBg, hg, hr⟩
  · go_enter Try.func22, Try.ntmps22
    go_wp2
    go_loopw [1, 5] (fun k i wr => k = .int .i64 1 ∧ i = .int .i64 0 ∧ wr = w) (fun _ _ _ => 0)
    case atStart => exact ⟨rfl, rfl, rfl⟩
    case round =>
      obtain ⟨rfl, rfl, rfl⟩ := hrel
      go_wp2
      go_ret
      exact ⟨rfl, ⟨none, 0, rfl, by omega, fun h => absurd rfl h⟩, Below.refl _ _, fun _ _ => rfl⟩
  · have HBg : Hid (B ≤ g) := hBg
    have start : Hid (w.ownsRow B 63 1 (.slice (some ⟨g, 0, none⟩) n cap) n xs) := h
    clear hr hg h hBg
    go_enter Try.func22, Try.ntmps22
    go_wp2
    go_loopw [1, 5] (fun q i wr => ∃ (k : Nat) (ys : List Value), k ≤ n ∧ q = .int .i64 ((k : Int) + 1) ∧ i = .int .i64 k ∧ Hid (wr.ownsRow B 63 1 (.slice (some ⟨g, 0, none⟩) n cap) n ys) ∧ Hid (∀ j, j < k → ys[j]? = some (.complex .f32 (fi ((j : Int) + 1)) 1065353216)) ∧ Hid (Below B w wr) ∧ Hid (∀ j, j ≠ g → wr.heap[j]? = w.heap[j]?)) (fun _ i _ => n - (intOf i).toNat)
    case atStart => exact ⟨0, xs, by omega, rfl, rfl, start, fun j hj => by omega, Below.refl _ _, fun _ _ => rfl⟩
    case round =>
      obtain ⟨k, ys, hk, rfl, rfl, ho, hx, hb, hko⟩ := hrel
      by_cases hlt : k < n
      · have e2 : wr.cell? ⟨g, k, none⟩ = ys[k]? := ho.out.cellAt k (by omega)
        have hxl : ys.length = n := by have := ho.out.1; simpa using this
        obtain ⟨u, hu⟩ : ∃ u, ys[k]? = some u := ⟨ys[k]'(by omega), List.getElem?_eq_getElem (by omega)⟩
        rw [hu] at e2
        have e3 : wr.frozen? ⟨g, k, none⟩ = false := ho.out.frozenAt k
        have hst := store_cplx (b := fi ((k : Int) + 1)) (c := 1065353216) e2 e3
        have HO : Hid ((wr.setCell ⟨g, k, none⟩ (.complex .f32 (fi ((k : Int) + 1)) 1065353216)).ownsRow B 63 1 (.slice (some ⟨g, 0, none⟩) n cap) n (ys.set k (.complex .f32 (fi ((k : Int) + 1)) 1065353216))) := (ho.out.stored k (.complex .f32 (fi ((k : Int) + 1)) 1065353216)).1
        have HX : Hid (∀ j, j < k + 1 → (ys.set k (.complex .f32 (fi ((k : Int) + 1)) 1065353216))[j]? = some (.complex .f32 (fi ((j : Int) + 1)) 1065353216)) := by
          intro j hj
          by_cases hjk : j = k
          · subst hjk
            rw [List.getElem?_set_self (by omega)]
          · rw [List.getElem?_set_ne (by omega)]
            exact hx.out j (by omega)
        have HB : Hid (Below B w (wr.setCell ⟨g, k, none⟩ (.complex .f32 (fi ((k : Int) + 1)) 1065353216))) := hb.out.setCell (p := ⟨g, k, none⟩) HBg.out _
        have HK : Hid (∀ j, j ≠ g → (wr.setCell ⟨g, k, none⟩ (.complex .f32 (fi ((k : Int) + 1)) 1065353216)).heap[j]? = w.heap[j]?) := fun j hj => (Below.heap_setCell _ _ _ _ hj).trans (hko.out j hj)
        clear hu hb ho hx hxl start hko
        have hcv := conv_int ((k : Int) + 1)
        have hcn := conv_nar (k := k) (by omega)
        generalize fi ((k : Int) + 1) = z at *
        generalize fj ((k : Int) + 1) = y at *
        go_wp2
        go_roundw
        case rel => exact ⟨k + 1, _, by omega, by go_num, by go_num, HO, HX, HB, HK⟩
        case measure => simp [intOf]; omega
      · obtain rfl : k = n := by omega
        clear start
        go_wp2
        go_ret
        refine ⟨rfl, ⟨_, _, rfl, by omega, fun h0 => ⟨g, 0, rfl, own_lt ho.out, fun j hj => ?_⟩⟩, hb.out, fun j hj => hko.out j (fun e => hj (by rw [e]; rfl))⟩
        rw [Nat.zero_add, ho.out.cellAt j (by omega)]
        exact hx.out j hj

set_option maxRecDepth 100000 in
theorem eqP_any {a0 a1 : Option Addr} {N c0 c1 : Nat} {f g : Nat → Nat} {w : World} (h0 : Cxs w (.slice a0 N c0) N f g) (h1 : Cxs w (.slice a1 N c1) N f g) :
    Calls Try.prog 7 #[.agg #[.slice a0 N c0], .agg #[.slice a1 N c1]] w fun e w' => e = .returned (.bool true) ∧ Below w.heap.size w w' := by
  have HW : Hid (∀ W, Below w.heap.size w W → Calls Try.prog 21 #[.slice a0 N c0, .slice a1 N c1] W fun e w' => e = .returned (.bool true) ∧ ∃ m, w' = W.drewN m) := fun W hW => eq_any (h0.below hW) (h1.below hW)
  have B2 : Hid (Below w.heap.size w ((w.alloc (.cells #[.slice a0 N c0] 24)).alloc (.cells #[.slice a1 N c1] 24))) := ((Below.refl _ _).alloc (Nat.le_refl _) _).alloc (by simp) _
  clear h0 h1
  go_enter Try.func7, Try.ntmps7
  go_wp2_with fail
  refine (HW.out _ B2.out).mono ?_
  rintro e w1 ⟨rfl, m, hm⟩
  have HB : Hid (Below w.heap.size w w1) := by rw [hm]; exact Go.Pst.below_drewN B2.out m
  clear hm
  go_wp2_with fail
  go_ret
  exact ⟨rfl, HB.out⟩

set_option maxRecDepth 100000 in
theorem heldP_any {a0 : Option Addr} {N c0 : Nat} {w : World} (h0 : Cxs w (.slice a0 N c0) N (fun j => fi ((j : Int) + 1)) (fun _ => 1065353216)) (hn : N ≤ 256) :
    Calls Try.prog 9 #[.agg #[.slice a0 N c0], .int .i64 1] w fun e w' => e = .returned (.int .i64 ((N : Int) + 1)) ∧ Below w.heap.size w w' := by
  have B2 : Hid (Below w.heap.size w (w.alloc (.cells #[.slice a0 N c0] 24))) := (Below.refl _ _).alloc (Nat.le_refl _) _
  have HW := held_any (h0.below B2.out) hn
  have HH : Hid (Calls Try.prog 23 #[.slice a0 N c0, .int .i64 1] (w.alloc (.cells #[.slice a0 N c0] 24)) fun e w' => e = .returned (.int .i64 ((N : Int) + 1)) ∧ w' = w.alloc (.cells #[.slice a0 N c0] 24)) := HW
  clear h0 HW
  go_enter Try.func9, Try.ntmps9
  go_wp2_with fail
  refine HH.out.mono ?_
  rintro e w1 ⟨rfl, hw1⟩
  rw [hw1]
  clear hw1 HH
  go_wp2_with fail
  go_ret
  exact ⟨rfl, B2.out⟩

set_option maxRecDepth 100000 in
theorem markP_any {B : Nat} {a0 : Option Addr} {N c0 : Nat} {xs : List Value} {w : World} (h : w.ownsRow B 63 1 (.slice a0 N c0) N xs) (hn : N ≤ 256) (hB : B ≤ w.heap.size) :
    Calls Try.prog 8 #[.agg #[.slice a0 N c0], .int .i64 1] w fun e w' => e = .returned (.int .i64 ((N : Int) + 1)) ∧ Cxs w' (.slice a0 N c0) N (fun j => fi ((j : Int) + 1)) (fun _ => 1065353216) ∧ Below B w w' ∧ ∀ j, j < w.heap.size → Value.ownBlock (.slice a0 N c0) ≠ some j → w'.heap[j]? = w.heap[j]? := by
  have B2 : Hid (Below w.heap.size w (w.alloc (.cells #[.slice a0 N c0] 24))) := (Below.refl _ _).alloc (Nat.le_refl _) _
  have HW := mark2_any (h.alloc (.cells #[.slice a0 N c0] 24)) hn (by simp; omega)
  have HH : Hid (Calls Try.prog 22 #[.slice a0 N c0, .int .i64 1] (w.alloc (.cells #[.slice a0 N c0] 24)) fun e w' => e = .returned (.int .i64 ((N : Int) + 1)) ∧ Cxs w' (.slice a0 N c0) N (fun j => fi ((j : Int) + 1)) (fun _ => 1065353216) ∧ Below B (w.alloc (.cells #[.slice a0 N c0] 24)) w' ∧ ∀ j, Value.ownBlock (.slice a0 N c0) ≠ some j → w'.heap[j]? = (w.alloc (.cells #[.slice a0 N c0] 24)).heap[j]?) := HW
  have HBB : Hid (B ≤ w.heap.size) := hB
  clear h HW hB
  go_enter Try.func8, Try.ntmps8
  go_wp2_with fail
  refine HH.out.mono ?_
  rintro e w1 ⟨rfl, hx, hb, hk⟩
  have HR : Hid (Cxs w1 (.slice a0 N c0) N (fun j => fi ((j : Int) + 1)) (fun _ => 1065353216) ∧ Below B w w1 ∧ ∀ j, j < w.heap.size → Value.ownBlock (.slice a0 N c0) ≠ some j → w1.heap[j]? = w.heap[j]?) := ⟨hx, (B2.out.mono HBB.out).trans hb, fun j hj hne => (hk j hne).trans (((Below.refl w.heap.size w).alloc (Nat.le_refl _) _).block j hj)⟩
  clear hx hb hk HH
  go_wp2_with fail
  go_ret
  exact ⟨rfl, HR.out⟩
end Go.Proofs.Ytfmdbgpalldjoab.cxs
