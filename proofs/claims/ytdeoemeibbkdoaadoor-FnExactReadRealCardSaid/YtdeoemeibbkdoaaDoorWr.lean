/- Reals: the helpers of the exact laws over them. -/
import Derived.Test.YtdeoemeibbkdoaaDoorWw
namespace Go.Proofs.YtdeoemeibbkdoaaDoor.wh
open Go.RowKit

theorem szR_yes {v : Value} {L : List Int} {w : World} {l : Int} (h : Wh w v L) (hl : (L.length : Int) ≤ l) (hm : l ≤ 1048576) :
    Calls Tryd.prog 8 #[v, .int .i64 l] w fun e w' => e = .returned (.int .i64 (l - L.length)) ∧ Below w.heap.size w w' := by
  obtain ⟨s, rfl, h⟩ := h
  have HH : Hid (Ls w s L) := h
  clear h
  go_enter Tryd.func8, Tryd.ntmps8
  go_wp2_with fail
  refine (szI_yes (HH.out.below (new1 _ _)) hl hm).mono ?_
  rintro e w1 ⟨rfl, hw1⟩
  rw [hw1]
  clear hw1
  go_wp2_with fail
  go_ret
  exact ⟨rfl, new1 _ _⟩
theorem szR_no {v : Value} {L : List Int} {w : World} {l : Int} (h : Wh w v L) (hl : l < (L.length : Int)) (h0 : 0 ≤ l) (hm : l ≤ 1048576) :
    Calls Tryd.prog 8 #[v, .int .i64 l] w fun e w' => e = .returned (.int .i64 (-1)) ∧ Below w.heap.size w w' := by
  obtain ⟨s, rfl, h⟩ := h
  have HH : Hid (Ls w s L) := h
  clear h
  go_enter Tryd.func8, Tryd.ntmps8
  go_wp2_with fail
  refine (szI_no (HH.out.below (new1 _ _)) hl h0 hm).mono ?_
  rintro e w1 ⟨rfl, hw1⟩
  rw [hw1]
  clear hw1
  go_wp2_with fail
  go_ret
  exact ⟨rfl, new1 _ _⟩

theorem toR_any {v : Value} {L : List Int} {w : World} (h : Wh w v L) (hn : (L.length : Int) ≤ 1048576) :
    Calls Tryd.prog 10 #[v] w fun e w' => ∃ v', e = .returned v' ∧ OwW w' w.heap.size w'.heap.size v' L ∧ Below w.heap.size w w' := by
  obtain ⟨s, rfl, h⟩ := h
  have HH : Hid (Ls w s L) := h
  clear h
  go_enter Tryd.func10, Tryd.ntmps10
  go_wp2_with fail
  refine (to_any (HH.out.below (new3 _ _ _ _)) (by omega)).mono ?_
  rintro e w1 ⟨v1, rfl, o1, b1⟩
  obtain ⟨ao, cap, rfl⟩ := o1.shape
  have X1 : Bx w1 (w.heap.size + 1) (.slice none 0 0) := Bx.kept (Bx.alloc (by have := Bx.new (w.alloc (.cells #[s] 24)) (.slice none 0 0) 28; simpa using this) _) b1
  have X2 : Bx w1 (w.heap.size + 1 + 1) (.slice none 0 0) := Bx.kept (by have := Bx.new ((w.alloc (.cells #[s] 24)).alloc (.cells #[.slice none 0 0] 28)) (.slice none 0 0) 28; simpa using this) b1
  have c1 := X1.cell
  have c2 := X2.cell
  have f1 := X1.free
  have f2 := X2.free
  have Y2 := ((X1.other (show w.heap.size + 1 ≠ w.heap.size + 1 + 1 by omega) (j := 0) (.slice ao L.length cap)).set (.slice ao L.length cap)).cell
  have hle := b1.size
  simp only [World.size_alloc] at hle o1 b1
  have O1 : Hid (Own w1 (w.heap.size + 1 + 1 + 1) w1.heap.size (.slice ao L.length cap) L) := o1
  have B1 : Hid (Below w.heap.size w w1) := (new3 w _ _ _).trans (b1.mono (by omega))
  clear X1 X2 o1 b1
  have B2 : Hid (Below w.heap.size w ((w1.setCell ⟨w.heap.size + 1 + 1, 0, none⟩ (.slice ao L.length cap)).setCell ⟨w.heap.size + 1, 0, none⟩ (.slice ao L.length cap))) := (B1.out.setCell (by simp; omega) _).setCell (by simp) _
  go_wp2
  refine bodyPost_ret (v := .agg #[.slice ao L.length cap]) (by simp [results, Tryd.results10, Y2, go_sem]) rfl ?_
  refine ⟨_, rfl, ⟨_, rfl, ?_⟩, B2.out⟩
  refine Own.wide (Own.stay O1.out fun k h1 _ _ => ?_) (by omega) (by simp)
  rw [Below.heap_setCell _ _ _ _ (by simp; omega), Below.heap_setCell _ _ _ _ (by simp; omega)]

theorem eqR_any {v0 v1 : Value} {L : List Int} {w : World} (h0 : Wh w v0 L) (h1 : Wh w v1 L) :
    Calls Tryd.prog 12 #[v0, v1] w fun e w' => e = .returned (.bool true) ∧ Below w.heap.size w w' := by
  obtain ⟨s0, rfl, h0⟩ := h0
  obtain ⟨s1, rfl, h1⟩ := h1
  have H0 : Hid (Ls w s0 L) := h0
  have H1 : Hid (Ls w s1 L) := h1
  clear h0 h1
  go_enter Tryd.func12, Tryd.ntmps12
  go_wp2_with fail
  refine (eq_any (H0.out.below (new2 _ _ _)) (H1.out.below (new2 _ _ _))).mono ?_
  rintro e w1 ⟨rfl, hw1⟩
  have B1 : Hid (Below w.heap.size w w1) := (new2 w _ _).trans ((Go.Pst.below_draws hw1).mono (by simp; omega))
  clear hw1
  go_wp2_with fail
  go_ret
  exact ⟨rfl, B1.out⟩

theorem markR_any {lo hi : Nat} {v : Value} {L : List Int} {w : World} {k0 : Int} (h : OwW w lo hi v L) (hn : (L.length : Int) ≤ 1048576) (hk1 : 0 ≤ k0) (hk0 : k0 ≤ 16777216) :
    Calls Tryd.prog 15 #[v, .int .i64 k0] w fun e w' => e = .returned (.int .i64 (k0 + (L.length : Int))) ∧ OwW w' lo hi v (mk k0 L.length) ∧ Turned lo hi w w' := by
  obtain ⟨s, rfl, h⟩ := h
  have HH : Hid (Own w lo hi s L) := h
  clear h
  go_enter Tryd.func15, Tryd.ntmps15
  go_wp2_with fail
  refine (mark_any (HH.out.kept (new1 _ _)) (by omega) hk1 hk0).mono ?_
  rintro e w1 ⟨rfl, o1, t1⟩
  have O1 : Hid (Own w1 lo hi s (mk k0 L.length)) := o1
  have T1 : Hid (Turned lo hi w w1) := t1.pre (new1 _ _)
  clear o1 t1
  go_wp2_with fail
  go_ret
  exact ⟨rfl, ⟨_, rfl, O1.out⟩, T1.out⟩

theorem heldR_any {v : Value} {n : Nat} {w : World} {k0 : Int} (h : Wh w v (mk k0 n)) (hn : (n : Int) ≤ 1048576) (hk1 : 0 ≤ k0) (hk0 : k0 ≤ 16777216) :
    Calls Tryd.prog 16 #[v, .int .i64 k0] w fun e w' => e = .returned (.int .i64 (k0 + (n : Int))) ∧ Below w.heap.size w w' := by
  obtain ⟨s, rfl, h⟩ := h
  have HH : Hid (Ls w s (mk k0 n)) := h
  clear h
  go_enter Tryd.func16, Tryd.ntmps16
  go_wp2_with fail
  refine (held_any (HH.out.below (new1 _ _)) (by omega) hk1 hk0).mono ?_
  rintro e w1 ⟨rfl, hw1⟩
  rw [hw1]
  clear hw1
  go_wp2_with fail
  go_ret
  exact ⟨rfl, new1 _ _⟩
end Go.Proofs.YtdeoemeibbkdoaaDoor.wh
