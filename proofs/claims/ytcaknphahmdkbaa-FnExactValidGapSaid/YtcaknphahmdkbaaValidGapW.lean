/- The law FnExactValidGap: its walk. -/
import Derived.Test.YtcaknphahmdkbaaGpF
namespace Go.Proofs.Ytcaknphahmdkbaa.fnExactValidGapW
open Go.RowKit Go.Proofs.Ytcaknphahmdkbaa.wh Go.Proofs.Ytcaknphahmdkbaa.gp
theorem walk (a b c : Int) (w : World) : Calls Try.prog 8 #[.agg #[.int .i64 a, .int .i64 b, .int .i64 c]] w fun e w' => e = .returned (.bool true) ∧ Below w.heap.size w w' := by
  obtain ⟨w0, hw⟩ : ∃ x, x = w.alloc (.cells #[.int .i64 a, .int .i64 b, .int .i64 c] 38) := ⟨_, rfl⟩
  have h0 : Hid (w0.heap[w.heap.size]? = some (.cells #[.int .i64 a, .int .i64 b, .int .i64 c] 38 (0, 0))) := by rw [hw]; exact heap_alloc_new w _
  have B0 : Hid (Below w.heap.size w w0) := by rw [hw]; exact new1 _ _
  have key : ∀ W : World, Below w0.heap.size w0 W → W.cell? ⟨w.heap.size, 0, none⟩ = some (.int .i64 a) ∧ W.cell? ⟨w.heap.size, 1, none⟩ = some (.int .i64 b) ∧ W.cell? ⟨w.heap.size, 2, none⟩ = some (.int .i64 c) := fun W hb => by
    have h1 := (hb.block w.heap.size (Array.getElem?_eq_some_iff.1 h0.out).1).trans h0.out
    exact ⟨by rw [cell_of_row _ _ 0 _ _ _ h1]; rfl, by rw [cell_of_row _ _ 1 _ _ _ h1]; rfl, by rw [cell_of_row _ _ 2 _ _ _ h1]; rfl⟩
  have KEY : Hid (∀ W : World, Below w0.heap.size w0 W → W.cell? ⟨w.heap.size, 0, none⟩ = some (.int .i64 a) ∧ W.cell? ⟨w.heap.size, 1, none⟩ = some (.int .i64 b) ∧ W.cell? ⟨w.heap.size, 2, none⟩ = some (.int .i64 c)) := key
  have HS : Hid (w.heap.size ≤ w0.heap.size) := B0.out.size
  obtain ⟨c0, c1, c2⟩ := key w0 (Below.refl _ _)
  clear key
  go_enter Try.func8, Try.ntmps8
  go_wp2_with fail
  rw [← hw]
  clear hw h0
  refine (toG_any a b c _).mono ?_
  rintro e w1 ⟨rfl, b1⟩
  have B1 : Hid (Below w0.heap.size w0 w1) := b1
  clear b1 c0 c1 c2
  go_wp2_with fail
  refine (sval_any a b c _).mono ?_
  rintro e w2 ⟨rfl, b2⟩
  have B2 : Hid (Below w0.heap.size w0 w2) := B1.out.trans (b2.mono B1.out.size)
  obtain ⟨c0, c1, c2⟩ := KEY.out w2 B2.out
  clear b2 B1
  go_wp2_with fail
  refine (toG_any a b c _).mono ?_
  rintro e w3 ⟨rfl, b3⟩
  have B3 : Hid (Below w0.heap.size w0 w3) := B2.out.trans (b3.mono B2.out.size)
  clear b3 c0 c1 c2
  go_wp2_with fail
  refine (igap_any a b c _).mono ?_
  rintro e w4 ⟨rfl, b4⟩
  have B4 : Hid (Below w0.heap.size w0 w4) := B3.out.trans (b4.mono B3.out.size)
  clear b4
  go_wp2_with fail
  go_ret
  exact ⟨rfl, B0.out.trans (B4.out.mono HS.out)⟩
end Go.Proofs.Ytcaknphahmdkbaa.fnExactValidGapW
