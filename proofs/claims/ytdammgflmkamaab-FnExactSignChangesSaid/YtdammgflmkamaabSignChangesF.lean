/- SignChanges: what both sides answer. -/
import Derived.Test.YtdammgflmkamaabScT
namespace Go.Proofs.Ytdammgflmkamaab.fSignChanges
open Go.RowKit Go.Pl Go.Proofs.Ytdammgflmkamaab.wh
def ok (A : List Int) : Bool := valR A
def z (A : List Int) : Int := if valR A = true then (chg A A.length).1 else 0

set_option maxRecDepth 100000 in
theorem spec_any {A : List Int} {v : Value} {w : World} (h : Wh w v A) : Calls Try.prog 8 #[v] w fun e w' => e = .returned (.tuple #[.int .i64 (z A), .bool (ok A)]) ∧ Below w.heap.size w w' := by
  obtain ⟨s, rfl, h⟩ := h
  obtain ⟨ao, cap, rfl⟩ := id h.shape
  have HH : Hid (Ls w (.slice ao A.length cap) A) := h
  clear h
  obtain ⟨w1, hw⟩ : ∃ x, x = w.alloc (.cells #[.slice ao A.length cap] 28) := ⟨_, rfl⟩
  have X : Hid (Bx w1 w.heap.size (.slice ao A.length cap)) := by rw [hw]; exact Bx.new _ _ _
  have B1 : Hid (Below w.heap.size w w1) := by rw [hw]; exact new1 _ _
  have H1 : Hid (Ls w1 (.slice ao A.length cap) A) := HH.out.below B1.out
  have c := X.out.cell
  clear HH
  go_enter Try.func8, Try.ntmps8
  go_wp2_with fail
  rw [← hw]
  clear hw
  refine (isR_any c H1.out).mono ?_
  rintro e w2 ⟨rfl, hw2⟩
  rw [hw2]
  clear hw2
  cases hv : valR A with
  | false =>
    have HZ : Hid (z A = 0 ∧ ok A = false) := ⟨by unfold z; rw [hv]; rfl, hv⟩
    clear hv
    go_wp2_with fail
    go_ret2
    exact ⟨by rw [HZ.out.1, HZ.out.2]; rfl, B1.out⟩
  | true =>
    have HZ : Hid (z A = (chg A A.length).1 ∧ ok A = true) := ⟨by unfold z; rw [hv]; rfl, hv⟩
    have HV : Hid (ValR A) := valR_iff.1 hv
    clear hv
    go_wp2_with fail
    refine (wide_any c X.out.lt H1.out (by have := HV.out.le; omega) HV.out.inr).mono ?_
    rintro e w3 ⟨g, cp, xs, rfl, hrow, hf, b⟩
    have HRW : Hid (w3.ownsRow w1.heap.size 73 2 (.slice (some ⟨g, 0, none⟩) A.length cp) A.length xs) := hrow
    have HFX : Hid (Fx A A.length xs) := hf
    have B2 : Hid (Below w.heap.size w w3) := B1.out.trans (b.mono B1.out.size)
    clear b hrow hf c
    go_wp2_with fail
    refine (signs_any HRW.out HFX.out (by have := HV.out.le; omega)).mono ?_
    rintro e w4 ⟨v4, rfl, o4, b⟩
    have LS : Hid (Ls w4 v4 (A.map sgn)) := o4.ls (Nat.le_refl _)
    have B3 : Hid (Below w.heap.size w w4) := B2.out.trans (b.mono B2.out.size)
    have HEQ : Hid ((chs (A.map sgn) (A.map sgn).length).1 = (chg A A.length).1) := by show _ = _; rw [List.length_map]; exact (chs_chg A A.length).1
    clear b o4
    obtain ⟨sa, sc, rfl⟩ := LS.out.shape
    rw [List.length_map] at LS ⊢
    go_wp2_with fail
    refine (schg_any LS.out (by rw [List.length_map]; have := HV.out.le; omega) (sgn_in A)).mono ?_
    rintro e w5 ⟨rfl, hw5⟩
    rw [hw5, HEQ.out]
    clear hw5
    go_wp2_with fail
    go_ret2
    exact ⟨by rw [HZ.out.1, HZ.out.2]; rfl, B3.out⟩

set_option maxRecDepth 100000 in
theorem impl_any {A : List Int} {v : Value} {w : World} (h : Wh w v A) : Calls Try.prog 10 #[v] w fun e w' => e = .returned (.tuple #[.int .i64 (z A), .bool (ok A)]) ∧ Below w.heap.size w w' := by
  obtain ⟨s, rfl, h⟩ := h
  obtain ⟨ao, cap, rfl⟩ := id h.shape
  have HH : Hid (Ls w (.slice ao A.length cap) A) := h
  clear h
  obtain ⟨w1, hw⟩ : ∃ x, x = w.alloc (.cells #[.slice ao A.length cap] 28) := ⟨_, rfl⟩
  have X : Hid (Bx w1 w.heap.size (.slice ao A.length cap)) := by rw [hw]; exact Bx.new _ _ _
  have B1 : Hid (Below w.heap.size w w1) := by rw [hw]; exact new1 _ _
  have H1 : Hid (Ls w1 (.slice ao A.length cap) A) := HH.out.below B1.out
  have c := X.out.cell
  clear HH
  go_enter Try.func10, Try.ntmps10
  go_wp2_with fail
  rw [← hw]
  clear hw
  refine (validR_any ⟨_, rfl, H1.out⟩).mono ?_
  rintro e w2 ⟨rfl, b⟩
  replace B1 : Hid (Below w.heap.size w w2) := B1.out.trans (b.mono B1.out.size)
  replace H1 : Hid (Ls w2 (.slice ao A.length cap) A) := H1.out.below b
  replace X : Hid (Bx w2 w.heap.size (.slice ao A.length cap)) := X.out.kept b
  replace c := X.out.cell
  clear b
  cases hv : valR A with
  | false =>
    have HZ : Hid (z A = 0 ∧ ok A = false) := ⟨by unfold z; rw [hv]; rfl, hv⟩
    clear hv
    go_wp2_with fail
    go_ret2
    exact ⟨by rw [HZ.out.1, HZ.out.2]; rfl, B1.out⟩
  | true =>
    have HZ : Hid (z A = (chg A A.length).1 ∧ ok A = true) := ⟨by unfold z; rw [hv]; rfl, hv⟩
    have HV : Hid (ValR A) := valR_iff.1 hv
    clear hv
    go_wp2_with fail
    refine (ichg_any H1.out (by have := HV.out.le; omega) HV.out.inr).mono ?_
    rintro e w3 ⟨rfl, hw3⟩
    rw [hw3]
    clear hw3
    have B2 : Hid (Below w.heap.size w w2) := B1.out
    go_wp2_with fail
    go_ret2
    exact ⟨by rw [HZ.out.1, HZ.out.2]; rfl, B2.out⟩
end Go.Proofs.Ytdammgflmkamaab.fSignChanges
