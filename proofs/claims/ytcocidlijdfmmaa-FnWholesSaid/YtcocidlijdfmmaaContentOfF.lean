/- ContentOf: what both sides answer. -/
import Derived.Test.YtcocidlijdfmmaaFnG
namespace Go.Proofs.Ytcocidlijdfmmaa.fContentOf
open Go.RowKit Go.Pl Go.Proofs.Ytcocidlijdfmmaa.wh
def z (A : List Int) : Int := if val A = true then content A else 0
def ok (A : List Int) : Bool := val A

set_option maxRecDepth 100000 in
theorem impl_any {A : List Int} {v : Value} {w : World} (h : Wh w v A) : Calls Try.prog 14 #[v] w fun e w' => e = .returned (.tuple #[.int .i64 (z A), .bool (ok A)]) ∧ Below w.heap.size w w' := by
  obtain ⟨s, rfl, h⟩ := h
  obtain ⟨ao, cap, rfl⟩ := id h.shape
  have HH : Hid (Ls w (.slice ao A.length cap) A) := h
  clear h
  obtain ⟨w1, hw⟩ : ∃ x, x = w.alloc (.cells #[.slice ao A.length cap] 26) := ⟨_, rfl⟩
  have X : Hid (Bx w1 w.heap.size (.slice ao A.length cap)) := by rw [hw]; exact Bx.new _ _ _
  have B1 : Hid (Below w.heap.size w w1) := by rw [hw]; exact new1 _ _
  have H1 : Hid (Ls w1 (.slice ao A.length cap) A) := HH.out.below B1.out
  have c := X.out.cell
  clear HH
  go_enter Try.func14, Try.ntmps14
  go_wp2_with fail
  rw [← hw]
  clear hw
  refine (valid_any ⟨_, rfl, H1.out⟩).mono ?_
  rintro e w2 ⟨rfl, b⟩
  have B2 : Hid (Below w.heap.size w w2) := B1.out.trans (b.mono B1.out.size)
  have H2 : Hid (Ls w2 (.slice ao A.length cap) A) := H1.out.below b
  replace X : Hid (Bx w2 w.heap.size (.slice ao A.length cap)) := X.out.kept b
  replace c := X.out.cell
  clear b B1 H1
  cases hv : val A with
  | false =>
    have HZ : Hid (z A = 0 ∧ ok A = false) := ⟨by unfold z; rw [hv]; rfl, hv⟩
    clear hv
    go_wp2_with fail
    go_ret2
    exact ⟨by rw [HZ.out.1, HZ.out.2]; rfl, B2.out⟩
  | true =>
    have HZ : Hid (z A = content A ∧ ok A = true) := ⟨by unfold z; rw [hv]; rfl, hv⟩
    have HR : Hid (inR (-1000000) 1000000 A) := (val_iff.1 hv).2.2.1
    clear hv
    go_wp2_with fail
    refine (icont_any H2.out HR.out).mono ?_
    rintro e w3 ⟨rfl, hw3⟩
    rw [hw3]
    clear hw3
    go_wp2_with fail
    go_ret2
    exact ⟨by rw [HZ.out.1, HZ.out.2]; rfl, B2.out⟩
end Go.Proofs.Ytcocidlijdfmmaa.fContentOf
