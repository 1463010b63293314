/- RealText: what both sides answer. -/
import Derived.Test.YtdeoemeibbkdoaaDoorFrA
import Derived.Test.YtdeoemeibbkdoaaDoorLtI
namespace Go.Proofs.YtdeoemeibbkdoaaDoor.fRealText
open Go.RowKit Go.Pl Go.Lib Go.Lt Go.Proofs.YtdeoemeibbkdoaaDoor.wh Go.Proofs.YtdeoemeibbkdoaaDoor.ils Go.Proofs.YtdeoemeibbkdoaaDoor.dec

def z (A : List Int) : ByteArray := if valR A then text A.length (at' A) else ⟨#[]⟩
def ok (A : List Int) : Bool := valR A

theorem ils_of {v : Value} {A : List Int} {w : World} (h : Ls w v A) : Ils w v A.length (at' A) := by
  obtain ⟨ao, cap, rfl, hn, _, hc⟩ := h
  refine ⟨ao, cap, rfl, hn, fun h0 => ?_⟩
  obtain ⟨b, off, rfl, hb, hcell⟩ := hc h0
  exact ⟨b, off, rfl, hb, fun k hk => hcell k _ (at_some A k hk)⟩
theorem in_of {A : List Int} (h : ValR A) : A.length ≤ 64 ∧ ∀ k, k < A.length → Go.Lt.inR (at' A k) := by
  have h1 := h.le
  refine ⟨by omega, fun k _ => ?_⟩
  have := h.at k
  unfold Go.Lt.inR
  omega

set_option maxRecDepth 100000 in
theorem spec_any {A : List Int} {v : Value} {w : World} (h : Wh w v A) : Calls Tryd.prog 9 #[v] w fun e w' => e = .returned (.tuple #[.string (z A), .bool (ok A)]) ∧ Below w.heap.size w w' := by
  obtain ⟨s, rfl, h⟩ := h
  obtain ⟨ao, cap, rfl⟩ := id h.shape
  have HH : Hid (Ls w (.slice ao A.length cap) A) := h
  clear h
  obtain ⟨w1, hw⟩ : ∃ x, x = w.alloc (.cells #[.slice ao A.length cap] 28) := ⟨_, rfl⟩
  have X : Hid (Bx w1 w.heap.size (.slice ao A.length cap)) := by rw [hw]; exact Bx.new _ _ _
  have B1 : Hid (Below w.heap.size w w1) := by rw [hw]; exact new1 _ _
  have H1 : Hid (Ls w1 (.slice ao A.length cap) A) := HH.out.below B1.out
  have c := X.out.cell
  clear HH
  go_enter Tryd.func9, Tryd.ntmps9
  go_wp2_with fail
  rw [← hw]
  clear hw
  refine (isR_any c H1.out).mono ?_
  rintro e w2 ⟨rfl, hw2⟩
  rw [hw2]
  clear hw2
  cases hv : valR A with
  | false =>
    have HZ : Hid (z A = ⟨#[]⟩ ∧ ok A = false) := ⟨by unfold z; rw [hv]; rfl, hv⟩
    clear hv
    go_wp2_with fail
    go_ret2
    exact ⟨by rw [HZ.out.1, HZ.out.2]; rfl, B1.out⟩
  | true =>
    have HZ : Hid (z A = text A.length (at' A) ∧ ok A = true) := ⟨by unfold z; rw [hv]; rfl, hv⟩
    have HV := in_of (valR_iff.1 hv)
    have ht := lt.text_any (ils_of H1.out) HV.1 HV.2
    generalize text A.length (at' A) = t at *
    clear hv HV
    go_wp2_with fail
    refine ht.mono ?_
    rintro e w3 ⟨rfl, b⟩
    have B2 : Hid (Below w.heap.size w w3) := B1.out.trans (b.mono B1.out.size)
    clear b ht
    go_wp2_with fail
    go_ret2
    exact ⟨by rw [HZ.out.1, HZ.out.2]; rfl, B2.out⟩

set_option maxRecDepth 100000 in
theorem impl_any {A : List Int} {v : Value} {w : World} (h : Wh w v A) (ht : TabOk w) : Calls Tryd.prog 11 #[v] w fun e w' => e = .returned (.tuple #[.string (z A), .bool (ok A)]) ∧ Below w.heap.size w w' := by
  obtain ⟨s, rfl, h⟩ := h
  obtain ⟨ao, cap, rfl⟩ := id h.shape
  have HH : Hid (Ls w (.slice ao A.length cap) A) := h
  have HT : Hid (TabOk w) := ht
  clear h ht
  obtain ⟨w1, hw⟩ : ∃ x, x = w.alloc (.cells #[.slice ao A.length cap] 28) := ⟨_, rfl⟩
  have X : Hid (Bx w1 w.heap.size (.slice ao A.length cap)) := by rw [hw]; exact Bx.new _ _ _
  have B1 : Hid (Below w.heap.size w w1) := by rw [hw]; exact new1 _ _
  have H1 : Hid (Ls w1 (.slice ao A.length cap) A) := HH.out.below B1.out
  have c := X.out.cell
  clear HH
  go_enter Tryd.func11, Tryd.ntmps11
  go_wp2_with fail
  rw [← hw]
  clear hw
  refine (validR_any ⟨_, rfl, H1.out⟩).mono ?_
  rintro e w2 ⟨rfl, b⟩
  replace B1 : Hid (Below w.heap.size w w2) := B1.out.trans (b.mono B1.out.size)
  replace H1 : Hid (Ls w2 (.slice ao A.length cap) A) := H1.out.below b
  replace X : Hid (Bx w2 w.heap.size (.slice ao A.length cap)) := X.out.kept b
  replace c := X.out.cell
  clear b
  cases hv : valR A with
  | false =>
    have HZ : Hid (z A = ⟨#[]⟩ ∧ ok A = false) := ⟨by unfold z; rw [hv]; rfl, hv⟩
    clear hv
    go_wp2_with fail
    go_ret2
    exact ⟨by rw [HZ.out.1, HZ.out.2]; rfl, B1.out⟩
  | true =>
    have HZ : Hid (z A = text A.length (at' A) ∧ ok A = true) := ⟨by unfold z; rw [hv]; rfl, hv⟩
    have HV := in_of (valR_iff.1 hv)
    have hg := good_yes HV.1 HV.2
    have hi := lt.impl_any (ils_of H1.out) (tab_below HT.out B1.out)
    have HX : Hid (∀ e, Go.Proofs.YtdeoemeibbkdoaaDoor.lt.Ans A.length (at' A) e → e = .returned (.tuple #[.string (text A.length (at' A)), .bool true])) := fun e h => by
      have h' : e = .returned (.tuple #[.string (Go.Lt.ans A.length (at' A)), .bool (Go.Lt.good A.length (at' A))]) := h
      rw [h']; unfold Go.Lt.ans; rw [hg]; rfl
    generalize text A.length (at' A) = t at *
    clear hv HV hg
    go_wp2_with fail
    refine hi.mono ?_
    rintro e w3 ⟨ha, b⟩
    obtain rfl := HX.out e ha
    have B2 : Hid (Below w.heap.size w w3) := B1.out.trans (b.mono B1.out.size)
    clear b ha hi HX
    go_wp2_with fail
    go_ret2
    exact ⟨by rw [HZ.out.1, HZ.out.2]; rfl, B2.out⟩
end Go.Proofs.YtdeoemeibbkdoaaDoor.fRealText
