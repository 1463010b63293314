/- WholeFrom: what both sides answer. -/
import Derived.Test.YtcocidlijdfmmaaFnC
namespace Go.Proofs.Ytcocidlijdfmmaa.fWholeFrom
open Go.RowKit Go.Pl Go.Proofs.Ytcocidlijdfmmaa.wh
def R (A : List Int) : List Int := if A = [] then [] else gv A
def ok (A : List Int) : Bool := if A = [] then false else val (trim A)
theorem len (A : List Int) : (R A).length ≤ 17 := by
  unfold R
  split
  · simp
  · exact gv_len A

set_option maxRecDepth 100000 in
theorem impl_any {A : List Int} {v : Value} {w : World} (h : Ls w v A) (hs : (A.length : Int) ≤ 1048576) : Calls Try.prog 17 #[v] w (AnsI (R A) (ok A) w) := by
  have HH : Hid (Ls w v A) := h
  obtain ⟨ao, cap, rfl⟩ := h.shape
  clear h
  obtain ⟨W1, hW1⟩ : ∃ x, x = w.alloc (.cells #[.slice none 0 0] 26) := ⟨_, rfl⟩
  have X1 : Hid (Bx W1 w.heap.size (.slice none 0 0)) := by rw [hW1]; exact Bx.new _ _ _
  have B1 : Hid (Below w.heap.size w W1) := by rw [hW1]; exact new1 _ _
  have S1 : Hid (w.heap.size < W1.heap.size) := by show _ < _; rw [hW1]; simp
  by_cases h0 : A = []
  · subst h0
    have HR : Hid (AnsI (R []) (ok []) w (.returned (.tuple #[.agg #[.slice none 0 0], .bool false])) W1) := ⟨_, rfl, OwW.zero _ _ _, B1.out⟩
    rw [hW1] at HR
    have y := X1.out.cell
    rw [hW1] at y
    clear hW1
    go_enter Try.func17, Try.ntmps17
    go_wp2_with fail
    exact bodyPost_ret (v := .tuple #[.agg #[.slice none 0 0], .bool false]) (by simp [results, Try.results17, go_sem]) rfl HR.out
  · have HRR : Hid (R A = gv A ∧ ok A = val (trim A)) := ⟨if_neg h0, if_neg h0⟩
    have H0 : Hid (A ≠ []) := h0
    have hp := len_pos h0
    obtain ⟨n, hnn⟩ : ∃ n, n = A.length := ⟨_, rfl⟩
    have HN : Hid (n = A.length) := hnn
    rw [← hnn] at hp hs HH ⊢
    clear h0 hnn
    go_enter Try.func17, Try.ntmps17
    go_wp2_with fail
    rw [← hW1]
    refine (clone_any (HH.out.below B1.out) H0.out (by have := HN.out; omega)).mono ?_
    rintro e w3 ⟨v3, rfl, o3, b3⟩
    have HO3 : Hid (Own w3 W1.heap.size w3.heap.size v3 A) := o3
    have X3 : Hid (Bx w3 w.heap.size (.slice none 0 0)) := X1.out.kept b3
    have B3 : Hid (Below W1.heap.size W1 w3) := b3
    clear o3 b3
    go_wp2_with fail
    refine (wo_any HO3.out B3.out H0.out).mono ?_
    rintro e w2 ⟨_, rfl, ⟨s, rfl, o⟩, b⟩
    obtain ⟨ao2, cap2, rfl⟩ := o.shape
    have X2 := X1.out.below b S1.out
    have Y := out_yes (ok := val (trim A)) B1.out (Nat.le_refl _) S1.out X2 o b
    have HR : Hid (AnsI (R A) (ok A) w (.returned (.tuple #[.agg #[.slice ao2 (gv A).length cap2], .bool (val (trim A))])) (w2.setCell ⟨w.heap.size, 0, none⟩ (.slice ao2 (gv A).length cap2))) := by
      rw [HRR.out.1, HRR.out.2]; exact Y.1
    have y := Y.2
    have c := X2.cell
    have f := X2.free
    clear Y o b X2 hW1
    generalize val (trim A) = g at *
    go_wp2_with fail
    exact bodyPost_ret (v := .tuple #[.agg #[.slice ao2 (gv A).length cap2], .bool g]) (by simp [results, Try.results17, y, go_sem]) rfl HR.out
end Go.Proofs.Ytcocidlijdfmmaa.fWholeFrom
