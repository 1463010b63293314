/- ReadReal: what both sides answer. -/
import Derived.Test.YtdeoemeibbkdoaaDoorFrA
import Derived.Test.YtdeoemeibbkdoaaDoorFnC
import Derived.Test.YtdeoemeibbkdoaaDoorRlI
namespace Go.Proofs.YtdeoemeibbkdoaaDoor.fReadReal
open Go.RowKit Go.Pl Go.Lib Go.Rl Go.Proofs.YtdeoemeibbkdoaaDoor.wh Go.Proofs.YtdeoemeibbkdoaaDoor.rl Go.Proofs.YtdeoemeibbkdoaaDoor.rd

def rof (L : List Int) : List Int := if valR L = true then L else []
set_option maxRecDepth 100000 in
set_option maxHeartbeats 1600000 in
theorem iof_any {v : Value} {L : List Int} {w0 w : World} {lo hi : Nat} (h : Own w lo hi v L) (hlo : w0.heap.size ≤ lo) (hhi : hi ≤ w.heap.size) (hb0 : Below w0.heap.size w0 w) :
    Calls Tryd.prog 37 #[v] w (AnsI (rof L) (valR L) w0) := by
  have HH : Hid (Own w w0.heap.size w.heap.size v L) := h.wide hlo hhi
  have HB : Hid (Below w0.heap.size w0 w) := hb0
  have hsz : w0.heap.size ≤ w.heap.size := hb0.size
  obtain ⟨ao, cap, rfl⟩ := h.shape
  clear h hb0 hlo hhi
  obtain ⟨w1, hw⟩ : ∃ x, x = (w.alloc (.cells #[.slice none 0 0] 28)).alloc (.cells #[.slice ao L.length cap] 28) := ⟨_, rfl⟩
  have X1 : Hid (Bx w1 w.heap.size (.slice none 0 0)) := by rw [hw]; exact (Bx.new _ _ _).alloc _
  have X2 : Hid (Bx w1 (w.heap.size + 1) (.slice ao L.length cap)) := by rw [hw]; exact Bx.new2 _ _ _ _
  have B1 : Hid (Below w.heap.size w w1) := by rw [hw]; exact new2 _ _ _
  have O1 : Hid (Own w1 w0.heap.size w.heap.size (.slice ao L.length cap) L) := HH.out.kept B1.out
  have HS : Hid (w1.heap.size = w.heap.size + 1 + 1) := by show _ = _; rw [hw]; simp
  have c1 := X1.out.cell
  have f1 := X1.out.free
  have c2 := X2.out.cell
  go_enter Tryd.func37, Tryd.ntmps37
  go_wp2_with fail
  rw [← hw]
  clear hw
  refine (validR_any ⟨_, rfl, O1.out.ls (by have := HS.out; omega)⟩).mono ?_
  rintro e w3 ⟨rfl, b3⟩
  have O3 : Hid (Own w3 w0.heap.size w.heap.size (.slice ao L.length cap) L) := O1.out.kept b3
  have B3 : Hid (Below w.heap.size w w3) := B1.out.trans (b3.mono B1.out.size)
  replace X1 : Hid (Bx w3 w.heap.size (.slice none 0 0)) := X1.out.kept b3
  replace X2 : Hid (Bx w3 (w.heap.size + 1) (.slice ao L.length cap)) := X2.out.kept b3
  replace c1 := X1.out.cell
  replace f1 := X1.out.free
  replace c2 := X2.out.cell
  have HS3 : Hid (w.heap.size ≤ w3.heap.size) := B3.out.size
  have BB : Hid (Below w0.heap.size w0 w3) := HB.out.trans (B3.out.mono hsz)
  clear b3 O1 B1 HS
  cases hv : valR L with
  | true =>
    have y1 := (X1.out.set (.slice ao L.length cap)).cell
    have HR : Hid (AnsI (rof L) (valR L) w0 (.returned (.tuple #[.agg #[.slice ao L.length cap], .bool true])) (w3.setCell ⟨w.heap.size, 0, none⟩ (.slice ao L.length cap))) := by
      show AnsI _ _ _ _ _
      rw [hv, show rof L = L from if_pos hv]
      exact ⟨_, rfl, ⟨_, rfl, Own.wide (Own.stay O3.out fun k _ h2 _ => Below.heap_setCell _ _ _ _ (by show k ≠ w.heap.size; omega)) (Nat.le_refl _) (by have := HS3.out; simp; omega)⟩, BB.out.setCell hsz _⟩
    clear hv
    generalize L.length = gl at *
    go_wp2_with fail
    refine bodyPost_ret (v := .tuple #[.agg #[.slice ao gl cap], .bool true]) (by simp [results, Tryd.results37, y1, go_sem]) rfl HR.out
  | false =>
    have y1 := (X1.out.set (.slice none 0 0)).cell
    have HR : Hid (AnsI (rof L) (valR L) w0 (.returned (.tuple #[.agg #[.slice none 0 0], .bool false])) (w3.setCell ⟨w.heap.size, 0, none⟩ (.slice none 0 0))) := by
      show AnsI _ _ _ _ _
      rw [hv, show rof L = [] from if_neg (by rw [hv]; decide)]
      exact ⟨_, rfl, OwW.zero _ _ _, BB.out.setCell hsz _⟩
    clear hv
    go_wp2_with fail
    refine bodyPost_ret (v := .tuple #[.agg #[.slice none 0 0], .bool false]) (by simp [results, Tryd.results37, y1, go_sem]) rfl HR.out


def R (s : List UInt8) : List Int := rof (lst s)
def ok (s : List UInt8) : Bool := valR (lst s)
theorem lst_le (s : List UInt8) : (lst s).length ≤ 64 := by
  unfold lst
  cases hg : good s with
  | false => simp
  | true =>
    unfold vals
    by_cases hn : s = none_
    · simp [hn]
    · unfold good at hg
      simp only [hn, decide_false, Bool.false_or, Bool.and_eq_true, decide_eq_true_eq] at hg
      simp [hn]
      exact hg.1
theorem len (s : List UInt8) : (R s).length ≤ 1000 := by
  have := lst_le s
  unfold R rof
  split
  · omega
  · simp
theorem no_good {s : List UInt8} (h : good s = false) : R s = [] ∧ ok s = false := by
  have : lst s = [] := by unfold lst; rw [h]; rfl
  have h2 : valR (lst s) = false := by rw [this]; rfl
  exact ⟨by unfold R rof; rw [if_neg (by rw [h2]; decide)], h2⟩

set_option maxRecDepth 100000 in
set_option maxHeartbeats 1600000 in
theorem impl_any (s : ByteArray) (hs : s.size ≤ 1048576) (w : World) (hl : LaidOk w) (hm : MaxOk w) :
    Calls Tryd.prog 14 #[.string s] w (AnsI (R s.data.toList) (ok s.data.toList) w) := by
  obtain ⟨w1, hw⟩ : ∃ x, x = w.alloc (.cells #[.slice none 0 0] 28) := ⟨_, rfl⟩
  have X1 : Hid (Bx w1 w.heap.size (.slice none 0 0)) := by rw [hw]; exact Bx.new _ _ _
  have B1 : Hid (Below w.heap.size w w1) := by rw [hw]; exact new1 _ _
  have LR : Hid (w.heap.size < w1.heap.size) := X1.out.lt
  have hi := rl.impl_any s hs w1 (laid_below hl B1.out) (max_below hm B1.out)
  have h64 := lst_le s.data.toList
  have HR : Hid (R s.data.toList = rof (lst s.data.toList) ∧ ok s.data.toList = valR (lst s.data.toList)) := ⟨rfl, rfl⟩
  clear hl hm
  unfold RAns at hi
  generalize lst s.data.toList = L at *
  generalize good s.data.toList = gd at *
  go_enter Tryd.func14, Tryd.ntmps14
  go_wp2_with fail
  rw [← hw]
  clear hw
  refine hi.mono ?_
  rintro e w2 ⟨v, rfl, ho, b2⟩
  have O2 : Hid (Own w2 w1.heap.size w2.heap.size v L) := Own.of_row ho (by omega) (Nat.le_refl _)
  have B2 : Hid (Below w1.heap.size w1 w2) := b2
  have X2 : Hid (Bx w2 w.heap.size (.slice none 0 0)) := X1.out.kept b2
  clear ho b2 hi
  go_wp2_with fail
  refine (iof_any O2.out (Nat.le_refl _) (Nat.le_refl _) B2.out).mono ?_
  rintro e w3 ⟨_, rfl, ⟨v3, rfl, o3⟩, b3⟩
  have X3 : Hid (Bx w3 w.heap.size (.slice none 0 0)) := X1.out.kept b3
  have Y := out_yes (ok := valR L) (W1 := w1) (w := w) (r := w.heap.size) B1.out (Nat.le_refl _) LR.out X3.out o3 b3
  have HA : Hid (AnsI (R s.data.toList) (ok s.data.toList) w (.returned (.tuple #[.agg #[v3], .bool (valR L)])) (w3.setCell ⟨w.heap.size, 0, none⟩ v3)) := by
    show AnsI _ _ _ _ _
    rw [HR.out.1, HR.out.2]; exact Y.1
  have y := Y.2
  have f3 := X3.out.free
  have c3 := X3.out.cell
  obtain ⟨ao, cap, rfl⟩ := o3.shape
  clear Y o3 b3
  generalize (rof L).length = gl at *
  generalize valR L = vb at *
  go_wp2_with fail
  refine bodyPost_ret (v := .tuple #[.agg #[.slice ao gl cap], .bool vb]) (by simp [results, Tryd.results14, y, go_sem]) rfl HA.out
set_option maxRecDepth 100000 in
set_option maxHeartbeats 1600000 in
theorem sread_any (s : ByteArray) (hs : s.size ≤ 1048576) (w : World) :
    Calls Tryd.prog 35 #[.string s] w (AnsI (R s.data.toList) (ok s.data.toList) w) := by
  obtain ⟨w1, hw⟩ : ∃ x, x = w.alloc (.cells #[.slice none 0 0] 28) := ⟨_, rfl⟩
  have X1 : Hid (Bx w1 w.heap.size (.slice none 0 0)) := by rw [hw]; exact Bx.new _ _ _
  have B1 : Hid (Below w.heap.size w w1) := by rw [hw]; exact new1 _ _
  have LR : Hid (w.heap.size < w1.heap.size) := X1.out.lt
  have hi := rl.numbers_any s hs w1
  have h64 := lst_le s.data.toList
  have HR : Hid (R s.data.toList = rof (lst s.data.toList) ∧ ok s.data.toList = valR (lst s.data.toList)) := ⟨rfl, rfl⟩
  have HN : Hid (good s.data.toList = false → R s.data.toList = [] ∧ ok s.data.toList = false) := no_good
  unfold RAns at hi
  generalize lst s.data.toList = L at *
  generalize good s.data.toList = gd at *
  go_enter Tryd.func35, Tryd.ntmps35
  go_wp2_with fail
  rw [← hw]
  clear hw
  refine hi.mono ?_
  rintro e w2 ⟨v, rfl, ho, b2⟩
  have O2 : Hid (Own w2 w1.heap.size w2.heap.size v L) := Own.of_row ho (by omega) (Nat.le_refl _)
  have B2 : Hid (Below w.heap.size w w2) := B1.out.trans (b2.mono B1.out.size)
  have X2 : Hid (Bx w2 w.heap.size (.slice none 0 0)) := X1.out.kept b2
  obtain ⟨ao, cap, rfl⟩ := O2.out.shape
  obtain ⟨w3, hw⟩ : ∃ x, x = w2.alloc (.cells #[.slice ao L.length cap] 28) := ⟨_, rfl⟩
  have X3 : Hid (Bx w3 w.heap.size (.slice none 0 0)) := by rw [hw]; exact X2.out.alloc _
  have Z3 : Hid (Bx w3 w2.heap.size (.slice ao L.length cap)) := by rw [hw]; exact Bx.new _ _ _
  have B3 : Hid (Below w.heap.size w w3) := by rw [hw]; exact B2.out.alloc B2.out.size _
  have O3 : Hid (Own w3 w1.heap.size w2.heap.size (.slice ao L.length cap) L) := by rw [hw]; exact O2.out.kept (new1 _ _)
  have HZ : Hid (w2.heap.size ≤ w3.heap.size) := by rw [hw]; show _ ≤ _; simp
  have c3 := Z3.out.cell
  have f3 := X3.out.free
  have d3 := X3.out.cell
  clear ho b2 hi
  cases gd with
  | false =>
    have Y := wh.out_no B3.out (Nat.le_refl _) X3.out
    have HA : Hid (AnsI (R s.data.toList) (ok s.data.toList) w (.returned (.tuple #[.agg #[.slice none 0 0], .bool false])) (w3.setCell ⟨w.heap.size, 0, none⟩ (.slice none 0 0))) := by
      show AnsI _ _ _ _ _
      rw [(HN.out rfl).1, (HN.out rfl).2]; exact Y.1
    have y := Y.2
    clear Y
    subst hw
    go_wp2_with fail
    refine bodyPost_ret (v := .tuple #[.agg #[.slice none 0 0], .bool false]) (by simp [results, Tryd.results35, y, go_sem]) rfl HA.out
  | true =>
    have HL := isR_any c3 (O3.out.ls HZ.out)
    cases hv : valR L with
    | false =>
      have Y := wh.out_no B3.out (Nat.le_refl _) X3.out
      have HA : Hid (AnsI (R s.data.toList) (ok s.data.toList) w (.returned (.tuple #[.agg #[.slice none 0 0], .bool false])) (w3.setCell ⟨w.heap.size, 0, none⟩ (.slice none 0 0))) := by
        show AnsI _ _ _ _ _
        rw [HR.out.1, HR.out.2, hv, show rof L = [] from if_neg (by rw [hv]; decide)]; exact Y.1
      have y := Y.2
      rw [hv] at HL
      clear Y hv
      go_wp2_with fail
      rw [← hw]
      clear hw
      refine HL.mono ?_
      rintro e w0 ⟨rfl, hw0⟩
      rw [hw0]
      clear hw0
      go_wp2_with fail
      refine bodyPost_ret (v := .tuple #[.agg #[.slice none 0 0], .bool false]) (by simp [results, Tryd.results35, y, go_sem]) rfl HA.out
    | true =>
      have y := (X3.out.set (.slice ao L.length cap)).cell
      have HA : Hid (AnsI (R s.data.toList) (ok s.data.toList) w (.returned (.tuple #[.agg #[.slice ao L.length cap], .bool true])) (w3.setCell ⟨w.heap.size, 0, none⟩ (.slice ao L.length cap))) := by
        show AnsI _ _ _ _ _
        rw [HR.out.1, HR.out.2, hv, show rof L = L from if_pos hv]
        exact ⟨_, rfl, ⟨_, rfl, Own.wide (Own.stay O3.out fun k h1 _ _ => Below.heap_setCell _ _ _ _ (by show k ≠ w.heap.size; have := LR.out; omega)) (by have := LR.out; omega) (by have := HZ.out; simp; omega)⟩, B3.out.setCell (Nat.le_refl _) _⟩
      rw [hv] at HL
      clear hv
      generalize L.length = gl at *
      go_wp2_with fail
      rw [← hw]
      clear hw
      refine HL.mono ?_
      rintro e w0 ⟨rfl, hw0⟩
      rw [hw0]
      clear hw0
      go_wp2_with fail
      refine bodyPost_ret (v := .tuple #[.agg #[.slice ao gl cap], .bool true]) (by simp [results, Tryd.results35, y, go_sem]) rfl HA.out
set_option maxRecDepth 100000 in
set_option maxHeartbeats 1600000 in
theorem spec_any (s : ByteArray) (hs : s.size ≤ 1048576) (w : World) :
    Calls Tryd.prog 13 #[.string s] w (AnsS (R s.data.toList) (ok s.data.toList) w) := by
  obtain ⟨w1, hw⟩ : ∃ x, x = w.alloc (.cells #[.slice none 0 0] 28) := ⟨_, rfl⟩
  have X1 : Hid (Bx w1 w.heap.size (.slice none 0 0)) := by rw [hw]; exact Bx.new _ _ _
  have B1 : Hid (Below w.heap.size w w1) := by rw [hw]; exact new1 _ _
  have LR : Hid (w.heap.size < w1.heap.size) := X1.out.lt
  have hi := sread_any s hs w1
  generalize R s.data.toList = Q at *
  generalize ok s.data.toList = q at *
  go_enter Tryd.func13, Tryd.ntmps13
  go_wp2_with fail
  rw [← hw]
  clear hw
  refine hi.mono ?_
  rintro e w3 ⟨_, rfl, ⟨v3, rfl, o3⟩, b3⟩
  have X3 : Hid (Bx w3 w.heap.size (.slice none 0 0)) := X1.out.kept b3
  have B3 : Hid (Below w.heap.size w w3) := B1.out.trans (b3.mono B1.out.size)
  have y := (X3.out.set v3).cell
  obtain ⟨ao, cap, rfl⟩ := o3.shape
  have f3 := X3.out.free
  have c3 := X3.out.cell
  have HA : Hid (AnsS Q q w (.returned (.tuple #[.agg #[.slice ao Q.length cap], .bool q])) (w3.setCell ⟨w.heap.size, 0, none⟩ (.slice ao Q.length cap))) :=
    (out_yes (ok := q) (W1 := w1) (w := w) (r := w.heap.size) B1.out (Nat.le_refl _) LR.out X3.out o3 b3).1.s
  clear o3 b3 hi
  generalize Q.length = gl at *
  go_wp2_with fail
  refine bodyPost_ret (v := .tuple #[.agg #[.slice ao gl cap], .bool q]) (by simp [results, Tryd.results13, y, go_sem]) rfl HA.out
end Go.Proofs.YtdeoemeibbkdoaaDoor.fReadReal
