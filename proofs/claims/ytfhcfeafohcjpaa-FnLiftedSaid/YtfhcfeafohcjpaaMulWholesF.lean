/- MulWholes: what both sides answer. -/
import Derived.Test.YtfhcfeafohcjpaaFnP
namespace Go.Proofs.Ytfhcfeafohcjpaa.fMulWholes
open Go.RowKit Go.Pl Go.Proofs.Ytfhcfeafohcjpaa.wh
def R (A B : List Int) : List Int := if val A = true ∧ val B = true then gv (prod A B) else []
def ok (A B : List Int) : Bool := val A && (val B && val (trim (prod A B)))
theorem len (A B : List Int) : (R A B).length ≤ 17 := by
  unfold R
  split
  · exact gv_len _
  · simp

set_option maxRecDepth 100000 in
set_option maxHeartbeats 1600000 in
theorem spec_any {A0 A1 : List Int} {v0 v1 : Value} {w : World} (h0 : Wh w v0 A0) (h1 : Wh w v1 A1)  : Calls Try.prog 21 #[v0, v1] w (AnsI (R A0 A1) (ok A0 A1) w) := by
  obtain ⟨s0, rfl, h0⟩ := h0
  obtain ⟨ao0, cap0, rfl⟩ := h0.shape
  obtain ⟨s1, rfl, h1⟩ := h1
  obtain ⟨ao1, cap1, rfl⟩ := h1.shape
  have R0 : Hid (Rd w w.heap.size (.slice ao0 A0.length cap0) A0) := h0
  have R1 : Hid (Rd w w.heap.size (.slice ao1 A1.length cap1) A1) := h1
  clear h0 h1
  have B0 : Hid (Below w.heap.size w w) := Below.refl _ _
  obtain ⟨w1, hw⟩ : ∃ x, x = (((w.alloc (.cells #[(.slice ao0 A0.length cap0)] 26)).alloc (.cells #[(.slice ao1 A1.length cap1)] 26)).alloc (.cells #[.slice none 0 0] 26)) := ⟨_, rfl⟩
  have b : Below w.heap.size w w1 := by rw [hw]; exact new3 _ _ _ _ 
  have Zw1 : Hid (w.heap.size ≤ w1.heap.size) := b.size
  replace B0 : Hid (Below w.heap.size w w1) := B0.out.trans (b.mono (Nat.le_refl _))
  replace R0 : Hid (Rd w1 w.heap.size (.slice ao0 A0.length cap0) A0) := R0.out.below b (Nat.le_refl _)
  replace R1 : Hid (Rd w1 w.heap.size (.slice ao1 A1.length cap1) A1) := R1.out.below b (Nat.le_refl _)
  have XP0 : Hid (Bx w1 w.heap.size (.slice ao0 A0.length cap0)) := by rw [hw]; exact Bx.alloc (Bx.alloc (Bx.new _ _ _) _) _
  have cXP0 : w1.cell? ⟨w.heap.size, 0, none⟩ = some (.slice ao0 A0.length cap0) := XP0.out.cell
  have XP1 : Hid (Bx w1 (w.heap.size + 1) (.slice ao1 A1.length cap1)) := by rw [hw]; exact Bx.alloc (Bx.new2 _ _ _ _ ) _
  have cXP1 : w1.cell? ⟨(w.heap.size + 1), 0, none⟩ = some (.slice ao1 A1.length cap1) := XP1.out.cell
  have XR : Hid (Bx w1 (w.heap.size + 1 + 1) (.slice none 0 0)) := by rw [hw]; exact Bx.new3 _ _ _ _ _ 
  have cXR : w1.cell? ⟨(w.heap.size + 1 + 1), 0, none⟩ = some (.slice none 0 0) := XR.out.cell
  have fXR : w1.frozen? ⟨(w.heap.size + 1 + 1), 0, none⟩ = false := XR.out.free
  have B1 : Hid (Below w1.heap.size w1 w1) := Below.refl _ _
  have BW : Hid (Below w.heap.size w w1) := B0.out
  have LR : Hid ((w.heap.size + 1 + 1) < w1.heap.size) := XR.out.lt
  have XR1 : Hid (Bx w1 (w.heap.size + 1 + 1) (.slice none 0 0)) := XR.out
  clear b
  go_enter Try.func21, Try.ntmps21
  go_wp2_with fail
  rw [← hw]
  clear hw
  refine (is_any XP0.out.cell (R0.out.ls (by have := Zw1.out; omega))).mono ?_
  rintro e w0 ⟨rfl, hw0⟩
  rw [hw0]
  clear hw0
  cases hv0 : val A0 with
  | false =>
    have Y := out_no B0.out (by omega) XR.out
    have HR : Hid (AnsI (R A0 A1) (ok A0 A1) w (.returned (.tuple #[.agg #[.slice none 0 0], .bool false])) (w1.setCell ⟨(w.heap.size + 1 + 1), 0, none⟩ (.slice none 0 0))) := by
      have e1 : R A0 A1 = [] := by simp [R, hv0]
      have e2 : ok A0 A1 = false := by simp [ok, hv0]
      rw [e1, e2]; exact Y.1
    have y := Y.2
    clear Y
    go_wp2_with fail
    exact bodyPost_ret (v := .tuple #[.agg #[.slice none 0 0], .bool false]) (by simp [results, Try.results21, y, go_sem]) rfl HR.out
  | true =>
    have Hhv0 : Hid (val A0 = true) := hv0
    clear hv0
    go_wp2_with fail
    refine (is_any XP1.out.cell (R1.out.ls (by have := Zw1.out; omega))).mono ?_
    rintro e w0 ⟨rfl, hw0⟩
    rw [hw0]
    clear hw0
    cases hv1 : val A1 with
    | false =>
      have Y := out_no B0.out (by omega) XR.out
      have HR : Hid (AnsI (R A0 A1) (ok A0 A1) w (.returned (.tuple #[.agg #[.slice none 0 0], .bool false])) (w1.setCell ⟨(w.heap.size + 1 + 1), 0, none⟩ (.slice none 0 0))) := by
        have e1 : R A0 A1 = [] := by simp [R, Hhv0.out, hv1]
        have e2 : ok A0 A1 = false := by simp [ok, Hhv0.out, hv1]
        rw [e1, e2]; exact Y.1
      have y := Y.2
      clear Y
      go_wp2_with fail
      exact bodyPost_ret (v := .tuple #[.agg #[.slice none 0 0], .bool false]) (by simp [results, Try.results21, y, go_sem]) rfl HR.out
    | true =>
      have Hhv1 : Hid (val A1 = true) := hv1
      clear hv1
      have V0 : Val A0 := val_iff.1 Hhv0.out
      have V1 : Val A1 := val_iff.1 Hhv1.out
      have HA : Hid (1 ≤ A0.length ∧ A0.length ≤ 40) := ⟨V0.1, by have := V0.2.1; omega⟩
      have HB : Hid (1 ≤ A1.length ∧ A1.length ≤ 40) := ⟨V1.1, by have := V1.2.1; omega⟩
      have HM : Hid (∀ i k, -1000000000000 ≤ at' A0 i * at' A1 k ∧ at' A0 i * at' A1 k ≤ 1000000000000) := val_prod V0 V1
      clear V0 V1
      go_wp2_with fail
      refine (mul_any (R0.out.ls (by have := Zw1.out; omega)) (R1.out.ls (by have := Zw1.out; omega)) HA.out HB.out HM.out).mono ?_
      rintro e w2 ⟨v, rfl, o, b⟩
      obtain ⟨Ta, Tc, rfl⟩ := o.shape
      have Zw2 : Hid (w1.heap.size ≤ w2.heap.size) := b.size
      replace B0 : Hid (Below w.heap.size w w2) := B0.out.trans (b.mono (by have := Zw1.out; omega))
      replace B1 : Hid (Below w1.heap.size w1 w2) := B1.out.trans (b.mono (Nat.le_refl _))
      replace R0 : Hid (Rd w2 w.heap.size (.slice ao0 A0.length cap0) A0) := R0.out.below b (by have := Zw1.out; omega)
      replace R1 : Hid (Rd w2 w.heap.size (.slice ao1 A1.length cap1) A1) := R1.out.below b (by have := Zw1.out; omega)
      replace XP0 : Hid (Bx w2 w.heap.size (.slice ao0 A0.length cap0)) := XP0.out.kept b
      replace cXP0 : w2.cell? ⟨w.heap.size, 0, none⟩ = some (.slice ao0 A0.length cap0) := XP0.out.cell
      replace XP1 : Hid (Bx w2 (w.heap.size + 1) (.slice ao1 A1.length cap1)) := XP1.out.kept b
      replace cXP1 : w2.cell? ⟨(w.heap.size + 1), 0, none⟩ = some (.slice ao1 A1.length cap1) := XP1.out.cell
      replace XR : Hid (Bx w2 (w.heap.size + 1 + 1) (.slice none 0 0)) := XR.out.kept b
      replace cXR : w2.cell? ⟨(w.heap.size + 1 + 1), 0, none⟩ = some (.slice none 0 0) := XR.out.cell
      replace fXR : w2.frozen? ⟨(w.heap.size + 1 + 1), 0, none⟩ = false := XR.out.free
      have OT : Hid (Own w2 w1.heap.size w2.heap.size (.slice Ta (prod A0 A1).length Tc) (prod A0 A1)) := o
      clear o b
      go_wp2_with fail
      refine (give_any (OT.out.rd.ls (Nat.le_refl _)) (by rw [prod_len]; have := HA.out; have := HB.out; omega)).mono ?_
      rintro e w3 ⟨_, rfl, ⟨s, rfl, o⟩, b⟩
      obtain ⟨ra, rc, rfl⟩ := o.shape
      have Zw3 : Hid (w2.heap.size ≤ w3.heap.size) := b.size
      replace B0 : Hid (Below w.heap.size w w3) := B0.out.trans (b.mono (by have := Zw1.out; have := Zw2.out; omega))
      replace B1 : Hid (Below w1.heap.size w1 w3) := B1.out.trans (b.mono (by have := Zw2.out; omega))
      replace R0 : Hid (Rd w3 w.heap.size (.slice ao0 A0.length cap0) A0) := R0.out.below b (by have := Zw1.out; have := Zw2.out; omega)
      replace R1 : Hid (Rd w3 w.heap.size (.slice ao1 A1.length cap1) A1) := R1.out.below b (by have := Zw1.out; have := Zw2.out; omega)
      replace OT : Hid (Own w3 w1.heap.size w2.heap.size (.slice Ta (prod A0 A1).length Tc) (prod A0 A1)) := OT.out.below b (Nat.le_refl _)
      replace XP0 : Hid (Bx w3 w.heap.size (.slice ao0 A0.length cap0)) := XP0.out.kept b
      replace cXP0 : w3.cell? ⟨w.heap.size, 0, none⟩ = some (.slice ao0 A0.length cap0) := XP0.out.cell
      replace XP1 : Hid (Bx w3 (w.heap.size + 1) (.slice ao1 A1.length cap1)) := XP1.out.kept b
      replace cXP1 : w3.cell? ⟨(w.heap.size + 1), 0, none⟩ = some (.slice ao1 A1.length cap1) := XP1.out.cell
      replace XR : Hid (Bx w3 (w.heap.size + 1 + 1) (.slice none 0 0)) := XR.out.kept b
      replace cXR : w3.cell? ⟨(w.heap.size + 1 + 1), 0, none⟩ = some (.slice none 0 0) := XR.out.cell
      replace fXR : w3.frozen? ⟨(w.heap.size + 1 + 1), 0, none⟩ = false := XR.out.free
      replace o := o.wide (lo' := w1.heap.size) (by have := Zw2.out; omega) (Nat.le_refl _)
      clear b
      have Y := out_yes (ok := val (trim (prod A0 A1))) (W1 := w1) (w := w) (r := (w.heap.size + 1 + 1)) BW.out (by omega) LR.out XR.out o B1.out
      have HR : Hid (AnsI (R A0 A1) (ok A0 A1) w (.returned (.tuple #[.agg #[.slice ra (gv (prod A0 A1)).length rc], .bool (val (trim (prod A0 A1)))])) (w3.setCell ⟨(w.heap.size + 1 + 1), 0, none⟩ (.slice ra (gv (prod A0 A1)).length rc))) := by
        have e1 : R A0 A1 = gv (prod A0 A1) := by simp [R, Hhv0.out, Hhv1.out]
        have e2 : ok A0 A1 = val (trim (prod A0 A1)) := by simp [ok, Hhv0.out, Hhv1.out]
        rw [e1, e2]; exact Y.1
      have y := Y.2
      clear Y o
      generalize val (trim (prod A0 A1)) = gb at *
      generalize (gv (prod A0 A1)).length = gl at *
      go_wp2_with fail
      exact bodyPost_ret (v := .tuple #[.agg #[.slice ra gl rc], .bool gb]) (by simp [results, Try.results21, y, go_sem]) rfl HR.out

end Go.Proofs.Ytfhcfeafohcjpaa.fMulWholes
