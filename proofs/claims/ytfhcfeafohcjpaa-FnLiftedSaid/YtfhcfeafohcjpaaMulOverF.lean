/- MulOver: what both sides answer. -/
import Derived.Test.YtfhcfeafohcjpaaFnM
namespace Go.Proofs.Ytfhcfeafohcjpaa.fMulOver
open Go.RowKit Go.Pl Go.Proofs.Ytfhcfeafohcjpaa.wh
def R (A B : List Int) (p : Int) : List Int := if over A p = true ∧ over B p = true then gv (trim (mods (prod A B) p)) else []
def ok (A B : List Int) (p : Int) : Bool := over A p && (over B p && val (trim (trim (mods (prod A B) p))))
theorem len (A B : List Int) (p : Int) : (R A B p).length ≤ 17 := by
  unfold R
  split
  · exact gv_len _
  · simp

set_option maxRecDepth 100000 in
set_option maxHeartbeats 1600000 in
theorem impl_any {A0 A1 : List Int} {v0 v1 : Value} {w : World} (h0 : Wh w v0 A0) (h1 : Wh w v1 A1) (a2 : Int) (_b2 : (Lit.int .i64 a2).wf = true) : Calls Try.prog 61 #[v0, v1, .int .i64 a2] w (AnsI (R A0 A1 a2) (ok A0 A1 a2) w) := by
  obtain ⟨s0, rfl, h0⟩ := h0
  obtain ⟨ao0, cap0, rfl⟩ := h0.shape
  obtain ⟨s1, rfl, h1⟩ := h1
  obtain ⟨ao1, cap1, rfl⟩ := h1.shape
  have R0 : Hid (Rd w w.heap.size (.slice ao0 A0.length cap0) A0) := h0
  have R1 : Hid (Rd w w.heap.size (.slice ao1 A1.length cap1) A1) := h1
  clear h0 h1
  have B0 : Hid (Below w.heap.size w w) := Below.refl _ _
  obtain ⟨w1, hw⟩ : ∃ x, x = (((w.alloc (.cells #[(.slice ao0 A0.length cap0)] 26)).alloc (.cells #[(.slice ao1 A1.length cap1)] 26)).alloc (.cells #[.slice none 0 0] 26)) := ⟨_, rfl⟩
  have b : Below w.heap.size w w1 := by rw [hw]; exact new3 _ _ _ _ 
  have Zw1 : Hid (w.heap.size ≤ w1.heap.size) := b.size
  replace B0 : Hid (Below w.heap.size w w1) := B0.out.trans (b.mono (Nat.le_refl _))
  replace R0 : Hid (Rd w1 w.heap.size (.slice ao0 A0.length cap0) A0) := R0.out.below b (Nat.le_refl _)
  replace R1 : Hid (Rd w1 w.heap.size (.slice ao1 A1.length cap1) A1) := R1.out.below b (Nat.le_refl _)
  have XP0 : Hid (Bx w1 w.heap.size (.slice ao0 A0.length cap0)) := by rw [hw]; exact Bx.alloc (Bx.alloc (Bx.new _ _ _) _) _
  have cXP0 : w1.cell? ⟨w.heap.size, 0, none⟩ = some (.slice ao0 A0.length cap0) := XP0.out.cell
  have XP1 : Hid (Bx w1 (w.heap.size + 1) (.slice ao1 A1.length cap1)) := by rw [hw]; exact Bx.alloc (Bx.new2 _ _ _ _ ) _
  have cXP1 : w1.cell? ⟨(w.heap.size + 1), 0, none⟩ = some (.slice ao1 A1.length cap1) := XP1.out.cell
  have XR : Hid (Bx w1 (w.heap.size + 1 + 1) (.slice none 0 0)) := by rw [hw]; exact Bx.new3 _ _ _ _ _ 
  have cXR : w1.cell? ⟨(w.heap.size + 1 + 1), 0, none⟩ = some (.slice none 0 0) := XR.out.cell
  have fXR : w1.frozen? ⟨(w.heap.size + 1 + 1), 0, none⟩ = false := XR.out.free
  have B1 : Hid (Below w1.heap.size w1 w1) := Below.refl _ _
  have BW : Hid (Below w.heap.size w w1) := B0.out
  have LR : Hid ((w.heap.size + 1 + 1) < w1.heap.size) := XR.out.lt
  have XR1 : Hid (Bx w1 (w.heap.size + 1 + 1) (.slice none 0 0)) := XR.out
  clear b
  go_enter Try.func61, Try.ntmps61
  go_wp2_with fail
  rw [← hw]
  clear hw
  refine (iover_any ⟨_, rfl, (R0.out.ls (by have := Zw1.out; omega))⟩ a2).mono ?_
  rintro e w2 ⟨rfl, b⟩
  have Zw2 : Hid (w1.heap.size ≤ w2.heap.size) := b.size
  replace B0 : Hid (Below w.heap.size w w2) := B0.out.trans (b.mono (by have := Zw1.out; omega))
  replace B1 : Hid (Below w1.heap.size w1 w2) := B1.out.trans (b.mono (Nat.le_refl _))
  replace R0 : Hid (Rd w2 w.heap.size (.slice ao0 A0.length cap0) A0) := R0.out.below b (by have := Zw1.out; omega)
  replace R1 : Hid (Rd w2 w.heap.size (.slice ao1 A1.length cap1) A1) := R1.out.below b (by have := Zw1.out; omega)
  replace XP0 : Hid (Bx w2 w.heap.size (.slice ao0 A0.length cap0)) := XP0.out.kept b
  replace cXP0 : w2.cell? ⟨w.heap.size, 0, none⟩ = some (.slice ao0 A0.length cap0) := XP0.out.cell
  replace XP1 : Hid (Bx w2 (w.heap.size + 1) (.slice ao1 A1.length cap1)) := XP1.out.kept b
  replace cXP1 : w2.cell? ⟨(w.heap.size + 1), 0, none⟩ = some (.slice ao1 A1.length cap1) := XP1.out.cell
  replace XR : Hid (Bx w2 (w.heap.size + 1 + 1) (.slice none 0 0)) := XR.out.kept b
  replace cXR : w2.cell? ⟨(w.heap.size + 1 + 1), 0, none⟩ = some (.slice none 0 0) := XR.out.cell
  replace fXR : w2.frozen? ⟨(w.heap.size + 1 + 1), 0, none⟩ = false := XR.out.free
  clear b
  cases hv0 : over A0 a2 with
  | false =>
    have Y := out_no B0.out (by omega) XR.out
    have HR : Hid (AnsI (R A0 A1 a2) (ok A0 A1 a2) w (.returned (.tuple #[.agg #[.slice none 0 0], .bool false])) (w2.setCell ⟨(w.heap.size + 1 + 1), 0, none⟩ (.slice none 0 0))) := by
      have e1 : R A0 A1 a2 = [] := by simp [R, hv0]
      have e2 : ok A0 A1 a2 = false := by simp [ok, hv0]
      rw [e1, e2]; exact Y.1
    have y := Y.2
    clear Y
    go_wp2_with fail
    exact bodyPost_ret (v := .tuple #[.agg #[.slice none 0 0], .bool false]) (by simp [results, Try.results61, y, go_sem]) rfl HR.out
  | true =>
    have Hhv0 : Hid (over A0 a2 = true) := hv0
    clear hv0
    go_wp2_with fail
    refine (iover_any ⟨_, rfl, (R1.out.ls (by have := Zw1.out; have := Zw2.out; omega))⟩ a2).mono ?_
    rintro e w3 ⟨rfl, b⟩
    have Zw3 : Hid (w2.heap.size ≤ w3.heap.size) := b.size
    replace B0 : Hid (Below w.heap.size w w3) := B0.out.trans (b.mono (by have := Zw1.out; have := Zw2.out; omega))
    replace B1 : Hid (Below w1.heap.size w1 w3) := B1.out.trans (b.mono (by have := Zw2.out; omega))
    replace R0 : Hid (Rd w3 w.heap.size (.slice ao0 A0.length cap0) A0) := R0.out.below b (by have := Zw1.out; have := Zw2.out; omega)
    replace R1 : Hid (Rd w3 w.heap.size (.slice ao1 A1.length cap1) A1) := R1.out.below b (by have := Zw1.out; have := Zw2.out; omega)
    replace XP0 : Hid (Bx w3 w.heap.size (.slice ao0 A0.length cap0)) := XP0.out.kept b
    replace cXP0 : w3.cell? ⟨w.heap.size, 0, none⟩ = some (.slice ao0 A0.length cap0) := XP0.out.cell
    replace XP1 : Hid (Bx w3 (w.heap.size + 1) (.slice ao1 A1.length cap1)) := XP1.out.kept b
    replace cXP1 : w3.cell? ⟨(w.heap.size + 1), 0, none⟩ = some (.slice ao1 A1.length cap1) := XP1.out.cell
    replace XR : Hid (Bx w3 (w.heap.size + 1 + 1) (.slice none 0 0)) := XR.out.kept b
    replace cXR : w3.cell? ⟨(w.heap.size + 1 + 1), 0, none⟩ = some (.slice none 0 0) := XR.out.cell
    replace fXR : w3.frozen? ⟨(w.heap.size + 1 + 1), 0, none⟩ = false := XR.out.free
    clear b
    cases hv1 : over A1 a2 with
    | false =>
      have Y := out_no B0.out (by omega) XR.out
      have HR : Hid (AnsI (R A0 A1 a2) (ok A0 A1 a2) w (.returned (.tuple #[.agg #[.slice none 0 0], .bool false])) (w3.setCell ⟨(w.heap.size + 1 + 1), 0, none⟩ (.slice none 0 0))) := by
        have e1 : R A0 A1 a2 = [] := by simp [R, Hhv0.out, hv1]
        have e2 : ok A0 A1 a2 = false := by simp [ok, Hhv0.out, hv1]
        rw [e1, e2]; exact Y.1
      have y := Y.2
      clear Y
      go_wp2_with fail
      exact bodyPost_ret (v := .tuple #[.agg #[.slice none 0 0], .bool false]) (by simp [results, Try.results61, y, go_sem]) rfl HR.out
    | true =>
      have Hhv1 : Hid (over A1 a2 = true) := hv1
      clear hv1
      have V0 := over_val Hhv0.out
      have V1 := over_val Hhv1.out
      have PR := isP_le V0.1
      have HA : Hid (1 ≤ A0.length ∧ A0.length ≤ 40) := ⟨V0.2.1.1, by have := V0.2.1.2.1; omega⟩
      have HB : Hid (1 ≤ A1.length ∧ A1.length ≤ 40) := ⟨V1.2.1.1, by have := V1.2.1.2.1; omega⟩
      have HM : Hid (∀ i k, -1000000000000 ≤ at' A0 i * at' A1 k ∧ at' A0 i * at' A1 k ≤ 1000000000000) := over_bd V0.2.2 V1.2.2 PR
      have HL : Hid (prod A0 A1 ≠ [] ∧ (prod A0 A1).length ≤ 1000) := ⟨prod_ne HA.out.1 HB.out.1, by rw [prod_len]; have := HA.out; have := HB.out; omega⟩
      have HP : Hid (1 ≤ a2 ∧ a2 ≤ 1000000) := ⟨by omega, by omega⟩
      clear V0 V1 PR
      go_wp2_with fail
      refine (pover_any (R0.out.ls (by have := Zw1.out; have := Zw2.out; have := Zw3.out; omega)) (R1.out.ls (by have := Zw1.out; have := Zw2.out; have := Zw3.out; omega)) HA.out HB.out HM.out a2 HP.out).mono ?_
      rintro e w4 ⟨v, rfl, o, b⟩
      obtain ⟨Ta, Tc, rfl⟩ := o.shape
      have Zw4 : Hid (w3.heap.size ≤ w4.heap.size) := b.size
      replace B0 : Hid (Below w.heap.size w w4) := B0.out.trans (b.mono (by have := Zw1.out; have := Zw2.out; have := Zw3.out; omega))
      replace B1 : Hid (Below w1.heap.size w1 w4) := B1.out.trans (b.mono (by have := Zw2.out; have := Zw3.out; omega))
      replace R0 : Hid (Rd w4 w.heap.size (.slice ao0 A0.length cap0) A0) := R0.out.below b (by have := Zw1.out; have := Zw2.out; have := Zw3.out; omega)
      replace R1 : Hid (Rd w4 w.heap.size (.slice ao1 A1.length cap1) A1) := R1.out.below b (by have := Zw1.out; have := Zw2.out; have := Zw3.out; omega)
      replace XP0 : Hid (Bx w4 w.heap.size (.slice ao0 A0.length cap0)) := XP0.out.kept b
      replace cXP0 : w4.cell? ⟨w.heap.size, 0, none⟩ = some (.slice ao0 A0.length cap0) := XP0.out.cell
      replace XP1 : Hid (Bx w4 (w.heap.size + 1) (.slice ao1 A1.length cap1)) := XP1.out.kept b
      replace cXP1 : w4.cell? ⟨(w.heap.size + 1), 0, none⟩ = some (.slice ao1 A1.length cap1) := XP1.out.cell
      replace XR : Hid (Bx w4 (w.heap.size + 1 + 1) (.slice none 0 0)) := XR.out.kept b
      replace cXR : w4.cell? ⟨(w.heap.size + 1 + 1), 0, none⟩ = some (.slice none 0 0) := XR.out.cell
      replace fXR : w4.frozen? ⟨(w.heap.size + 1 + 1), 0, none⟩ = false := XR.out.free
      have OT : Hid (Own w4 w3.heap.size w4.heap.size (.slice Ta (trim (mods (prod A0 A1) a2)).length Tc) (trim (mods (prod A0 A1) a2))) := o
      clear o b
      go_wp2_with fail
      refine (wo_any (w0 := w1) (OT.out.wide (by have := Zw2.out; have := Zw3.out; omega) (Nat.le_refl _)) B1.out (fun e => by have := trim_pos (mods (prod A0 A1) a2); rw [e] at this; simp at this)).mono ?_
      rintro e w5 ⟨_, rfl, ⟨s, rfl, o⟩, b⟩
      obtain ⟨ra, rc, rfl⟩ := o.shape
      replace XR : Hid (Bx w5 (w.heap.size + 1 + 1) (.slice none 0 0)) := XR1.out.below b LR.out
      replace cXR : w5.cell? ⟨(w.heap.size + 1 + 1), 0, none⟩ = some (.slice none 0 0) := XR.out.cell
      replace fXR : w5.frozen? ⟨(w.heap.size + 1 + 1), 0, none⟩ = false := XR.out.free
      replace B0 : Hid (Below w.heap.size w w5) := BW.out.trans (b.mono (by have := Zw1.out; omega))
      replace B1 : Hid (Below w1.heap.size w1 w5) := b
      clear b
      have Y := out_yes (ok := val (trim (trim (mods (prod A0 A1) a2)))) (W1 := w1) (w := w) (r := (w.heap.size + 1 + 1)) BW.out (by omega) LR.out XR.out o B1.out
      have HR : Hid (AnsI (R A0 A1 a2) (ok A0 A1 a2) w (.returned (.tuple #[.agg #[.slice ra (gv (trim (mods (prod A0 A1) a2))).length rc], .bool (val (trim (trim (mods (prod A0 A1) a2))))])) (w5.setCell ⟨(w.heap.size + 1 + 1), 0, none⟩ (.slice ra (gv (trim (mods (prod A0 A1) a2))).length rc))) := by
        have e1 : R A0 A1 a2 = gv (trim (mods (prod A0 A1) a2)) := by simp [R, Hhv0.out, Hhv1.out]
        have e2 : ok A0 A1 a2 = val (trim (trim (mods (prod A0 A1) a2))) := by simp [ok, Hhv0.out, Hhv1.out]
        rw [e1, e2]; exact Y.1
      have y := Y.2
      clear Y o
      generalize val (trim (trim (mods (prod A0 A1) a2))) = gb at *
      generalize (gv (trim (mods (prod A0 A1) a2))).length = gl at *
      go_wp2_with fail
      exact bodyPost_ret (v := .tuple #[.agg #[.slice ra gl rc], .bool gb]) (by simp [results, Try.results61, y, go_sem]) rfl HR.out
end Go.Proofs.Ytfhcfeafohcjpaa.fMulOver
