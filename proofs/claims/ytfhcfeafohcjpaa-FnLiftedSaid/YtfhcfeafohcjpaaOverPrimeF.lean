/- OverPrime: what both sides answer. -/
import Derived.Test.YtfhcfeafohcjpaaFnO
namespace Go.Proofs.Ytfhcfeafohcjpaa.fOverPrime
open Go.RowKit Go.Pl Go.Proofs.Ytfhcfeafohcjpaa.wh
def R (A : List Int) (p : Int) : List Int := if val A = true ∧ isP p = true then gv (trim (mods A p)) else []
def ok (A : List Int) (p : Int) : Bool := val A && (isP p && val (trim (trim (mods A p))))
theorem len (A : List Int) (p : Int) : (R A p).length ≤ 17 := by
  unfold R
  split
  · exact gv_len _
  · simp

set_option maxRecDepth 100000 in
set_option maxHeartbeats 1600000 in
theorem impl_any {A0 : List Int} {v0 : Value} {w : World} (h0 : Wh w v0 A0) (a1 : Int) (_b1 : (Lit.int .i64 a1).wf = true) : Calls Try.prog 60 #[v0, .int .i64 a1] w (AnsI (R A0 a1) (ok A0 a1) w) := by
  obtain ⟨s0, rfl, h0⟩ := h0
  obtain ⟨ao0, cap0, rfl⟩ := h0.shape
  have R0 : Hid (Rd w w.heap.size (.slice ao0 A0.length cap0) A0) := h0
  clear h0
  have B0 : Hid (Below w.heap.size w w) := Below.refl _ _
  obtain ⟨w1, hw⟩ : ∃ x, x = ((w.alloc (.cells #[(.slice ao0 A0.length cap0)] 26)).alloc (.cells #[.slice none 0 0] 26)) := ⟨_, rfl⟩
  have b : Below w.heap.size w w1 := by rw [hw]; exact new2 _ _ _ 
  have Zw1 : Hid (w.heap.size ≤ w1.heap.size) := b.size
  replace B0 : Hid (Below w.heap.size w w1) := B0.out.trans (b.mono (Nat.le_refl _))
  replace R0 : Hid (Rd w1 w.heap.size (.slice ao0 A0.length cap0) A0) := R0.out.below b (Nat.le_refl _)
  have XP0 : Hid (Bx w1 w.heap.size (.slice ao0 A0.length cap0)) := by rw [hw]; exact Bx.alloc (Bx.new _ _ _) _
  have cXP0 : w1.cell? ⟨w.heap.size, 0, none⟩ = some (.slice ao0 A0.length cap0) := XP0.out.cell
  have XR : Hid (Bx w1 (w.heap.size + 1) (.slice none 0 0)) := by rw [hw]; exact Bx.new2 _ _ _ _ 
  have cXR : w1.cell? ⟨(w.heap.size + 1), 0, none⟩ = some (.slice none 0 0) := XR.out.cell
  have fXR : w1.frozen? ⟨(w.heap.size + 1), 0, none⟩ = false := XR.out.free
  have B1 : Hid (Below w1.heap.size w1 w1) := Below.refl _ _
  have BW : Hid (Below w.heap.size w w1) := B0.out
  have LR : Hid ((w.heap.size + 1) < w1.heap.size) := XR.out.lt
  have XR1 : Hid (Bx w1 (w.heap.size + 1) (.slice none 0 0)) := XR.out
  clear b
  go_enter Try.func60, Try.ntmps60
  go_wp2_with fail
  rw [← hw]
  clear hw
  refine (iprime_any a1 _).mono ?_
  rintro e w0 ⟨rfl, hw0⟩
  rw [hw0]
  clear hw0
  cases hp : isP a1 with
  | false =>
    have Y := out_no B0.out (by omega) XR.out
    have HR : Hid (AnsI (R A0 a1) (ok A0 a1) w (.returned (.tuple #[.agg #[.slice none 0 0], .bool false])) (w1.setCell ⟨(w.heap.size + 1), 0, none⟩ (.slice none 0 0))) := by
      have e1 : R A0 a1 = [] := by simp [R, hp]
      have e2 : ok A0 a1 = false := by simp [ok, hp]
      rw [e1, e2]; exact Y.1
    have y := Y.2
    clear Y
    go_wp2_with fail
    exact bodyPost_ret (v := .tuple #[.agg #[.slice none 0 0], .bool false]) (by simp [results, Try.results60, y, go_sem]) rfl HR.out
  | true =>
    have Hhp : Hid (isP a1 = true) := hp
    clear hp
    go_wp2_with fail
    refine (valid_any ⟨_, rfl, (R0.out.ls (by have := Zw1.out; omega))⟩).mono ?_
    rintro e w2 ⟨rfl, b⟩
    have Zw2 : Hid (w1.heap.size ≤ w2.heap.size) := b.size
    replace B0 : Hid (Below w.heap.size w w2) := B0.out.trans (b.mono (by have := Zw1.out; omega))
    replace B1 : Hid (Below w1.heap.size w1 w2) := B1.out.trans (b.mono (Nat.le_refl _))
    replace R0 : Hid (Rd w2 w.heap.size (.slice ao0 A0.length cap0) A0) := R0.out.below b (by have := Zw1.out; omega)
    replace XP0 : Hid (Bx w2 w.heap.size (.slice ao0 A0.length cap0)) := XP0.out.kept b
    replace cXP0 : w2.cell? ⟨w.heap.size, 0, none⟩ = some (.slice ao0 A0.length cap0) := XP0.out.cell
    replace XR : Hid (Bx w2 (w.heap.size + 1) (.slice none 0 0)) := XR.out.kept b
    replace cXR : w2.cell? ⟨(w.heap.size + 1), 0, none⟩ = some (.slice none 0 0) := XR.out.cell
    replace fXR : w2.frozen? ⟨(w.heap.size + 1), 0, none⟩ = false := XR.out.free
    clear b
    cases hv0 : val A0 with
    | false =>
      have Y := out_no B0.out (by omega) XR.out
      have HR : Hid (AnsI (R A0 a1) (ok A0 a1) w (.returned (.tuple #[.agg #[.slice none 0 0], .bool false])) (w2.setCell ⟨(w.heap.size + 1), 0, none⟩ (.slice none 0 0))) := by
        have e1 : R A0 a1 = [] := by simp [R, Hhp.out, hv0]
        have e2 : ok A0 a1 = false := by simp [ok, Hhp.out, hv0]
        rw [e1, e2]; exact Y.1
      have y := Y.2
      clear Y
      go_wp2_with fail
      exact bodyPost_ret (v := .tuple #[.agg #[.slice none 0 0], .bool false]) (by simp [results, Try.results60, y, go_sem]) rfl HR.out
    | true =>
      have Hhv0 : Hid (val A0 = true) := hv0
      clear hv0
      have V0 : Val A0 := val_iff.1 Hhv0.out
      have HA : Hid (A0 ≠ [] ∧ A0.length ≤ 17) := ⟨V0.ne, V0.2.1⟩
      have HP : Hid (1 ≤ a1 ∧ a1 ≤ 1000000) := by (have := isP_le Hhp.out; exact ⟨by omega, by omega⟩)
      clear V0
      go_wp2_with fail
      refine (tover_any (R0.out.ls (by have := Zw1.out; have := Zw2.out; omega)) HA.out.1 (by have := HA.out.2; omega) a1 HP.out).mono ?_
      rintro e w3 ⟨v, rfl, o, b⟩
      obtain ⟨Ta, Tc, rfl⟩ := o.shape
      have Zw3 : Hid (w2.heap.size ≤ w3.heap.size) := b.size
      replace B0 : Hid (Below w.heap.size w w3) := B0.out.trans (b.mono (by have := Zw1.out; have := Zw2.out; omega))
      replace B1 : Hid (Below w1.heap.size w1 w3) := B1.out.trans (b.mono (by have := Zw2.out; omega))
      replace R0 : Hid (Rd w3 w.heap.size (.slice ao0 A0.length cap0) A0) := R0.out.below b (by have := Zw1.out; have := Zw2.out; omega)
      replace XP0 : Hid (Bx w3 w.heap.size (.slice ao0 A0.length cap0)) := XP0.out.kept b
      replace cXP0 : w3.cell? ⟨w.heap.size, 0, none⟩ = some (.slice ao0 A0.length cap0) := XP0.out.cell
      replace XR : Hid (Bx w3 (w.heap.size + 1) (.slice none 0 0)) := XR.out.kept b
      replace cXR : w3.cell? ⟨(w.heap.size + 1), 0, none⟩ = some (.slice none 0 0) := XR.out.cell
      replace fXR : w3.frozen? ⟨(w.heap.size + 1), 0, none⟩ = false := XR.out.free
      have OT : Hid (Own w3 w2.heap.size w3.heap.size (.slice Ta (trim (mods A0 a1)).length Tc) (trim (mods A0 a1))) := o
      clear o b
      go_wp2_with fail
      refine (wo_any (w0 := w1) (OT.out.wide (by have := Zw2.out; omega) (Nat.le_refl _)) B1.out (fun e => by have := trim_pos (mods A0 a1); rw [e] at this; simp at this)).mono ?_
      rintro e w4 ⟨_, rfl, ⟨s, rfl, o⟩, b⟩
      obtain ⟨ra, rc, rfl⟩ := o.shape
      replace XR : Hid (Bx w4 (w.heap.size + 1) (.slice none 0 0)) := XR1.out.below b LR.out
      replace cXR : w4.cell? ⟨(w.heap.size + 1), 0, none⟩ = some (.slice none 0 0) := XR.out.cell
      replace fXR : w4.frozen? ⟨(w.heap.size + 1), 0, none⟩ = false := XR.out.free
      replace B0 : Hid (Below w.heap.size w w4) := BW.out.trans (b.mono (by have := Zw1.out; omega))
      replace B1 : Hid (Below w1.heap.size w1 w4) := b
      clear b
      have Y := out_yes (ok := val (trim (trim (mods A0 a1)))) (W1 := w1) (w := w) (r := (w.heap.size + 1)) BW.out (by omega) LR.out XR.out o B1.out
      have HR : Hid (AnsI (R A0 a1) (ok A0 a1) w (.returned (.tuple #[.agg #[.slice ra (gv (trim (mods A0 a1))).length rc], .bool (val (trim (trim (mods A0 a1))))])) (w4.setCell ⟨(w.heap.size + 1), 0, none⟩ (.slice ra (gv (trim (mods A0 a1))).length rc))) := by
        have e1 : R A0 a1 = gv (trim (mods A0 a1)) := by simp [R, Hhp.out, Hhv0.out]
        have e2 : ok A0 a1 = val (trim (trim (mods A0 a1))) := by simp [ok, Hhp.out, Hhv0.out]
        rw [e1, e2]; exact Y.1
      have y := Y.2
      clear Y o
      generalize val (trim (trim (mods A0 a1))) = gb at *
      generalize (gv (trim (mods A0 a1))).length = gl at *
      go_wp2_with fail
      exact bodyPost_ret (v := .tuple #[.agg #[.slice ra gl rc], .bool gb]) (by simp [results, Try.results60, y, go_sem]) rfl HR.out
end Go.Proofs.Ytfhcfeafohcjpaa.fOverPrime
