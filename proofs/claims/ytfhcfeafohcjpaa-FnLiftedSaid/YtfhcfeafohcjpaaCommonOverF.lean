/- CommonOver: what both sides answer. -/
import Derived.Test.YtfhcfeafohcjpaaCoF
namespace Go.Proofs.Ytfhcfeafohcjpaa.fCommonOver
open Go.RowKit Go.Pl Go.Proofs.Ytfhcfeafohcjpaa.wh
def C (A B : List Int) (p : Int) : List Int := mon (cgo p (mu B) A B) p
def R (A B : List Int) (p : Int) : List Int := if over A p = true ∧ over B p = true then gv (C A B p) else []
def ok (A B : List Int) (p : Int) : Bool := over A p && (over B p && val (trim (C A B p)))
theorem len (A B : List Int) (p : Int) : (R A B p).length ≤ 17 := by
  unfold R
  split
  · exact gv_len _
  · simp
theorem c_gd {A B : List Int} {p : Int} (hA : over A p = true) (hB : over B p = true) : Gd (C A B p) p :=
  Gd.mon (over_val hA).1 (cgo_gd (over_val hA).1 _ _ _ (Gd.of_over hA) (Gd.of_over hB))
theorem c_val {A B : List Int} {p : Int} (hA : over A p = true) (hB : over B p = true) : val (trim (C A B p)) = true ∧ gv (C A B p) = C A B p := by
  have hv := Gd.val (over_val hA).1 (c_gd hA hB)
  have h1 : val (trim (C A B p)) = true := by rw [trim_val hv]; exact val_iff.2 hv
  exact ⟨h1, by rw [gv_yes h1, trim_val hv]⟩

set_option maxRecDepth 100000 in
set_option maxHeartbeats 4000000 in
theorem impl_any {A0 A1 : List Int} {v0 v1 : Value} {w : World} (h0 : Wh w v0 A0) (h1 : Wh w v1 A1) (a2 : Int) (_b2 : (Lit.int .i64 a2).wf = true) : Calls Try.prog 62 #[v0, v1, .int .i64 a2] w (AnsI (R A0 A1 a2) (ok A0 A1 a2) w) := by
  obtain ⟨s0, rfl, h0⟩ := h0
  obtain ⟨ao0, cap0, rfl⟩ := h0.shape
  obtain ⟨s1, rfl, h1⟩ := h1
  obtain ⟨ao1, cap1, rfl⟩ := h1.shape
  have R0 : Hid (Rd w w.heap.size (.slice ao0 A0.length cap0) A0) := h0
  have R1 : Hid (Rd w w.heap.size (.slice ao1 A1.length cap1) A1) := h1
  clear h0 h1
  have B0 : Hid (Below w.heap.size w w) := Below.refl _ _
  obtain ⟨w1, hw⟩ : ∃ x, x = ((((w.alloc (.cells #[(.slice ao0 A0.length cap0)] 26)).alloc (.cells #[(.slice ao1 A1.length cap1)] 26)).alloc (.cells #[(.int .i64 a2)] 2)).alloc (.cells #[.slice none 0 0] 26)) := ⟨_, rfl⟩
  have b : Below w.heap.size w w1 := by rw [hw]; exact new4 _ _ _ _ _ 
  have Zw1 : Hid (w.heap.size ≤ w1.heap.size) := b.size
  replace B0 : Hid (Below w.heap.size w w1) := B0.out.trans (b.mono (Nat.le_refl _))
  replace R0 : Hid (Rd w1 w.heap.size (.slice ao0 A0.length cap0) A0) := R0.out.below b (Nat.le_refl _)
  replace R1 : Hid (Rd w1 w.heap.size (.slice ao1 A1.length cap1) A1) := R1.out.below b (Nat.le_refl _)
  have XP0 : Hid (Bx w1 w.heap.size (.slice ao0 A0.length cap0)) := by rw [hw]; exact Bx.alloc (Bx.alloc (Bx.alloc (Bx.new _ _ _) _) _) _
  have cXP0 : w1.cell? ⟨w.heap.size, 0, none⟩ = some (.slice ao0 A0.length cap0) := XP0.out.cell
  have XP1 : Hid (Bx w1 (w.heap.size + 1) (.slice ao1 A1.length cap1)) := by rw [hw]; exact Bx.alloc (Bx.alloc (Bx.new2 _ _ _ _ ) _) _
  have cXP1 : w1.cell? ⟨(w.heap.size + 1), 0, none⟩ = some (.slice ao1 A1.length cap1) := XP1.out.cell
  have XP2 : Hid (Bx w1 (w.heap.size + 1 + 1) (.int .i64 a2)) := by rw [hw]; exact Bx.alloc (Bx.new3 _ _ _ _ _ ) _
  have cXP2 : w1.cell? ⟨(w.heap.size + 1 + 1), 0, none⟩ = some (.int .i64 a2) := XP2.out.cell
  have XR : Hid (Bx w1 (w.heap.size + 1 + 1 + 1) (.slice none 0 0)) := by rw [hw]; exact Bx.new4 _ _ _ _ _ _ 
  have cXR : w1.cell? ⟨(w.heap.size + 1 + 1 + 1), 0, none⟩ = some (.slice none 0 0) := XR.out.cell
  have fXR : w1.frozen? ⟨(w.heap.size + 1 + 1 + 1), 0, none⟩ = false := XR.out.free
  have B1 : Hid (Below w1.heap.size w1 w1) := Below.refl _ _
  have BW : Hid (Below w.heap.size w w1) := B0.out
  have LR : Hid ((w.heap.size + 1 + 1 + 1) < w1.heap.size) := XR.out.lt
  have XR1 : Hid (Bx w1 (w.heap.size + 1 + 1 + 1) (.slice none 0 0)) := XR.out
  clear b
  go_enter Try.func62, Try.ntmps62
  go_wp2_with fail
  rw [← hw]
  clear hw
  refine (iover_any ⟨_, rfl, (R0.out.ls (by have := Zw1.out; omega))⟩ a2).mono ?_
  rintro e w2 ⟨rfl, b⟩
  have Zw2 : Hid (w1.heap.size ≤ w2.heap.size) := b.size
  replace B0 : Hid (Below w.heap.size w w2) := B0.out.trans (b.mono (by have := Zw1.out; omega))
  replace B1 : Hid (Below w1.heap.size w1 w2) := B1.out.trans (b.mono (Nat.le_refl _))
  replace R0 : Hid (Rd w2 w.heap.size (.slice ao0 A0.length cap0) A0) := R0.out.below b (by have := Zw1.out; omega)
  replace R1 : Hid (Rd w2 w.heap.size (.slice ao1 A1.length cap1) A1) := R1.out.below b (by have := Zw1.out; omega)
  replace XP0 : Hid (Bx w2 w.heap.size (.slice ao0 A0.length cap0)) := XP0.out.kept b
  replace cXP0 : w2.cell? ⟨w.heap.size, 0, none⟩ = some (.slice ao0 A0.length cap0) := XP0.out.cell
  replace XP1 : Hid (Bx w2 (w.heap.size + 1) (.slice ao1 A1.length cap1)) := XP1.out.kept b
  replace cXP1 : w2.cell? ⟨(w.heap.size + 1), 0, none⟩ = some (.slice ao1 A1.length cap1) := XP1.out.cell
  replace XP2 : Hid (Bx w2 (w.heap.size + 1 + 1) (.int .i64 a2)) := XP2.out.kept b
  replace cXP2 : w2.cell? ⟨(w.heap.size + 1 + 1), 0, none⟩ = some (.int .i64 a2) := XP2.out.cell
  replace XR : Hid (Bx w2 (w.heap.size + 1 + 1 + 1) (.slice none 0 0)) := XR.out.kept b
  replace cXR : w2.cell? ⟨(w.heap.size + 1 + 1 + 1), 0, none⟩ = some (.slice none 0 0) := XR.out.cell
  replace fXR : w2.frozen? ⟨(w.heap.size + 1 + 1 + 1), 0, none⟩ = false := XR.out.free
  clear b
  cases hv0 : over A0 a2 with
  | false =>
    have Y := out_no B0.out (by omega) XR.out
    have HR : Hid (AnsI (R A0 A1 a2) (ok A0 A1 a2) w (.returned (.tuple #[.agg #[.slice none 0 0], .bool false])) (w2.setCell ⟨(w.heap.size + 1 + 1 + 1), 0, none⟩ (.slice none 0 0))) := by
      have e1 : R A0 A1 a2 = [] := by simp [R, hv0]
      have e2 : ok A0 A1 a2 = false := by simp [ok, hv0]
      rw [e1, e2]; exact Y.1
    have y := Y.2
    clear Y
    go_wp2_with fail
    exact bodyPost_ret (v := .tuple #[.agg #[.slice none 0 0], .bool false]) (by simp [results, Try.results62, y, go_sem]) rfl HR.out
  | true =>
    have Hhv0 : Hid (over A0 a2 = true) := hv0
    clear hv0
    go_wp2_with fail
    refine (iover_any ⟨_, rfl, (R1.out.ls (by have := Zw1.out; have := Zw2.out; omega))⟩ a2).mono ?_
    rintro e w3 ⟨rfl, b⟩
    have Zw3 : Hid (w2.heap.size ≤ w3.heap.size) := b.size
    replace B0 : Hid (Below w.heap.size w w3) := B0.out.trans (b.mono (by have := Zw1.out; have := Zw2.out; omega))
    replace B1 : Hid (Below w1.heap.size w1 w3) := B1.out.trans (b.mono (by have := Zw2.out; omega))
    replace R0 : Hid (Rd w3 w.heap.size (.slice ao0 A0.length cap0) A0) := R0.out.below b (by have := Zw1.out; have := Zw2.out; omega)
    replace R1 : Hid (Rd w3 w.heap.size (.slice ao1 A1.length cap1) A1) := R1.out.below b (by have := Zw1.out; have := Zw2.out; omega)
    replace XP0 : Hid (Bx w3 w.heap.size (.slice ao0 A0.length cap0)) := XP0.out.kept b
    replace cXP0 : w3.cell? ⟨w.heap.size, 0, none⟩ = some (.slice ao0 A0.length cap0) := XP0.out.cell
    replace XP1 : Hid (Bx w3 (w.heap.size + 1) (.slice ao1 A1.length cap1)) := XP1.out.kept b
    replace cXP1 : w3.cell? ⟨(w.heap.size + 1), 0, none⟩ = some (.slice ao1 A1.length cap1) := XP1.out.cell
    replace XP2 : Hid (Bx w3 (w.heap.size + 1 + 1) (.int .i64 a2)) := XP2.out.kept b
    replace cXP2 : w3.cell? ⟨(w.heap.size + 1 + 1), 0, none⟩ = some (.int .i64 a2) := XP2.out.cell
    replace XR : Hid (Bx w3 (w.heap.size + 1 + 1 + 1) (.slice none 0 0)) := XR.out.kept b
    replace cXR : w3.cell? ⟨(w.heap.size + 1 + 1 + 1), 0, none⟩ = some (.slice none 0 0) := XR.out.cell
    replace fXR : w3.frozen? ⟨(w.heap.size + 1 + 1 + 1), 0, none⟩ = false := XR.out.free
    clear b
    cases hv1 : over A1 a2 with
    | false =>
      have Y := out_no B0.out (by omega) XR.out
      have HR : Hid (AnsI (R A0 A1 a2) (ok A0 A1 a2) w (.returned (.tuple #[.agg #[.slice none 0 0], .bool false])) (w3.setCell ⟨(w.heap.size + 1 + 1 + 1), 0, none⟩ (.slice none 0 0))) := by
        have e1 : R A0 A1 a2 = [] := by simp [R, Hhv0.out, hv1]
        have e2 : ok A0 A1 a2 = false := by simp [ok, Hhv0.out, hv1]
        rw [e1, e2]; exact Y.1
      have y := Y.2
      clear Y
      go_wp2_with fail
      exact bodyPost_ret (v := .tuple #[.agg #[.slice none 0 0], .bool false]) (by simp [results, Try.results62, y, go_sem]) rfl HR.out
    | true =>
      have Hhv1 : Hid (over A1 a2 = true) := hv1
      clear hv1
      have HP : Hid (isP a2 = true) := (over_val Hhv0.out).1
      have GA : Hid (Gd A0 a2) := Gd.of_over Hhv0.out
      have GB : Hid (Gd A1 a2) := Gd.of_over Hhv1.out
      have HCG : Hid (Gd (C A0 A1 a2) a2) := c_gd Hhv0.out Hhv1.out
      have HCV : Hid (val (trim (C A0 A1 a2)) = true ∧ gv (C A0 A1 a2) = C A0 A1 a2) := c_val Hhv0.out Hhv1.out
      have HGG : Hid (Gd (cgo a2 (mu A1) A0 A1) a2) := cgo_gd HP.out _ _ _ GA.out GB.out
      go_wp2_with fail
      refine (gco_any XP2.out.cell XP2.out.lt HP.out (R0.out.ls (by have := Zw1.out; have := Zw2.out; have := Zw3.out; omega)) (R1.out.ls (by have := Zw1.out; have := Zw2.out; have := Zw3.out; omega)) GA.out GB.out).mono ?_
      rintro e w4 ⟨v, rfl, o, b⟩
      obtain ⟨Ta, Tc, rfl⟩ := o.shape
      have Zw4 : Hid (w3.heap.size ≤ w4.heap.size) := b.size
      replace B0 : Hid (Below w.heap.size w w4) := B0.out.trans (b.mono (by have := Zw1.out; have := Zw2.out; have := Zw3.out; omega))
      replace B1 : Hid (Below w1.heap.size w1 w4) := B1.out.trans (b.mono (by have := Zw2.out; have := Zw3.out; omega))
      replace R0 : Hid (Rd w4 w.heap.size (.slice ao0 A0.length cap0) A0) := R0.out.below b (by have := Zw1.out; have := Zw2.out; have := Zw3.out; omega)
      replace R1 : Hid (Rd w4 w.heap.size (.slice ao1 A1.length cap1) A1) := R1.out.below b (by have := Zw1.out; have := Zw2.out; have := Zw3.out; omega)
      replace XP0 : Hid (Bx w4 w.heap.size (.slice ao0 A0.length cap0)) := XP0.out.kept b
      replace cXP0 : w4.cell? ⟨w.heap.size, 0, none⟩ = some (.slice ao0 A0.length cap0) := XP0.out.cell
      replace XP1 : Hid (Bx w4 (w.heap.size + 1) (.slice ao1 A1.length cap1)) := XP1.out.kept b
      replace cXP1 : w4.cell? ⟨(w.heap.size + 1), 0, none⟩ = some (.slice ao1 A1.length cap1) := XP1.out.cell
      replace XP2 : Hid (Bx w4 (w.heap.size + 1 + 1) (.int .i64 a2)) := XP2.out.kept b
      replace cXP2 : w4.cell? ⟨(w.heap.size + 1 + 1), 0, none⟩ = some (.int .i64 a2) := XP2.out.cell
      replace XR : Hid (Bx w4 (w.heap.size + 1 + 1 + 1) (.slice none 0 0)) := XR.out.kept b
      replace cXR : w4.cell? ⟨(w.heap.size + 1 + 1 + 1), 0, none⟩ = some (.slice none 0 0) := XR.out.cell
      replace fXR : w4.frozen? ⟨(w.heap.size + 1 + 1 + 1), 0, none⟩ = false := XR.out.free
      have OT : Hid (Rd w4 w4.heap.size (.slice Ta (cgo a2 (mu A1) A0 A1).length Tc) (cgo a2 (mu A1) A0 A1)) := o
      clear o b
      go_wp2_with fail
      refine (imon_any (OT.out.ls (Nat.le_refl _)) HP.out HGG.out).mono ?_
      rintro e w5 ⟨v, rfl, o, b⟩
      obtain ⟨ra, rc, rfl⟩ := o.shape
      have Zw5 : Hid (w4.heap.size ≤ w5.heap.size) := b.size
      replace B0 : Hid (Below w.heap.size w w5) := B0.out.trans (b.mono (by have := Zw1.out; have := Zw2.out; have := Zw3.out; have := Zw4.out; omega))
      replace B1 : Hid (Below w1.heap.size w1 w5) := B1.out.trans (b.mono (by have := Zw2.out; have := Zw3.out; have := Zw4.out; omega))
      replace R0 : Hid (Rd w5 w.heap.size (.slice ao0 A0.length cap0) A0) := R0.out.below b (by have := Zw1.out; have := Zw2.out; have := Zw3.out; have := Zw4.out; omega)
      replace R1 : Hid (Rd w5 w.heap.size (.slice ao1 A1.length cap1) A1) := R1.out.below b (by have := Zw1.out; have := Zw2.out; have := Zw3.out; have := Zw4.out; omega)
      replace OT : Hid (Rd w5 w4.heap.size (.slice Ta (cgo a2 (mu A1) A0 A1).length Tc) (cgo a2 (mu A1) A0 A1)) := OT.out.below b (Nat.le_refl _)
      replace XP0 : Hid (Bx w5 w.heap.size (.slice ao0 A0.length cap0)) := XP0.out.kept b
      replace cXP0 : w5.cell? ⟨w.heap.size, 0, none⟩ = some (.slice ao0 A0.length cap0) := XP0.out.cell
      replace XP1 : Hid (Bx w5 (w.heap.size + 1) (.slice ao1 A1.length cap1)) := XP1.out.kept b
      replace cXP1 : w5.cell? ⟨(w.heap.size + 1), 0, none⟩ = some (.slice ao1 A1.length cap1) := XP1.out.cell
      replace XP2 : Hid (Bx w5 (w.heap.size + 1 + 1) (.int .i64 a2)) := XP2.out.kept b
      replace cXP2 : w5.cell? ⟨(w.heap.size + 1 + 1), 0, none⟩ = some (.int .i64 a2) := XP2.out.cell
      replace XR : Hid (Bx w5 (w.heap.size + 1 + 1 + 1) (.slice none 0 0)) := XR.out.kept b
      replace cXR : w5.cell? ⟨(w.heap.size + 1 + 1 + 1), 0, none⟩ = some (.slice none 0 0) := XR.out.cell
      replace fXR : w5.frozen? ⟨(w.heap.size + 1 + 1 + 1), 0, none⟩ = false := XR.out.free
      replace o := o.wide (lo' := w1.heap.size) (by have := Zw2.out; have := Zw3.out; have := Zw4.out; omega) (Nat.le_refl _)
      clear b
      have o2 : Own w5 w1.heap.size w5.heap.size (.slice ra (C A0 A1 a2).length rc) (C A0 A1 a2) := o
      have Y := out_yes (ok := true) (W1 := w1) (w := w) (r := (w.heap.size + 1 + 1 + 1)) BW.out (by omega) LR.out XR.out o2 B1.out
      have HR : Hid (AnsI (R A0 A1 a2) (ok A0 A1 a2) w (.returned (.tuple #[.agg #[.slice ra (C A0 A1 a2).length rc], .bool true])) (w5.setCell ⟨(w.heap.size + 1 + 1 + 1), 0, none⟩ (.slice ra (C A0 A1 a2).length rc))) := by
        have e1 : R A0 A1 a2 = (C A0 A1 a2) := by simp [R, HCV.out.2, Hhv0.out, Hhv1.out]
        have e2 : ok A0 A1 a2 = true := by simp [ok, HCV.out.1, Hhv0.out, Hhv1.out]
        rw [e1, e2]; exact Y.1
      have y := Y.2
      clear Y o o2
      have HLE : Hid ((mon (cgo a2 (mu A1) A0 A1) a2).length = (C A0 A1 a2).length) := rfl
      rw [HLE.out]
      generalize (C A0 A1 a2).length = gl at *
      go_wp2_with fail
      exact bodyPost_ret (v := .tuple #[.agg #[.slice ra gl rc], .bool true]) (by simp [results, Try.results62, y, go_sem]) rfl HR.out
end Go.Proofs.Ytfhcfeafohcjpaa.fCommonOver
