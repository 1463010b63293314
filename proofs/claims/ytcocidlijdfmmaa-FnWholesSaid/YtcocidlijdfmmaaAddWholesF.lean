/- AddWholes: what both sides answer. -/
import Derived.Test.YtcocidlijdfmmaaFnT
namespace Go.Proofs.Ytcocidlijdfmmaa.fAddWholes
open Go.RowKit Go.Pl Go.Proofs.Ytcocidlijdfmmaa.wh
def rg (x : Int) : Bool := decide (-1000 ≤ x ∧ x ≤ 1000)
theorem rg_i (x : Int) (w : World) : Calls Try.prog 25 #[.int .i64 x, .int .i64 (-1000), .int .i64 1000] w fun e w' => e = .returned (.bool (rg x)) ∧ w' = w := from_any x (-1000) 1000 w
theorem rg_bd {x : Int} (h : rg x = true) {L : List Int} (hv : Val L) (k : Nat) : -1000000000000 ≤ x * at' L k ∧ x * at' L k ≤ 1000000000000 := by
  have h1 := of_decide_eq_true h
  have h2 : inR (-1000000) 1000000 L := hv.2.2.1
  have := mul_le (A := 1000) (B := 1000000) (a := x) (b := at' L k) (by omega) (h2.at (by omega) (by omega) k)
  omega
def R (A B : List Int) (x y : Int) : List Int := if val A = true ∧ val B = true ∧ rg x = true ∧ rg y = true then gv (weigh A B x y) else []
def ok (A B : List Int) (x y : Int) : Bool := val A && (val B && (rg x && (rg y && val (trim (weigh A B x y)))))
theorem len (A B : List Int) (x y : Int) : (R A B x y).length ≤ 17 := by
  unfold R
  split
  · exact gv_len _
  · simp

set_option maxRecDepth 100000 in
set_option maxHeartbeats 4000000 in
theorem impl_any {A0 A1 : List Int} {v0 v1 : Value} {w : World} (h0 : Wh w v0 A0) (h1 : Wh w v1 A1) (a2 : Int) (_b2 : (Lit.int .i64 a2).wf = true) (a3 : Int) (_b3 : (Lit.int .i64 a3).wf = true) : Calls Try.prog 10 #[v0, v1, .int .i64 a2, .int .i64 a3] w (AnsI (R A0 A1 a2 a3) (ok A0 A1 a2 a3) w) := by
  obtain ⟨s0, rfl, h0⟩ := h0
  obtain ⟨ao0, cap0, rfl⟩ := h0.shape
  obtain ⟨s1, rfl, h1⟩ := h1
  obtain ⟨ao1, cap1, rfl⟩ := h1.shape
  have R0 : Hid (Rd w w.heap.size (.slice ao0 A0.length cap0) A0) := h0
  have R1 : Hid (Rd w w.heap.size (.slice ao1 A1.length cap1) A1) := h1
  clear h0 h1
  have B0 : Hid (Below w.heap.size w w) := Below.refl _ _
  obtain ⟨w1, hw⟩ : ∃ x, x = (((w.alloc (.cells #[(.slice ao0 A0.length cap0)] 26)).alloc (.cells #[(.slice ao1 A1.length cap1)] 26)).alloc (.cells #[.slice none 0 0] 26)) := ⟨_, rfl⟩
  have b : Below w.heap.size w w1 := by rw [hw]; exact new3 _ _ _ _ 
  have Zw1 : Hid (w.heap.size ≤ w1.heap.size) := b.size
  replace B0 : Hid (Below w.heap.size w w1) := B0.out.trans (b.mono (Nat.le_refl _))
  replace R0 : Hid (Rd w1 w.heap.size (.slice ao0 A0.length cap0) A0) := R0.out.below b (Nat.le_refl _)
  replace R1 : Hid (Rd w1 w.heap.size (.slice ao1 A1.length cap1) A1) := R1.out.below b (Nat.le_refl _)
  have XP0 : Hid (Bx w1 w.heap.size (.slice ao0 A0.length cap0)) := by rw [hw]; exact Bx.alloc (Bx.alloc (Bx.new _ _ _) _) _
  have cXP0 : w1.cell? ⟨w.heap.size, 0, none⟩ = some (.slice ao0 A0.length cap0) := XP0.out.cell
  have XP1 : Hid (Bx w1 (w.heap.size + 1) (.slice ao1 A1.length cap1)) := by rw [hw]; exact Bx.alloc (Bx.new2 _ _ _ _ ) _
  have cXP1 : w1.cell? ⟨(w.heap.size + 1), 0, none⟩ = some (.slice ao1 A1.length cap1) := XP1.out.cell
  have XR : Hid (Bx w1 (w.heap.size + 1 + 1) (.slice none 0 0)) := by rw [hw]; exact Bx.new3 _ _ _ _ _ 
  have cXR : w1.cell? ⟨(w.heap.size + 1 + 1), 0, none⟩ = some (.slice none 0 0) := XR.out.cell
  have fXR : w1.frozen? ⟨(w.heap.size + 1 + 1), 0, none⟩ = false := XR.out.free
  have B1 : Hid (Below w1.heap.size w1 w1) := Below.refl _ _
  have BW : Hid (Below w.heap.size w w1) := B0.out
  have LR : Hid ((w.heap.size + 1 + 1) < w1.heap.size) := XR.out.lt
  have XR1 : Hid (Bx w1 (w.heap.size + 1 + 1) (.slice none 0 0)) := XR.out
  clear b
  go_enter Try.func10, Try.ntmps10
  go_wp2_with fail
  rw [← hw]
  clear hw
  refine (valid_any ⟨_, rfl, (R0.out.ls (by have := Zw1.out; omega))⟩).mono ?_
  rintro e w2 ⟨rfl, b⟩
  have Zw2 : Hid (w1.heap.size ≤ w2.heap.size) := b.size
  replace B0 : Hid (Below w.heap.size w w2) := B0.out.trans (b.mono (by have := Zw1.out; omega))
  replace B1 : Hid (Below w1.heap.size w1 w2) := B1.out.trans (b.mono (Nat.le_refl _))
  replace R0 : Hid (Rd w2 w.heap.size (.slice ao0 A0.length cap0) A0) := R0.out.below b (by have := Zw1.out; omega)
  replace R1 : Hid (Rd w2 w.heap.size (.slice ao1 A1.length cap1) A1) := R1.out.below b (by have := Zw1.out; omega)
  replace XP0 : Hid (Bx w2 w.heap.size (.slice ao0 A0.length cap0)) := XP0.out.kept b
  replace cXP0 : w2.cell? ⟨w.heap.size, 0, none⟩ = some (.slice ao0 A0.length cap0) := XP0.out.cell
  replace XP1 : Hid (Bx w2 (w.heap.size + 1) (.slice ao1 A1.length cap1)) := XP1.out.kept b
  replace cXP1 : w2.cell? ⟨(w.heap.size + 1), 0, none⟩ = some (.slice ao1 A1.length cap1) := XP1.out.cell
  replace XR : Hid (Bx w2 (w.heap.size + 1 + 1) (.slice none 0 0)) := XR.out.kept b
  replace cXR : w2.cell? ⟨(w.heap.size + 1 + 1), 0, none⟩ = some (.slice none 0 0) := XR.out.cell
  replace fXR : w2.frozen? ⟨(w.heap.size + 1 + 1), 0, none⟩ = false := XR.out.free
  clear b
  cases hv0 : val A0 with
  | false =>
    have Y := out_no B0.out (by omega) XR.out
    have HR : Hid (AnsI (R A0 A1 a2 a3) (ok A0 A1 a2 a3) w (.returned (.tuple #[.agg #[.slice none 0 0], .bool false])) (w2.setCell ⟨(w.heap.size + 1 + 1), 0, none⟩ (.slice none 0 0))) := by
      have e1 : R A0 A1 a2 a3 = [] := by simp [R, hv0]
      have e2 : ok A0 A1 a2 a3 = false := by simp [ok, hv0]
      rw [e1, e2]; exact Y.1
    have y := Y.2
    clear Y
    go_wp2_with fail
    exact bodyPost_ret (v := .tuple #[.agg #[.slice none 0 0], .bool false]) (by simp [results, Try.results10, y, go_sem]) rfl HR.out
  | true =>
    have Hhv0 : Hid (val A0 = true) := hv0
    clear hv0
    go_wp2_with fail
    refine (valid_any ⟨_, rfl, (R1.out.ls (by have := Zw1.out; have := Zw2.out; omega))⟩).mono ?_
    rintro e w3 ⟨rfl, b⟩
    have Zw3 : Hid (w2.heap.size ≤ w3.heap.size) := b.size
    replace B0 : Hid (Below w.heap.size w w3) := B0.out.trans (b.mono (by have := Zw1.out; have := Zw2.out; omega))
    replace B1 : Hid (Below w1.heap.size w1 w3) := B1.out.trans (b.mono (by have := Zw2.out; omega))
    replace R0 : Hid (Rd w3 w.heap.size (.slice ao0 A0.length cap0) A0) := R0.out.below b (by have := Zw1.out; have := Zw2.out; omega)
    replace R1 : Hid (Rd w3 w.heap.size (.slice ao1 A1.length cap1) A1) := R1.out.below b (by have := Zw1.out; have := Zw2.out; omega)
    replace XP0 : Hid (Bx w3 w.heap.size (.slice ao0 A0.length cap0)) := XP0.out.kept b
    replace cXP0 : w3.cell? ⟨w.heap.size, 0, none⟩ = some (.slice ao0 A0.length cap0) := XP0.out.cell
    replace XP1 : Hid (Bx w3 (w.heap.size + 1) (.slice ao1 A1.length cap1)) := XP1.out.kept b
    replace cXP1 : w3.cell? ⟨(w.heap.size + 1), 0, none⟩ = some (.slice ao1 A1.length cap1) := XP1.out.cell
    replace XR : Hid (Bx w3 (w.heap.size + 1 + 1) (.slice none 0 0)) := XR.out.kept b
    replace cXR : w3.cell? ⟨(w.heap.size + 1 + 1), 0, none⟩ = some (.slice none 0 0) := XR.out.cell
    replace fXR : w3.frozen? ⟨(w.heap.size + 1 + 1), 0, none⟩ = false := XR.out.free
    clear b
    cases hv1 : val A1 with
    | false =>
      have Y := out_no B0.out (by omega) XR.out
      have HR : Hid (AnsI (R A0 A1 a2 a3) (ok A0 A1 a2 a3) w (.returned (.tuple #[.agg #[.slice none 0 0], .bool false])) (w3.setCell ⟨(w.heap.size + 1 + 1), 0, none⟩ (.slice none 0 0))) := by
        have e1 : R A0 A1 a2 a3 = [] := by simp [R, Hhv0.out, hv1]
        have e2 : ok A0 A1 a2 a3 = false := by simp [ok, Hhv0.out, hv1]
        rw [e1, e2]; exact Y.1
      have y := Y.2
      clear Y
      go_wp2_with fail
      exact bodyPost_ret (v := .tuple #[.agg #[.slice none 0 0], .bool false]) (by simp [results, Try.results10, y, go_sem]) rfl HR.out
    | true =>
      have Hhv1 : Hid (val A1 = true) := hv1
      clear hv1
      go_wp2_with fail
      refine (rg_i a2 _).mono ?_
      rintro e w0 ⟨rfl, hw0⟩
      rw [hw0]
      clear hw0
      cases hx : rg a2 with
      | false =>
        have Y := out_no B0.out (by omega) XR.out
        have HR : Hid (AnsI (R A0 A1 a2 a3) (ok A0 A1 a2 a3) w (.returned (.tuple #[.agg #[.slice none 0 0], .bool false])) (w3.setCell ⟨(w.heap.size + 1 + 1), 0, none⟩ (.slice none 0 0))) := by
          have e1 : R A0 A1 a2 a3 = [] := by simp [R, Hhv0.out, Hhv1.out, hx]
          have e2 : ok A0 A1 a2 a3 = false := by simp [ok, Hhv0.out, Hhv1.out, hx]
          rw [e1, e2]; exact Y.1
        have y := Y.2
        clear Y
        go_wp2_with fail
        exact bodyPost_ret (v := .tuple #[.agg #[.slice none 0 0], .bool false]) (by simp [results, Try.results10, y, go_sem]) rfl HR.out
      | true =>
        have Hhx : Hid (rg a2 = true) := hx
        clear hx
        go_wp2_with fail
        refine (rg_i a3 _).mono ?_
        rintro e w0 ⟨rfl, hw0⟩
        rw [hw0]
        clear hw0
        cases hy : rg a3 with
        | false =>
          have Y := out_no B0.out (by omega) XR.out
          have HR : Hid (AnsI (R A0 A1 a2 a3) (ok A0 A1 a2 a3) w (.returned (.tuple #[.agg #[.slice none 0 0], .bool false])) (w3.setCell ⟨(w.heap.size + 1 + 1), 0, none⟩ (.slice none 0 0))) := by
            have e1 : R A0 A1 a2 a3 = [] := by simp [R, Hhv0.out, Hhv1.out, Hhx.out, hy]
            have e2 : ok A0 A1 a2 a3 = false := by simp [ok, Hhv0.out, Hhv1.out, Hhx.out, hy]
            rw [e1, e2]; exact Y.1
          have y := Y.2
          clear Y
          go_wp2_with fail
          exact bodyPost_ret (v := .tuple #[.agg #[.slice none 0 0], .bool false]) (by simp [results, Try.results10, y, go_sem]) rfl HR.out
        | true =>
          have Hhy : Hid (rg a3 = true) := hy
          clear hy
          have V0 : Val A0 := val_iff.1 Hhv0.out
          have V1 : Val A1 := val_iff.1 Hhv1.out
          have HA : Hid (1 ≤ A0.length ∧ A0.length ≤ 40) := ⟨V0.1, by have := V0.2.1; omega⟩
          have HB : Hid (1 ≤ A1.length ∧ A1.length ≤ 40) := ⟨V1.1, by have := V1.2.1; omega⟩
          have HX : Hid (∀ k, -1000000000000 ≤ a2 * at' A0 k ∧ a2 * at' A0 k ≤ 1000000000000) := rg_bd Hhx.out V0
          have HY : Hid (∀ k, -1000000000000 ≤ a3 * at' A1 k ∧ a3 * at' A1 k ≤ 1000000000000) := rg_bd Hhy.out V1
          clear V0 V1
          go_wp2_with fail
          refine (weighed_any (R0.out.ls (by have := Zw1.out; have := Zw2.out; have := Zw3.out; omega)) (R1.out.ls (by have := Zw1.out; have := Zw2.out; have := Zw3.out; omega)) HA.out HB.out a2 a3 HX.out HY.out).mono ?_
          rintro e w4 ⟨v, rfl, o, b⟩
          obtain ⟨Ta, Tc, rfl⟩ := o.shape
          have Zw4 : Hid (w3.heap.size ≤ w4.heap.size) := b.size
          replace B0 : Hid (Below w.heap.size w w4) := B0.out.trans (b.mono (by have := Zw1.out; have := Zw2.out; have := Zw3.out; omega))
          replace B1 : Hid (Below w1.heap.size w1 w4) := B1.out.trans (b.mono (by have := Zw2.out; have := Zw3.out; omega))
          replace R0 : Hid (Rd w4 w.heap.size (.slice ao0 A0.length cap0) A0) := R0.out.below b (by have := Zw1.out; have := Zw2.out; have := Zw3.out; omega)
          replace R1 : Hid (Rd w4 w.heap.size (.slice ao1 A1.length cap1) A1) := R1.out.below b (by have := Zw1.out; have := Zw2.out; have := Zw3.out; omega)
          replace XP0 : Hid (Bx w4 w.heap.size (.slice ao0 A0.length cap0)) := XP0.out.kept b
          replace cXP0 : w4.cell? ⟨w.heap.size, 0, none⟩ = some (.slice ao0 A0.length cap0) := XP0.out.cell
          replace XP1 : Hid (Bx w4 (w.heap.size + 1) (.slice ao1 A1.length cap1)) := XP1.out.kept b
          replace cXP1 : w4.cell? ⟨(w.heap.size + 1), 0, none⟩ = some (.slice ao1 A1.length cap1) := XP1.out.cell
          replace XR : Hid (Bx w4 (w.heap.size + 1 + 1) (.slice none 0 0)) := XR.out.kept b
          replace cXR : w4.cell? ⟨(w.heap.size + 1 + 1), 0, none⟩ = some (.slice none 0 0) := XR.out.cell
          replace fXR : w4.frozen? ⟨(w.heap.size + 1 + 1), 0, none⟩ = false := XR.out.free
          have OT : Hid (Own w4 w3.heap.size w4.heap.size (.slice Ta (weigh A0 A1 a2 a3).length Tc) (weigh A0 A1 a2 a3)) := o
          clear o b
          go_wp2_with fail
          refine (wo_any (w0 := w1) (OT.out.wide (by have := Zw2.out; have := Zw3.out; omega) (Nat.le_refl _)) B1.out (fun e => by have := weigh_len A0 A1 a2 a3; rw [e] at this; simp at this; have := HA.out; omega)).mono ?_
          rintro e w5 ⟨_, rfl, ⟨s, rfl, o⟩, b⟩
          obtain ⟨ra, rc, rfl⟩ := o.shape
          replace XR : Hid (Bx w5 (w.heap.size + 1 + 1) (.slice none 0 0)) := XR1.out.below b LR.out
          replace cXR : w5.cell? ⟨(w.heap.size + 1 + 1), 0, none⟩ = some (.slice none 0 0) := XR.out.cell
          replace fXR : w5.frozen? ⟨(w.heap.size + 1 + 1), 0, none⟩ = false := XR.out.free
          replace B0 : Hid (Below w.heap.size w w5) := BW.out.trans (b.mono (by have := Zw1.out; omega))
          replace B1 : Hid (Below w1.heap.size w1 w5) := b
          clear b
          have Y := out_yes (ok := val (trim (weigh A0 A1 a2 a3))) (W1 := w1) (w := w) (r := (w.heap.size + 1 + 1)) BW.out (by omega) LR.out XR.out o B1.out
          have HR : Hid (AnsI (R A0 A1 a2 a3) (ok A0 A1 a2 a3) w (.returned (.tuple #[.agg #[.slice ra (gv (weigh A0 A1 a2 a3)).length rc], .bool (val (trim (weigh A0 A1 a2 a3)))])) (w5.setCell ⟨(w.heap.size + 1 + 1), 0, none⟩ (.slice ra (gv (weigh A0 A1 a2 a3)).length rc))) := by
            have e1 : R A0 A1 a2 a3 = gv (weigh A0 A1 a2 a3) := by simp [R, Hhv0.out, Hhv1.out, Hhx.out, Hhy.out]
            have e2 : ok A0 A1 a2 a3 = val (trim (weigh A0 A1 a2 a3)) := by simp [ok, Hhv0.out, Hhv1.out, Hhx.out, Hhy.out]
            rw [e1, e2]; exact Y.1
          have y := Y.2
          clear Y o
          generalize val (trim (weigh A0 A1 a2 a3)) = gb at *
          generalize (gv (weigh A0 A1 a2 a3)).length = gl at *
          go_wp2_with fail
          exact bodyPost_ret (v := .tuple #[.agg #[.slice ra gl rc], .bool gb]) (by simp [results, Try.results10, y, go_sem]) rfl HR.out
end Go.Proofs.Ytcocidlijdfmmaa.fAddWholes
