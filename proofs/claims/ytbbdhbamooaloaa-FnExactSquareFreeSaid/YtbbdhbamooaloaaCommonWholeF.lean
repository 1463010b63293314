/- CommonWhole: what both sides answer. -/
import Derived.Test.YtbbdhbamooaloaaCwG
import Derived.Deep.RegionHeld3
namespace Go.Proofs.Ytbbdhbamooaloaa.fCommonWhole
open Go.RowKit Go.Pl Go.Proofs.Ytbbdhbamooaloaa.wh
def R (A B : List Int) : List Int := if val A = true ∧ val B = true then (match CW A B with | some D => gv D | none => []) else []
def ok (A B : List Int) : Bool := val A && (val B && (match CW A B with | some D => val (trim D) | none => false))
theorem len (A B : List Int) : (R A B).length ≤ 17 := by
  unfold R
  split
  · split
    · exact gv_len _
    · simp
  · simp
theorem _root_.Go.Proofs.Ytbbdhbamooaloaa.wh.Rd.stay2 {w : World} {hi : Nat} {v : Value} {L : List Int} (h : Rd w hi v L) {g1 g2 : Nat} (h1 : hi ≤ g1) (h2 : hi ≤ g2) {u1 u2 : Value} : Rd ((w.setCell ⟨g1, 0, none⟩ u1).setCell ⟨g2, 0, none⟩ u2) hi v L :=
  h.below (B := hi) (((Below.refl hi w).setCell (p := ⟨g1, 0, none⟩) h1 _).setCell (p := ⟨g2, 0, none⟩) h2 _) (Nat.le_refl _)
theorem igcw2_any {va vb : Value} {A B : List Int} {w : World} (ha : Ls w va A) (hb : Ls w vb B) (hA : Val A) (hB : Val B) :
    Calls Try.prog 81 #[va, vb, .func (.func 65) #[] #[], .func (.func 82) #[] #[]] w
      fun e w' => ∃ ao n cap, e = .returned (.tuple #[.slice ao n cap, .bool (cgw (mv B) A B).isSome]) ∧ (∀ C, cgw (mv B) A B = some C → n = C.length ∧ Ls w' (.slice ao n cap) C) ∧ Below w.heap.size w w' :=
  (igcw_any ha hb hA hB).mono fun e w' ⟨⟨ao, n, cap, h⟩, hbl⟩ => by
    cases hc : cgw (mv B) A B with
    | none =>
      rw [hc] at h
      exact ⟨ao, n, cap, h, fun C hC => (by cases hC), hbl⟩
    | some C =>
      rw [hc] at h
      exact ⟨ao, C.length, cap, h.1, fun D hD => by obtain rfl := Option.some.inj hD; exact ⟨rfl, h.2⟩, hbl⟩
theorem CW_swap {A B : List Int} (h : A.length < B.length) : CW A B = (cgw (mv (prim A)) (prim B) (prim A)).map fun C => C.map (· * ((Int.gcd (content B) (content A) : Nat) : Int)) := by
  unfold CW lgr shr
  rw [if_pos h, if_pos h, Int.gcd_comm]
theorem CW_keep {A B : List Int} (h : ¬ A.length < B.length) : CW A B = (cgw (mv (prim B)) (prim A) (prim B)).map fun C => C.map (· * ((Int.gcd (content A) (content B) : Nat) : Int)) := by
  unfold CW lgr shr
  rw [if_neg h, if_neg h]

set_option maxRecDepth 100000 in
set_option maxHeartbeats 4000000 in
theorem spec_any {A0 A1 : List Int} {v0 v1 : Value} {w : World} (h0 : Wh w v0 A0) (h1 : Wh w v1 A1)  : Calls Try.prog 31 #[v0, v1] w (AnsI (R A0 A1) (ok A0 A1) w) := by
  obtain ⟨s0, rfl, h0⟩ := h0
  obtain ⟨ao0, cap0, rfl⟩ := h0.shape
  obtain ⟨s1, rfl, h1⟩ := h1
  obtain ⟨ao1, cap1, rfl⟩ := h1.shape
  have R0 : Hid (Rd w w.heap.size (.slice ao0 A0.length cap0) A0) := h0
  have R1 : Hid (Rd w w.heap.size (.slice ao1 A1.length cap1) A1) := h1
  clear h0 h1
  have B0 : Hid (Below w.heap.size w w) := Below.refl _ _
  obtain ⟨w1, hw⟩ : ∃ x, x = (((w.alloc (.cells #[(.slice ao0 A0.length cap0)] 29)).alloc (.cells #[(.slice ao1 A1.length cap1)] 29)).alloc (.cells #[.slice none 0 0] 29)) := ⟨_, rfl⟩
  have b : Below w.heap.size w w1 := by rw [hw]; exact new3 _ _ _ _ 
  have Zw1 : Hid (w.heap.size ≤ w1.heap.size) := b.size
  replace B0 : Hid (Below w.heap.size w w1) := B0.out.trans (b.mono (Nat.le_refl _))
  replace R0 : Hid (Rd w1 w.heap.size (.slice ao0 A0.length cap0) A0) := R0.out.below b (Nat.le_refl _)
  replace R1 : Hid (Rd w1 w.heap.size (.slice ao1 A1.length cap1) A1) := R1.out.below b (Nat.le_refl _)
  have XP0 : Hid (Bx w1 w.heap.size (.slice ao0 A0.length cap0)) := by rw [hw]; exact Bx.alloc (Bx.alloc (Bx.new _ _ _) _) _
  have cXP0 : w1.cell? ⟨w.heap.size, 0, none⟩ = some (.slice ao0 A0.length cap0) := XP0.out.cell
  have XP1 : Hid (Bx w1 (w.heap.size + 1) (.slice ao1 A1.length cap1)) := by rw [hw]; exact Bx.alloc (Bx.new2 _ _ _ _ ) _
  have cXP1 : w1.cell? ⟨(w.heap.size + 1), 0, none⟩ = some (.slice ao1 A1.length cap1) := XP1.out.cell
  have XR : Hid (Bx w1 (w.heap.size + 1 + 1) (.slice none 0 0)) := by rw [hw]; exact Bx.new3 _ _ _ _ _ 
  have cXR : w1.cell? ⟨(w.heap.size + 1 + 1), 0, none⟩ = some (.slice none 0 0) := XR.out.cell
  have fXR : w1.frozen? ⟨(w.heap.size + 1 + 1), 0, none⟩ = false := XR.out.free
  have B1 : Hid (Below w1.heap.size w1 w1) := Below.refl _ _
  have BW : Hid (Below w.heap.size w w1) := B0.out
  have LR : Hid ((w.heap.size + 1 + 1) < w1.heap.size) := XR.out.lt
  have XR1 : Hid (Bx w1 (w.heap.size + 1 + 1) (.slice none 0 0)) := XR.out
  clear b
  go_enter Try.func31, Try.ntmps31
  go_wp2_with fail
  rw [← hw]
  clear hw
  refine (is_any XP0.out.cell (R0.out.ls (by have := Zw1.out; omega))).mono ?_
  rintro e w0 ⟨rfl, hw0⟩
  rw [hw0]
  clear hw0
  cases hv0 : val A0 with
  | false =>
    have Y := out_no B0.out (by omega) XR.out
    have HR : Hid (AnsI (R A0 A1) (ok A0 A1) w (.returned (.tuple #[.agg #[.slice none 0 0], .bool false])) (w1.setCell ⟨(w.heap.size + 1 + 1), 0, none⟩ (.slice none 0 0))) := by
      have e1 : R A0 A1 = [] := by simp [R, hv0]
      have e2 : ok A0 A1 = false := by simp [ok, hv0]
      rw [e1, e2]; exact Y.1
    have y := Y.2
    clear Y
    go_wp2_with fail
    exact bodyPost_ret (v := .tuple #[.agg #[.slice none 0 0], .bool false]) (by simp [results, Try.results31, y, go_sem]) rfl HR.out
  | true =>
    have Hhv0 : Hid (val A0 = true) := hv0
    clear hv0
    go_wp2_with fail
    refine (is_any XP1.out.cell (R1.out.ls (by have := Zw1.out; omega))).mono ?_
    rintro e w0 ⟨rfl, hw0⟩
    rw [hw0]
    clear hw0
    cases hv1 : val A1 with
    | false =>
      have Y := out_no B0.out (by omega) XR.out
      have HR : Hid (AnsI (R A0 A1) (ok A0 A1) w (.returned (.tuple #[.agg #[.slice none 0 0], .bool false])) (w1.setCell ⟨(w.heap.size + 1 + 1), 0, none⟩ (.slice none 0 0))) := by
        have e1 : R A0 A1 = [] := by simp [R, Hhv0.out, hv1]
        have e2 : ok A0 A1 = false := by simp [ok, Hhv0.out, hv1]
        rw [e1, e2]; exact Y.1
      have y := Y.2
      clear Y
      go_wp2_with fail
      exact bodyPost_ret (v := .tuple #[.agg #[.slice none 0 0], .bool false]) (by simp [results, Try.results31, y, go_sem]) rfl HR.out
    | true =>
      have Hhv1 : Hid (val A1 = true) := hv1
      clear hv1
      have HVA : Hid (Val A0) := val_iff.1 Hhv0.out
      have HVB : Hid (Val A1) := val_iff.1 Hhv1.out
      go_wp2_with fail
      refine (sgre_any (R0.out.ls (by have := Zw1.out; omega)) (R1.out.ls (by have := Zw1.out; omega)) HVA.out HVB.out).mono ?_
      rintro e w2 ⟨hres, b⟩
      have Zw2 : Hid (w1.heap.size ≤ w2.heap.size) := b.size
      replace B0 : Hid (Below w.heap.size w w2) := B0.out.trans (b.mono (by have := Zw1.out; omega))
      replace B1 : Hid (Below w1.heap.size w1 w2) := B1.out.trans (b.mono (Nat.le_refl _))
      replace R0 : Hid (Rd w2 w.heap.size (.slice ao0 A0.length cap0) A0) := R0.out.below b (by have := Zw1.out; omega)
      replace R1 : Hid (Rd w2 w.heap.size (.slice ao1 A1.length cap1) A1) := R1.out.below b (by have := Zw1.out; omega)
      replace XP0 : Hid (Bx w2 w.heap.size (.slice ao0 A0.length cap0)) := XP0.out.kept b
      replace cXP0 : w2.cell? ⟨w.heap.size, 0, none⟩ = some (.slice ao0 A0.length cap0) := XP0.out.cell
      replace XP1 : Hid (Bx w2 (w.heap.size + 1) (.slice ao1 A1.length cap1)) := XP1.out.kept b
      replace cXP1 : w2.cell? ⟨(w.heap.size + 1), 0, none⟩ = some (.slice ao1 A1.length cap1) := XP1.out.cell
      replace XR : Hid (Bx w2 (w.heap.size + 1 + 1) (.slice none 0 0)) := XR.out.kept b
      replace cXR : w2.cell? ⟨(w.heap.size + 1 + 1), 0, none⟩ = some (.slice none 0 0) := XR.out.cell
      replace fXR : w2.frozen? ⟨(w.heap.size + 1 + 1), 0, none⟩ = false := XR.out.free
      clear b
      cases hx : CW A0 A1 with
      | none =>
        rw [hx] at hres
        subst hres
        have Y := out_no B0.out (by omega) XR.out
        have HR : Hid (AnsI (R A0 A1) (ok A0 A1) w (.returned (.tuple #[.agg #[.slice none 0 0], .bool false])) (w2.setCell ⟨(w.heap.size + 1 + 1), 0, none⟩ (.slice none 0 0))) := by
          have e1 : R A0 A1 = [] := by simp [R, Hhv0.out, Hhv1.out, hx]
          have e2 : ok A0 A1 = false := by simp [ok, Hhv0.out, Hhv1.out, hx]
          rw [e1, e2]; exact Y.1
        have y := Y.2
        clear Y
        go_wp2_with fail
        exact bodyPost_ret (v := .tuple #[.agg #[.slice none 0 0], .bool false]) (by simp [results, Try.results31, y, go_sem]) rfl HR.out
      | some D =>
        rw [hx] at hres
        obtain ⟨vq, rfl, o⟩ := hres
        have HDL : Hid (1 ≤ D.length ∧ D.length ≤ 17) := CW_len HVA.out HVB.out hx
        have Hhx : Hid (CW A0 A1 = some D) := hx
        clear hx
        obtain ⟨Ta, Tc, rfl⟩ := o.shape
        have OT : Hid (Own w2 w1.heap.size w2.heap.size (.slice Ta D.length Tc) D) := o
        clear o
        go_wp2_with fail
        refine (give_any (OT.out.rd.ls (Nat.le_refl _)) (by have := HDL.out; omega)).mono ?_
        rintro e w3 ⟨_, rfl, ⟨s, rfl, o⟩, b⟩
        obtain ⟨ra, rc, rfl⟩ := o.shape
        have Zw3 : Hid (w2.heap.size ≤ w3.heap.size) := b.size
        replace B0 : Hid (Below w.heap.size w w3) := B0.out.trans (b.mono (by have := Zw1.out; have := Zw2.out; omega))
        replace B1 : Hid (Below w1.heap.size w1 w3) := B1.out.trans (b.mono (by have := Zw2.out; omega))
        replace R0 : Hid (Rd w3 w.heap.size (.slice ao0 A0.length cap0) A0) := R0.out.below b (by have := Zw1.out; have := Zw2.out; omega)
        replace R1 : Hid (Rd w3 w.heap.size (.slice ao1 A1.length cap1) A1) := R1.out.below b (by have := Zw1.out; have := Zw2.out; omega)
        replace OT : Hid (Own w3 w1.heap.size w2.heap.size (.slice Ta D.length Tc) D) := OT.out.below b (Nat.le_refl _)
        replace XP0 : Hid (Bx w3 w.heap.size (.slice ao0 A0.length cap0)) := XP0.out.kept b
        replace cXP0 : w3.cell? ⟨w.heap.size, 0, none⟩ = some (.slice ao0 A0.length cap0) := XP0.out.cell
        replace XP1 : Hid (Bx w3 (w.heap.size + 1) (.slice ao1 A1.length cap1)) := XP1.out.kept b
        replace cXP1 : w3.cell? ⟨(w.heap.size + 1), 0, none⟩ = some (.slice ao1 A1.length cap1) := XP1.out.cell
        replace XR : Hid (Bx w3 (w.heap.size + 1 + 1) (.slice none 0 0)) := XR.out.kept b
        replace cXR : w3.cell? ⟨(w.heap.size + 1 + 1), 0, none⟩ = some (.slice none 0 0) := XR.out.cell
        replace fXR : w3.frozen? ⟨(w.heap.size + 1 + 1), 0, none⟩ = false := XR.out.free
        replace o := o.wide (lo' := w1.heap.size) (by have := Zw2.out; omega) (Nat.le_refl _)
        clear b
        have Y := out_yes (ok := val (trim D)) (W1 := w1) (w := w) (r := (w.heap.size + 1 + 1)) BW.out (by omega) LR.out XR.out o B1.out
        have HR : Hid (AnsI (R A0 A1) (ok A0 A1) w (.returned (.tuple #[.agg #[.slice ra (gv D).length rc], .bool (val (trim D))])) (w3.setCell ⟨(w.heap.size + 1 + 1), 0, none⟩ (.slice ra (gv D).length rc))) := by
          have e1 : R A0 A1 = gv D := by simp [R, Hhv0.out, Hhv1.out, Hhx.out]
          have e2 : ok A0 A1 = val (trim D) := by simp [ok, Hhv0.out, Hhv1.out, Hhx.out]
          rw [e1, e2]; exact Y.1
        have y := Y.2
        clear Y o
        generalize val (trim D) = gb at *
        generalize (gv D).length = gl at *
        go_wp2_with fail
        exact bodyPost_ret (v := .tuple #[.agg #[.slice ra gl rc], .bool gb]) (by simp [results, Try.results31, y, go_sem]) rfl HR.out

set_option maxRecDepth 100000 in
set_option maxHeartbeats 4000000 in
theorem impl_any {A0 A1 : List Int} {v0 v1 : Value} {w : World} (h0 : Wh w v0 A0) (h1 : Wh w v1 A1)  : Calls Try.prog 37 #[v0, v1] w (AnsI (R A0 A1) (ok A0 A1) w) := by
  obtain ⟨s0, rfl, h0⟩ := h0
  obtain ⟨ao0, cap0, rfl⟩ := h0.shape
  obtain ⟨s1, rfl, h1⟩ := h1
  obtain ⟨ao1, cap1, rfl⟩ := h1.shape
  have R0 : Hid (Rd w w.heap.size (.slice ao0 A0.length cap0) A0) := h0
  have R1 : Hid (Rd w w.heap.size (.slice ao1 A1.length cap1) A1) := h1
  clear h0 h1
  have B0 : Hid (Below w.heap.size w w) := Below.refl _ _
  obtain ⟨w1, hw⟩ : ∃ x, x = (((w.alloc (.cells #[(.slice ao0 A0.length cap0)] 29)).alloc (.cells #[(.slice ao1 A1.length cap1)] 29)).alloc (.cells #[.slice none 0 0] 29)) := ⟨_, rfl⟩
  have b : Below w.heap.size w w1 := by rw [hw]; exact new3 _ _ _ _ 
  have Zw1 : Hid (w.heap.size ≤ w1.heap.size) := b.size
  replace B0 : Hid (Below w.heap.size w w1) := B0.out.trans (b.mono (Nat.le_refl _))
  replace R0 : Hid (Rd w1 w.heap.size (.slice ao0 A0.length cap0) A0) := R0.out.below b (Nat.le_refl _)
  replace R1 : Hid (Rd w1 w.heap.size (.slice ao1 A1.length cap1) A1) := R1.out.below b (Nat.le_refl _)
  have XP0 : Hid (Bx w1 w.heap.size (.slice ao0 A0.length cap0)) := by rw [hw]; exact Bx.alloc (Bx.alloc (Bx.new _ _ _) _) _
  have cXP0 : w1.cell? ⟨w.heap.size, 0, none⟩ = some (.slice ao0 A0.length cap0) := XP0.out.cell
  have XP1 : Hid (Bx w1 (w.heap.size + 1) (.slice ao1 A1.length cap1)) := by rw [hw]; exact Bx.alloc (Bx.new2 _ _ _ _ ) _
  have cXP1 : w1.cell? ⟨(w.heap.size + 1), 0, none⟩ = some (.slice ao1 A1.length cap1) := XP1.out.cell
  have XR : Hid (Bx w1 (w.heap.size + 1 + 1) (.slice none 0 0)) := by rw [hw]; exact Bx.new3 _ _ _ _ _ 
  have cXR : w1.cell? ⟨(w.heap.size + 1 + 1), 0, none⟩ = some (.slice none 0 0) := XR.out.cell
  have fXR : w1.frozen? ⟨(w.heap.size + 1 + 1), 0, none⟩ = false := XR.out.free
  have B1 : Hid (Below w1.heap.size w1 w1) := Below.refl _ _
  have BW : Hid (Below w.heap.size w w1) := B0.out
  have LR : Hid ((w.heap.size + 1 + 1) < w1.heap.size) := XR.out.lt
  have XR1 : Hid (Bx w1 (w.heap.size + 1 + 1) (.slice none 0 0)) := XR.out
  clear b
  go_enter Try.func37, Try.ntmps37
  go_wp2_with fail
  rw [← hw]
  clear hw
  refine (valid_any ⟨_, rfl, (R0.out.ls (by have := Zw1.out; omega))⟩).mono ?_
  rintro e w2 ⟨rfl, b⟩
  have Zw2 : Hid (w1.heap.size ≤ w2.heap.size) := b.size
  replace B0 : Hid (Below w.heap.size w w2) := B0.out.trans (b.mono (by have := Zw1.out; omega))
  replace B1 : Hid (Below w1.heap.size w1 w2) := B1.out.trans (b.mono (Nat.le_refl _))
  replace R0 : Hid (Rd w2 w.heap.size (.slice ao0 A0.length cap0) A0) := R0.out.below b (by have := Zw1.out; omega)
  replace R1 : Hid (Rd w2 w.heap.size (.slice ao1 A1.length cap1) A1) := R1.out.below b (by have := Zw1.out; omega)
  replace XP0 : Hid (Bx w2 w.heap.size (.slice ao0 A0.length cap0)) := XP0.out.kept b
  replace cXP0 : w2.cell? ⟨w.heap.size, 0, none⟩ = some (.slice ao0 A0.length cap0) := XP0.out.cell
  replace XP1 : Hid (Bx w2 (w.heap.size + 1) (.slice ao1 A1.length cap1)) := XP1.out.kept b
  replace cXP1 : w2.cell? ⟨(w.heap.size + 1), 0, none⟩ = some (.slice ao1 A1.length cap1) := XP1.out.cell
  replace XR : Hid (Bx w2 (w.heap.size + 1 + 1) (.slice none 0 0)) := XR.out.kept b
  replace cXR : w2.cell? ⟨(w.heap.size + 1 + 1), 0, none⟩ = some (.slice none 0 0) := XR.out.cell
  replace fXR : w2.frozen? ⟨(w.heap.size + 1 + 1), 0, none⟩ = false := XR.out.free
  clear b
  cases hv0 : val A0 with
  | false =>
    have Y := out_no B0.out (by omega) XR.out
    have HR : Hid (AnsI (R A0 A1) (ok A0 A1) w (.returned (.tuple #[.agg #[.slice none 0 0], .bool false])) (w2.setCell ⟨(w.heap.size + 1 + 1), 0, none⟩ (.slice none 0 0))) := by
      have e1 : R A0 A1 = [] := by simp [R, hv0]
      have e2 : ok A0 A1 = false := by simp [ok, hv0]
      rw [e1, e2]; exact Y.1
    have y := Y.2
    clear Y
    go_wp2_with fail
    exact bodyPost_ret (v := .tuple #[.agg #[.slice none 0 0], .bool false]) (by simp [results, Try.results37, y, go_sem]) rfl HR.out
  | true =>
    have Hhv0 : Hid (val A0 = true) := hv0
    clear hv0
    go_wp2_with fail
    refine (valid_any ⟨_, rfl, (R1.out.ls (by have := Zw1.out; have := Zw2.out; omega))⟩).mono ?_
    rintro e w3 ⟨rfl, b⟩
    have Zw3 : Hid (w2.heap.size ≤ w3.heap.size) := b.size
    replace B0 : Hid (Below w.heap.size w w3) := B0.out.trans (b.mono (by have := Zw1.out; have := Zw2.out; omega))
    replace B1 : Hid (Below w1.heap.size w1 w3) := B1.out.trans (b.mono (by have := Zw2.out; omega))
    replace R0 : Hid (Rd w3 w.heap.size (.slice ao0 A0.length cap0) A0) := R0.out.below b (by have := Zw1.out; have := Zw2.out; omega)
    replace R1 : Hid (Rd w3 w.heap.size (.slice ao1 A1.length cap1) A1) := R1.out.below b (by have := Zw1.out; have := Zw2.out; omega)
    replace XP0 : Hid (Bx w3 w.heap.size (.slice ao0 A0.length cap0)) := XP0.out.kept b
    replace cXP0 : w3.cell? ⟨w.heap.size, 0, none⟩ = some (.slice ao0 A0.length cap0) := XP0.out.cell
    replace XP1 : Hid (Bx w3 (w.heap.size + 1) (.slice ao1 A1.length cap1)) := XP1.out.kept b
    replace cXP1 : w3.cell? ⟨(w.heap.size + 1), 0, none⟩ = some (.slice ao1 A1.length cap1) := XP1.out.cell
    replace XR : Hid (Bx w3 (w.heap.size + 1 + 1) (.slice none 0 0)) := XR.out.kept b
    replace cXR : w3.cell? ⟨(w.heap.size + 1 + 1), 0, none⟩ = some (.slice none 0 0) := XR.out.cell
    replace fXR : w3.frozen? ⟨(w.heap.size + 1 + 1), 0, none⟩ = false := XR.out.free
    clear b
    cases hv1 : val A1 with
    | false =>
      have Y := out_no B0.out (by omega) XR.out
      have HR : Hid (AnsI (R A0 A1) (ok A0 A1) w (.returned (.tuple #[.agg #[.slice none 0 0], .bool false])) (w3.setCell ⟨(w.heap.size + 1 + 1), 0, none⟩ (.slice none 0 0))) := by
        have e1 : R A0 A1 = [] := by simp [R, Hhv0.out, hv1]
        have e2 : ok A0 A1 = false := by simp [ok, Hhv0.out, hv1]
        rw [e1, e2]; exact Y.1
      have y := Y.2
      clear Y
      go_wp2_with fail
      exact bodyPost_ret (v := .tuple #[.agg #[.slice none 0 0], .bool false]) (by simp [results, Try.results37, y, go_sem]) rfl HR.out
    | true =>
      have Hhv1 : Hid (val A1 = true) := hv1
      clear hv1
      have HVA : Hid (Val A0) := val_iff.1 Hhv0.out
      have HVB : Hid (Val A1) := val_iff.1 Hhv1.out
      have fP0 := XP0.out.free
      have fP1 := XP1.out.free
      have HB0 : Hid (w.heap.size < w3.heap.size ∧ (w.heap.size + 1) < w3.heap.size ∧ (w.heap.size + 1 + 1) < w3.heap.size) := ⟨XP0.out.lt, XP1.out.lt, XR.out.lt⟩
      by_cases hs : A0.length < A1.length
      · skip
        have HCW : Hid (CW A0 A1 = (cgw (mv (prim A0)) (prim A1) (prim A0)).map fun C => C.map (· * ((Int.gcd (content A1) (content A0) : Nat) : Int))) := CW_swap hs
        have dP1 := (XP1.out.other (g := w.heap.size) (by omega) (j := 0) (.slice ao1 A1.length cap1)).cell
        have gP1 := (XP1.out.other (g := w.heap.size) (by omega) (j := 0) (.slice ao1 A1.length cap1)).free
        obtain ⟨wb, hwb⟩ : ∃ x, x = (w3.setCell ⟨w.heap.size, 0, none⟩ (.slice ao1 A1.length cap1)).setCell ⟨(w.heap.size + 1), 0, none⟩ (.slice ao0 A0.length cap0) := ⟨_, rfl⟩
        have XA : Hid (Bx wb w.heap.size (.slice ao1 A1.length cap1)) := by rw [hwb]; exact (XP0.out.set _).other (by omega) _
        have XB : Hid (Bx wb (w.heap.size + 1) (.slice ao0 A0.length cap0)) := by rw [hwb]; exact (XP1.out.other (by omega) _).set _
        have XC : Hid (Bx wb (w.heap.size + 1 + 1) (.slice none 0 0)) := by rw [hwb]; exact (XR.out.other (by omega) _).other (by omega) _
        have BWB : Hid (Below w.heap.size w wb) := by rw [hwb]; exact (B0.out.setCell (Nat.le_refl _) _).setCell (by show _ ≤ _; simp) _
        have HSZ : Hid (w3.heap.size = wb.heap.size) := by show _ = _; rw [hwb]; simp [World.setCell]
        have RA : Hid (Ls wb (.slice ao1 A1.length cap1) A1) := by
          refine Rd.ls (hi := w.heap.size) ?_ BWB.out.size
          rw [hwb]; exact R1.out.stay2 (by omega) (by omega)
        have RB : Hid (Ls wb (.slice ao0 A0.length cap0) A0) := by
          refine Rd.ls (hi := w.heap.size) ?_ BWB.out.size
          rw [hwb]; exact R0.out.stay2 (by omega) (by omega)
        have LRB : Hid ((w.heap.size + 1 + 1) < wb.heap.size) := by show _ < _; have h := HSZ.out; rw [← h]; exact HB0.out.2.2
        have hs2 : (A0.length : Int) < (A1.length : Int) := by omega
        clear hs
        go_wp2_with fail
        rw [← hwb]
        clear hwb hs2 cXP0 cXP1 cXR fXR fP0 fP1 dP1 gP1
        have bd : Hid (Below wb.heap.size wb wb.drew) := (Below.refl _ _).drew
        go_region_held3 (fun w' => (w'.cell? ⟨w.heap.size, 0, none⟩ = some (.slice ao1 A1.length cap1) ∧ w'.cell? ⟨(w.heap.size + 1), 0, none⟩ = some (.slice ao0 A0.length cap0)) ∧ Hid (Below wb.heap.size wb w'))
          (first | exact ⟨⟨(XA.out.kept bd.out).cell, (XB.out.kept bd.out).cell⟩, bd⟩ | exact ⟨⟨(XA.out.kept bp.out).cell, (XB.out.kept bp.out).cell⟩, bp⟩ | exact ⟨⟨(XA.out.kept bq.out).cell, (XB.out.kept bq.out).cell⟩, bq⟩ | exact ⟨⟨(XA.out.kept bg.out).cell, (XB.out.kept bg.out).cell⟩, bg⟩)
          (first
            | (go_at_call_of 80 (Value.slice ao1 A1.length cap1); refine (iprim_any (RA.out.below bd.out) HVB.out).mono ?_; rintro e wp ⟨vp, rfl, op, b⟩; obtain ⟨pa, pc, rfl⟩ := op.shape; have bp : Hid (Below wb.heap.size wb wp) := viaD bd.out b; have OP : Hid (Ls wp (.slice pa (prim A1).length pc) (prim A1)) := op.ls (Nat.le_refl _); clear op b)
            | (go_at_call_of 80 (Value.slice ao0 A0.length cap0); refine (iprim_any (RB.out.below bp.out) HVA.out).mono ?_; rintro e wq ⟨vq, rfl, oq, b⟩; obtain ⟨qa, qc, rfl⟩ := oq.shape; have bq : Hid (Below wb.heap.size wb wq) := viaD bp.out b; have OQ : Hid (Ls wq (.slice qa (prim A0).length qc) (prim A0)) := oq.ls (Nat.le_refl _); have OP2 : Hid (Ls wq (.slice pa (prim A1).length pc) (prim A1)) := OP.out.below b; clear oq b)
            | (go_at_call 81; refine (igcw2_any OP2.out OQ.out (prim_val HVB.out) (prim_val HVA.out)).mono ?_; rintro e wg ⟨ga, gn, gc, rfl, hg, b⟩; have bg : Hid (Below wb.heap.size wb wg) := viaD bq.out b; have HGC : Hid (∀ C, cgw (mv (prim A0)) (prim A1) (prim A0) = some C → gn = C.length ∧ Ls wg (.slice ga gn gc) C) := hg; clear hg b))
        have XA2 : Hid (Bx wg w.heap.size (.slice ao1 A1.length cap1)) := XA.out.kept bg.out
        have XB2 : Hid (Bx wg (w.heap.size + 1) (.slice ao0 A0.length cap0)) := XB.out.kept bg.out
        have XC2 : Hid (Bx wg (w.heap.size + 1 + 1) (.slice none 0 0)) := XC.out.kept bg.out
        have RA2 : Hid (Ls wg (.slice ao1 A1.length cap1) A1) := RA.out.below bg.out
        have RB2 : Hid (Ls wg (.slice ao0 A0.length cap0) A0) := RB.out.below bg.out
        have cXR := XC2.out.cell
        have fXR := XC2.out.free
        cases hx : cgw (mv (prim A0)) (prim A1) (prim A0) with
        | none =>
          have HN : Hid (CW A0 A1 = none) := by show _ = _; rw [HCW.out, hx]; rfl
          have Y := out_no (BWB.out.trans (bg.out.mono BWB.out.size)) (by omega) XC2.out
          have HR : Hid (AnsI (R A0 A1) (ok A0 A1) w (.returned (.tuple #[.agg #[.slice none 0 0], .bool false])) (wg.setCell ⟨(w.heap.size + 1 + 1), 0, none⟩ (.slice none 0 0))) := by
            have e1 : R A0 A1 = [] := by simp [R, HN.out]
            have e2 : ok A0 A1 = false := by simp [ok, HN.out]
            rw [e1, e2]; exact Y.1
          have y := Y.2
          clear Y hx HGC
          go_wp2_with fail
          exact bodyPost_ret (v := .tuple #[.agg #[.slice none 0 0], .bool false]) (by simp [results, Try.results37, y, go_sem]) rfl HR.out
        | some C =>
          obtain ⟨hgn, hlc⟩ := HGC.out C hx
          have HVC : Hid (Val C) := cgw_val _ _ _ _ (prim_val HVB.out) (prim_val HVA.out) hx
          obtain ⟨G, hG⟩ : ∃ G, G = ((Int.gcd (content A1) (content A0) : Nat) : Int) := ⟨_, rfl⟩
          have HGG : Hid (G = ((Int.gcd (content A1) (content A0) : Nat) : Int)) := hG
          have hgb := gcd_bd HVB.out HVA.out
          rw [← hG] at hgb
          have HD : Hid (CW A0 A1 = some (prod C [G])) := by show _ = _; rw [HCW.out, hx, prod1, hG]; rfl
          have LC : Hid (Ls wg (.slice ga gn gc) C) := hlc
          have HCP : Hid (-1000000000000 ≤ content A1 ∧ content A1 ≤ 1000000000000) := by have := cont_bd6 HVB.out; show _ ∧ _; omega
          have HCQ : Hid (-1000000000000 ≤ content A0 ∧ content A0 ≤ 1000000000000) := by have := cont_bd6 HVA.out; show _ ∧ _; omega
          have HM : Hid (∀ i k, -1000000000000 ≤ at' C i * at' [G] k ∧ at' C i * at' [G] k ≤ 1000000000000) := fun i k => by
            have h1 := inR.at (show inR (-1000000) 1000000 C from HVC.out.2.2.1) (by omega) (by omega) i
            have h2 : -1000000 ≤ at' [G] k ∧ at' [G] k ≤ 1000000 := by
              rcases k with _ | k
              · show -1000000 ≤ G ∧ G ≤ 1000000; omega
              · have : at' [G] (k + 1) = 0 := at_out (by simp)
                omega
            have := mul_le (A := 1000000) (B := 1000000) h1 h2
            omega
          have HC17 : Hid (1 ≤ C.length ∧ C.length ≤ 40) := ⟨HVC.out.pos, by have := HVC.out.le; omega⟩
          have HNE : Hid (prod C [G] ≠ []) := prod_ne HC17.out.1 (by simp)
          clear hG hx hlc hgn hgb HGC cXR fXR
          have cA := XA2.out.cell
          have cB := XB2.out.cell
          go_wp2_with fail
          have bd2 : Hid (Below wb.heap.size wb wg.drew) := bg.out.drew
          go_region_held3 (fun w' => (w'.cell? ⟨w.heap.size, 0, none⟩ = some (.slice ao1 A1.length cap1) ∧ w'.cell? ⟨(w.heap.size + 1), 0, none⟩ = some (.slice ao0 A0.length cap0)) ∧ Hid (w' = wg.drew))
            (first | exact ⟨⟨(XA.out.kept bd2.out).cell, (XB.out.kept bd2.out).cell⟩, rfl⟩)
            (first
              | (go_at_call_of 84 (Value.slice ao1 A1.length cap1); refine (icont_any (RA.out.below bd2.out) HVB.out.2.2.1).mono ?_; rintro e wx ⟨rfl, hwx⟩; rw [hwx]; clear hwx)
              | (go_at_call_of 84 (Value.slice ao0 A0.length cap0); refine (icont_any (RB.out.below bd2.out) HVA.out.2.2.1).mono ?_; rintro e wx ⟨rfl, hwx⟩; rw [hwx]; clear hwx)
              | (go_at_call 83; refine (icom_any _ _ HCP.out HCQ.out _).mono ?_; rintro e wx ⟨rfl, hwx⟩; rw [hwx, ← HGG.out]; clear hwx))
          have LC2 : Hid (Ls wg.drew (.slice ga gn gc) C) := LC.out.below (Below.refl _ _).drew
          have XC3 : Hid (Bx wg.drew (w.heap.size + 1 + 1) (.slice none 0 0)) := XC.out.kept bd2.out
          clear cA cB XA2 XB2 XC2 RA2 RB2
          obtain ⟨wh, hwh⟩ : ∃ x, x = wg.drew := ⟨_, rfl⟩
          rw [← hwh] at LC2 XC3 bd2
          rw [← hwh]
          clear hwh
          have LG : Hid (Ls (wh.alloc (.cells #[.int .i64 G] 2)) (.slice (some ⟨wh.heap.size, 0, none⟩) 1 1) [G]) := by
            have HRr := World.ownsRow_lit (base := wh.heap.size) (e := 2) (size := 1) wh #[.int .i64 G] 1 (Nat.le_refl _) (by decide) rfl
            exact (Own.of_row (L := [G]) HRr (by simp) (Nat.le_refl _)).ls (Nat.le_refl _)
          have LC3 : Hid (Ls (wh.alloc (.cells #[.int .i64 G] 2)) (.slice ga gn gc) C) := LC2.out.below (new1 _ _)
          go_wp2_with fail
          refine (prod_any LC3.out LG.out HC17.out (by simp) HM.out).mono ?_
          rintro e wi ⟨vi, rfl, oi, b⟩
          have bi : Hid (Below wb.heap.size wb wi) := viaA bd2.out b
          have OI : Hid (Own wi wb.heap.size wi.heap.size vi (prod C [G])) := oi.wide (by have := bd2.out.size; simp; omega) (Nat.le_refl _)
          obtain ⟨ia, ic, rfl⟩ := OI.out.shape
          clear oi b
          go_wp2_with fail
          refine (wo_any (w0 := wb) OI.out bi.out HNE.out).mono ?_
          rintro e wj ⟨_, rfl, ⟨s, rfl, o⟩, b⟩
          obtain ⟨ra, rc, rfl⟩ := o.shape
          have XJ : Hid (Bx wj (w.heap.size + 1 + 1) (.slice none 0 0)) := XC.out.kept b
          have cJ := XJ.out.cell
          have fJ := XJ.out.free
          have Y := out_yes (ok := val (trim (prod C [G]))) (W1 := wb) (w := w) (r := (w.heap.size + 1 + 1)) BWB.out (by omega) LRB.out XJ.out o b
          have HR : Hid (AnsI (R A0 A1) (ok A0 A1) w (.returned (.tuple #[.agg #[.slice ra (gv (prod C [G])).length rc], .bool (val (trim (prod C [G])))])) (wj.setCell ⟨(w.heap.size + 1 + 1), 0, none⟩ (.slice ra (gv (prod C [G])).length rc))) := by
            have e1 : R A0 A1 = gv (prod C [G]) := by simp [R, HD.out, Hhv0.out, Hhv1.out]
            have e2 : ok A0 A1 = val (trim (prod C [G])) := by simp [ok, HD.out, Hhv0.out, Hhv1.out]
            rw [e1, e2]; exact Y.1
          have y := Y.2
          clear Y o b
          generalize val (trim (prod C [G])) = gb at *
          generalize (gv (prod C [G])).length = gl at *
          go_wp2_with fail
          exact bodyPost_ret (v := .tuple #[.agg #[.slice ra gl rc], .bool gb]) (by simp [results, Try.results37, y, go_sem]) rfl HR.out
      · skip
        have HCW : Hid (CW A0 A1 = (cgw (mv (prim A1)) (prim A0) (prim A1)).map fun C => C.map (· * ((Int.gcd (content A0) (content A1) : Nat) : Int))) := CW_keep hs
        obtain ⟨wb, hwb⟩ : ∃ x, x = w3 := ⟨_, rfl⟩
        have XA : Hid (Bx wb w.heap.size (.slice ao0 A0.length cap0)) := by rw [hwb]; exact XP0.out
        have XB : Hid (Bx wb (w.heap.size + 1) (.slice ao1 A1.length cap1)) := by rw [hwb]; exact XP1.out
        have XC : Hid (Bx wb (w.heap.size + 1 + 1) (.slice none 0 0)) := by rw [hwb]; exact XR.out
        have BWB : Hid (Below w.heap.size w wb) := by rw [hwb]; exact B0.out
        have HSZ : Hid (w3.heap.size = wb.heap.size) := by show _ = _; rw [hwb]
        have RA : Hid (Ls wb (.slice ao0 A0.length cap0) A0) := by
          refine Rd.ls (hi := w.heap.size) ?_ BWB.out.size
          rw [hwb]; exact R0.out
        have RB : Hid (Ls wb (.slice ao1 A1.length cap1) A1) := by
          refine Rd.ls (hi := w.heap.size) ?_ BWB.out.size
          rw [hwb]; exact R1.out
        have LRB : Hid ((w.heap.size + 1 + 1) < wb.heap.size) := by show _ < _; have h := HSZ.out; rw [← h]; exact HB0.out.2.2
        have hs2 : ¬ (A0.length : Int) < (A1.length : Int) := by omega
        clear hs
        go_wp2_with fail
        rw [← hwb]
        clear hwb hs2 cXP0 cXP1 cXR fXR fP0 fP1
        clear XP0 XP1 XR
        have bd : Hid (Below wb.heap.size wb wb.drew) := (Below.refl _ _).drew
        go_region_held3 (fun w' => (w'.cell? ⟨w.heap.size, 0, none⟩ = some (.slice ao0 A0.length cap0) ∧ w'.cell? ⟨(w.heap.size + 1), 0, none⟩ = some (.slice ao1 A1.length cap1)) ∧ Hid (Below wb.heap.size wb w'))
          (first | exact ⟨⟨(XA.out.kept bd.out).cell, (XB.out.kept bd.out).cell⟩, bd⟩ | exact ⟨⟨(XA.out.kept bp.out).cell, (XB.out.kept bp.out).cell⟩, bp⟩ | exact ⟨⟨(XA.out.kept bq.out).cell, (XB.out.kept bq.out).cell⟩, bq⟩ | exact ⟨⟨(XA.out.kept bg.out).cell, (XB.out.kept bg.out).cell⟩, bg⟩)
          (first
            | (go_at_call_of 80 (Value.slice ao0 A0.length cap0); refine (iprim_any (RA.out.below bd.out) HVA.out).mono ?_; rintro e wp ⟨vp, rfl, op, b⟩; obtain ⟨pa, pc, rfl⟩ := op.shape; have bp : Hid (Below wb.heap.size wb wp) := viaD bd.out b; have OP : Hid (Ls wp (.slice pa (prim A0).length pc) (prim A0)) := op.ls (Nat.le_refl _); clear op b)
            | (go_at_call_of 80 (Value.slice ao1 A1.length cap1); refine (iprim_any (RB.out.below bp.out) HVB.out).mono ?_; rintro e wq ⟨vq, rfl, oq, b⟩; obtain ⟨qa, qc, rfl⟩ := oq.shape; have bq : Hid (Below wb.heap.size wb wq) := viaD bp.out b; have OQ : Hid (Ls wq (.slice qa (prim A1).length qc) (prim A1)) := oq.ls (Nat.le_refl _); have OP2 : Hid (Ls wq (.slice pa (prim A0).length pc) (prim A0)) := OP.out.below b; clear oq b)
            | (go_at_call 81; refine (igcw2_any OP2.out OQ.out (prim_val HVA.out) (prim_val HVB.out)).mono ?_; rintro e wg ⟨ga, gn, gc, rfl, hg, b⟩; have bg : Hid (Below wb.heap.size wb wg) := viaD bq.out b; have HGC : Hid (∀ C, cgw (mv (prim A1)) (prim A0) (prim A1) = some C → gn = C.length ∧ Ls wg (.slice ga gn gc) C) := hg; clear hg b))
        have XA2 : Hid (Bx wg w.heap.size (.slice ao0 A0.length cap0)) := XA.out.kept bg.out
        have XB2 : Hid (Bx wg (w.heap.size + 1) (.slice ao1 A1.length cap1)) := XB.out.kept bg.out
        have XC2 : Hid (Bx wg (w.heap.size + 1 + 1) (.slice none 0 0)) := XC.out.kept bg.out
        have RA2 : Hid (Ls wg (.slice ao0 A0.length cap0) A0) := RA.out.below bg.out
        have RB2 : Hid (Ls wg (.slice ao1 A1.length cap1) A1) := RB.out.below bg.out
        have cXR := XC2.out.cell
        have fXR := XC2.out.free
        cases hx : cgw (mv (prim A1)) (prim A0) (prim A1) with
        | none =>
          have HN : Hid (CW A0 A1 = none) := by show _ = _; rw [HCW.out, hx]; rfl
          have Y := out_no (BWB.out.trans (bg.out.mono BWB.out.size)) (by omega) XC2.out
          have HR : Hid (AnsI (R A0 A1) (ok A0 A1) w (.returned (.tuple #[.agg #[.slice none 0 0], .bool false])) (wg.setCell ⟨(w.heap.size + 1 + 1), 0, none⟩ (.slice none 0 0))) := by
            have e1 : R A0 A1 = [] := by simp [R, HN.out]
            have e2 : ok A0 A1 = false := by simp [ok, HN.out]
            rw [e1, e2]; exact Y.1
          have y := Y.2
          clear Y hx HGC
          go_wp2_with fail
          exact bodyPost_ret (v := .tuple #[.agg #[.slice none 0 0], .bool false]) (by simp [results, Try.results37, y, go_sem]) rfl HR.out
        | some C =>
          obtain ⟨hgn, hlc⟩ := HGC.out C hx
          have HVC : Hid (Val C) := cgw_val _ _ _ _ (prim_val HVA.out) (prim_val HVB.out) hx
          obtain ⟨G, hG⟩ : ∃ G, G = ((Int.gcd (content A0) (content A1) : Nat) : Int) := ⟨_, rfl⟩
          have HGG : Hid (G = ((Int.gcd (content A0) (content A1) : Nat) : Int)) := hG
          have hgb := gcd_bd HVA.out HVB.out
          rw [← hG] at hgb
          have HD : Hid (CW A0 A1 = some (prod C [G])) := by show _ = _; rw [HCW.out, hx, prod1, hG]; rfl
          have LC : Hid (Ls wg (.slice ga gn gc) C) := hlc
          have HCP : Hid (-1000000000000 ≤ content A0 ∧ content A0 ≤ 1000000000000) := by have := cont_bd6 HVA.out; show _ ∧ _; omega
          have HCQ : Hid (-1000000000000 ≤ content A1 ∧ content A1 ≤ 1000000000000) := by have := cont_bd6 HVB.out; show _ ∧ _; omega
          have HM : Hid (∀ i k, -1000000000000 ≤ at' C i * at' [G] k ∧ at' C i * at' [G] k ≤ 1000000000000) := fun i k => by
            have h1 := inR.at (show inR (-1000000) 1000000 C from HVC.out.2.2.1) (by omega) (by omega) i
            have h2 : -1000000 ≤ at' [G] k ∧ at' [G] k ≤ 1000000 := by
              rcases k with _ | k
              · show -1000000 ≤ G ∧ G ≤ 1000000; omega
              · have : at' [G] (k + 1) = 0 := at_out (by simp)
                omega
            have := mul_le (A := 1000000) (B := 1000000) h1 h2
            omega
          have HC17 : Hid (1 ≤ C.length ∧ C.length ≤ 40) := ⟨HVC.out.pos, by have := HVC.out.le; omega⟩
          have HNE : Hid (prod C [G] ≠ []) := prod_ne HC17.out.1 (by simp)
          clear hG hx hlc hgn hgb HGC cXR fXR
          have cA := XA2.out.cell
          have cB := XB2.out.cell
          go_wp2_with fail
          have bd2 : Hid (Below wb.heap.size wb wg.drew) := bg.out.drew
          go_region_held3 (fun w' => (w'.cell? ⟨w.heap.size, 0, none⟩ = some (.slice ao0 A0.length cap0) ∧ w'.cell? ⟨(w.heap.size + 1), 0, none⟩ = some (.slice ao1 A1.length cap1)) ∧ Hid (w' = wg.drew))
            (first | exact ⟨⟨(XA.out.kept bd2.out).cell, (XB.out.kept bd2.out).cell⟩, rfl⟩)
            (first
              | (go_at_call_of 84 (Value.slice ao0 A0.length cap0); refine (icont_any (RA.out.below bd2.out) HVA.out.2.2.1).mono ?_; rintro e wx ⟨rfl, hwx⟩; rw [hwx]; clear hwx)
              | (go_at_call_of 84 (Value.slice ao1 A1.length cap1); refine (icont_any (RB.out.below bd2.out) HVB.out.2.2.1).mono ?_; rintro e wx ⟨rfl, hwx⟩; rw [hwx]; clear hwx)
              | (go_at_call 83; refine (icom_any _ _ HCP.out HCQ.out _).mono ?_; rintro e wx ⟨rfl, hwx⟩; rw [hwx, ← HGG.out]; clear hwx))
          have LC2 : Hid (Ls wg.drew (.slice ga gn gc) C) := LC.out.below (Below.refl _ _).drew
          have XC3 : Hid (Bx wg.drew (w.heap.size + 1 + 1) (.slice none 0 0)) := XC.out.kept bd2.out
          clear cA cB XA2 XB2 XC2 RA2 RB2
          obtain ⟨wh, hwh⟩ : ∃ x, x = wg.drew := ⟨_, rfl⟩
          rw [← hwh] at LC2 XC3 bd2
          rw [← hwh]
          clear hwh
          have LG : Hid (Ls (wh.alloc (.cells #[.int .i64 G] 2)) (.slice (some ⟨wh.heap.size, 0, none⟩) 1 1) [G]) := by
            have HRr := World.ownsRow_lit (base := wh.heap.size) (e := 2) (size := 1) wh #[.int .i64 G] 1 (Nat.le_refl _) (by decide) rfl
            exact (Own.of_row (L := [G]) HRr (by simp) (Nat.le_refl _)).ls (Nat.le_refl _)
          have LC3 : Hid (Ls (wh.alloc (.cells #[.int .i64 G] 2)) (.slice ga gn gc) C) := LC2.out.below (new1 _ _)
          go_wp2_with fail
          refine (prod_any LC3.out LG.out HC17.out (by simp) HM.out).mono ?_
          rintro e wi ⟨vi, rfl, oi, b⟩
          have bi : Hid (Below wb.heap.size wb wi) := viaA bd2.out b
          have OI : Hid (Own wi wb.heap.size wi.heap.size vi (prod C [G])) := oi.wide (by have := bd2.out.size; simp; omega) (Nat.le_refl _)
          obtain ⟨ia, ic, rfl⟩ := OI.out.shape
          clear oi b
          go_wp2_with fail
          refine (wo_any (w0 := wb) OI.out bi.out HNE.out).mono ?_
          rintro e wj ⟨_, rfl, ⟨s, rfl, o⟩, b⟩
          obtain ⟨ra, rc, rfl⟩ := o.shape
          have XJ : Hid (Bx wj (w.heap.size + 1 + 1) (.slice none 0 0)) := XC.out.kept b
          have cJ := XJ.out.cell
          have fJ := XJ.out.free
          have Y := out_yes (ok := val (trim (prod C [G]))) (W1 := wb) (w := w) (r := (w.heap.size + 1 + 1)) BWB.out (by omega) LRB.out XJ.out o b
          have HR : Hid (AnsI (R A0 A1) (ok A0 A1) w (.returned (.tuple #[.agg #[.slice ra (gv (prod C [G])).length rc], .bool (val (trim (prod C [G])))])) (wj.setCell ⟨(w.heap.size + 1 + 1), 0, none⟩ (.slice ra (gv (prod C [G])).length rc))) := by
            have e1 : R A0 A1 = gv (prod C [G]) := by simp [R, HD.out, Hhv0.out, Hhv1.out]
            have e2 : ok A0 A1 = val (trim (prod C [G])) := by simp [ok, HD.out, Hhv0.out, Hhv1.out]
            rw [e1, e2]; exact Y.1
          have y := Y.2
          clear Y o b
          generalize val (trim (prod C [G])) = gb at *
          generalize (gv (prod C [G])).length = gl at *
          go_wp2_with fail
          exact bodyPost_ret (v := .tuple #[.agg #[.slice ra gl rc], .bool gb]) (by simp [results, Try.results37, y, go_sem]) rfl HR.out
end Go.Proofs.Ytbbdhbamooaloaa.fCommonWhole
