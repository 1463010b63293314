/- DivideRoot: what both sides answer. -/
import Derived.Test.YthldlhpdnocmcabDrP
namespace Go.Proofs.Ythldlhpdnocmcab.fDivideRoot
open Go.RowKit Go.Pl Go.Proofs.Ythldlhpdnocmcab.wh
def ok (A : List Int) (n d : Int) : Bool := valR A && ((fr n d && cp n d) && (exok A [-n, d] && valR (exq A [-n, d])))
def R (A : List Int) (n d : Int) : List Int := if ok A n d = true then exq A [-n, d] else []
theorem len (A : List Int) (n d : Int) : (R A n d).length ≤ 17 := by
  unfold R
  split
  · rename_i h
    unfold ok at h
    simp only [Bool.and_eq_true] at h
    have := (valR_iff.1 h.2.2.2).le
    omega
  · simp
theorem no_ok {A : List Int} {n d : Int} (h : ok A n d = false) : R A n d = [] := if_neg (by rw [h]; decide)
theorem yes_ok {A : List Int} {n d : Int} (h : ok A n d = true) : R A n d = exq A [-n, d] := if_pos h
/-- what the steps answer is what exact division answers -/
theorem prt_ok {A : List Int} {n d : Int} (h2 : 2 ≤ A.length) {Q : List Int} {x : Int} (h : prt A n d (A.length - 1) (List.replicate (A.length - 1) 0) 0 = some (Q, x)) : (decide (at' A 0 + n * x = 0) && valR Q) = (exok A [-n, d] && valR (exq A [-n, d])) ∧ (exok A [-n, d] = true → Q = exq A [-n, d]) := by
  cases he : exok A [-n, d] with
  | true =>
    obtain ⟨y, hy, hz⟩ := dvr_yes h2 he
    rw [h] at hy
    injection hy with hy
    injection hy with hq hx
    subst hx
    exact ⟨by rw [decide_eq_true hz, hq], fun _ => hq⟩
  | false =>
    refine ⟨?_, fun h' => (by cases h')⟩
    rw [Bool.false_and]
    by_cases hz : at' A 0 + n * x = 0
    · obtain ⟨j, hj⟩ := dvr_no h2 he h hz
      rw [decide_eq_true hz, Bool.true_and]
      refine valR_no fun hv => ?_
      have := hv.at j
      rcases hj with hj | hj
      · have hj' : at' Q j < -1000000 := hj
        omega
      · have hj' : 1000000 < at' Q j := hj
        omega
    · rw [decide_eq_false hz, Bool.false_and]
theorem prt_none {A : List Int} {n d : Int} (h2 : 2 ≤ A.length) (h : prt A n d (A.length - 1) (List.replicate (A.length - 1) 0) 0 = none) : exok A [-n, d] = false := by
  cases he : exok A [-n, d] with
  | false => rfl
  | true =>
    obtain ⟨y, hy, _⟩ := dvr_yes h2 he
    rw [h] at hy
    cases hy
theorem one_no {A : List Int} {n d : Int} (hv : ValR A) (h : A.length < 2) : exok A [-n, d] = false := by
  have h1 := hv.pos
  have hl := hv.last
  obtain ⟨c, rfl⟩ : ∃ c, A = [c] := List.length_eq_one_iff.1 (by omega)
  exact ex_one (by simpa [at'] using hl)

/-- the polynomial of these terms, if it is valid -/
def rof (L : List Int) : List Int := if valR L = true then L else []
set_option maxRecDepth 100000 in
set_option maxHeartbeats 1600000 in
/-- from terms in a block that nothing else holds -/
theorem iof_any {v : Value} {L : List Int} {w0 w : World} (h : Own w w0.heap.size w.heap.size v L) (hb0 : Below w0.heap.size w0 w) :
    Calls Try.prog 39 #[v] w (AnsI (rof L) (valR L) w0) := by
  have HH : Hid (Own w w0.heap.size w.heap.size v L) := h
  have HB : Hid (Below w0.heap.size w0 w) := hb0
  have hsz : w0.heap.size ≤ w.heap.size := hb0.size
  obtain ⟨ao, cap, rfl⟩ := h.shape
  clear h hb0
  obtain ⟨w1, hw⟩ : ∃ x, x = (w.alloc (.cells #[.slice none 0 0] 38)).alloc (.cells #[.slice ao L.length cap] 38) := ⟨_, rfl⟩
  have X1 : Hid (Bx w1 w.heap.size (.slice none 0 0)) := by rw [hw]; exact (Bx.new _ _ _).alloc _
  have X2 : Hid (Bx w1 (w.heap.size + 1) (.slice ao L.length cap)) := by rw [hw]; exact Bx.new2 _ _ _ _
  have B1 : Hid (Below w.heap.size w w1) := by rw [hw]; exact new2 _ _ _
  have O1 : Hid (Own w1 w0.heap.size w.heap.size (.slice ao L.length cap) L) := HH.out.kept B1.out
  have HS : Hid (w1.heap.size = w.heap.size + 1 + 1) := by show _ = _; rw [hw]; simp
  have c1 := X1.out.cell
  have f1 := X1.out.free
  have c2 := X2.out.cell
  go_enter Try.func39, Try.ntmps39
  go_wp2_with fail
  rw [← hw]
  clear hw
  refine (validR_any ⟨_, rfl, O1.out.ls (by have := HS.out; omega)⟩).mono ?_
  rintro e w3 ⟨rfl, b3⟩
  have O3 : Hid (Own w3 w0.heap.size w.heap.size (.slice ao L.length cap) L) := O1.out.kept b3
  have B3 : Hid (Below w.heap.size w w3) := B1.out.trans (b3.mono B1.out.size)
  replace X1 : Hid (Bx w3 w.heap.size (.slice none 0 0)) := X1.out.kept b3
  replace X2 : Hid (Bx w3 (w.heap.size + 1) (.slice ao L.length cap)) := X2.out.kept b3
  replace c1 := X1.out.cell
  replace f1 := X1.out.free
  replace c2 := X2.out.cell
  have HS3 : Hid (w.heap.size ≤ w3.heap.size) := B3.out.size
  have BB : Hid (Below w0.heap.size w0 w3) := HB.out.trans (B3.out.mono hsz)
  clear b3 O1 B1 HS
  cases hv : valR L with
  | true =>
    have y1 := (X1.out.set (.slice ao L.length cap)).cell
    have HR : Hid (AnsI (rof L) (valR L) w0 (.returned (.tuple #[.agg #[.slice ao L.length cap], .bool true])) (w3.setCell ⟨w.heap.size, 0, none⟩ (.slice ao L.length cap))) := by
      show AnsI _ _ _ _ _
      rw [hv, show rof L = L from if_pos hv]
      exact ⟨_, rfl, ⟨_, rfl, Own.wide (Own.stay O3.out fun k _ h2 _ => Below.heap_setCell _ _ _ _ (by show k ≠ w.heap.size; omega)) (Nat.le_refl _) (by have := HS3.out; simp; omega)⟩, BB.out.setCell hsz _⟩
    clear hv
    generalize L.length = gl at *
    go_wp2_with fail
    refine bodyPost_ret (v := .tuple #[.agg #[.slice ao gl cap], .bool true]) (by simp [results, Try.results39, y1, go_sem]) rfl HR.out
  | false =>
    have y1 := (X1.out.set (.slice none 0 0)).cell
    have HR : Hid (AnsI (rof L) (valR L) w0 (.returned (.tuple #[.agg #[.slice none 0 0], .bool false])) (w3.setCell ⟨w.heap.size, 0, none⟩ (.slice none 0 0))) := by
      show AnsI _ _ _ _ _
      rw [hv, show rof L = [] from if_neg (by rw [hv]; decide)]
      exact ⟨_, rfl, OwW.zero _ _ _, BB.out.setCell hsz _⟩
    clear hv
    go_wp2_with fail
    refine bodyPost_ret (v := .tuple #[.agg #[.slice none 0 0], .bool false]) (by simp [results, Try.results39, y1, go_sem]) rfl HR.out

set_option maxRecDepth 100000 in
set_option maxHeartbeats 4000000 in
theorem spec_any {A0 : List Int} {v0 : Value} {w : World} (h0 : Wh w v0 A0) (a1 : Int) (_b1 : (Lit.int .i64 a1).wf = true) (a2 : Int) (_b2 : (Lit.int .i64 a2).wf = true) : Calls Try.prog 20 #[v0, .int .i64 a1, .int .i64 a2] w (AnsS (R A0 a1 a2) (ok A0 a1 a2) w) := by
  obtain ⟨s0, rfl, h0⟩ := h0
  obtain ⟨ao0, cap0, rfl⟩ := h0.shape
  have R0 : Hid (Rd w w.heap.size (.slice ao0 A0.length cap0) A0) := h0
  clear h0
  have B0 : Hid (Below w.heap.size w w) := Below.refl _ _
  obtain ⟨w1, hw⟩ : ∃ x, x = ((w.alloc (.cells #[(.slice ao0 A0.length cap0)] 38)).alloc (.cells #[.slice none 0 0] 38)) := ⟨_, rfl⟩
  have b : Below w.heap.size w w1 := by rw [hw]; exact new2 _ _ _ 
  have Zw1 : Hid (w.heap.size ≤ w1.heap.size) := b.size
  replace B0 : Hid (Below w.heap.size w w1) := B0.out.trans (b.mono (Nat.le_refl _))
  replace R0 : Hid (Rd w1 w.heap.size (.slice ao0 A0.length cap0) A0) := R0.out.below b (Nat.le_refl _)
  have XP0 : Hid (Bx w1 w.heap.size (.slice ao0 A0.length cap0)) := by rw [hw]; exact Bx.alloc (Bx.new _ _ _) _
  have cXP0 : w1.cell? ⟨w.heap.size, 0, none⟩ = some (.slice ao0 A0.length cap0) := XP0.out.cell
  have XR : Hid (Bx w1 (w.heap.size + 1) (.slice none 0 0)) := by rw [hw]; exact Bx.new2 _ _ _ _ 
  have cXR : w1.cell? ⟨(w.heap.size + 1), 0, none⟩ = some (.slice none 0 0) := XR.out.cell
  have fXR : w1.frozen? ⟨(w.heap.size + 1), 0, none⟩ = false := XR.out.free
  have B1 : Hid (Below w1.heap.size w1 w1) := Below.refl _ _
  have BW : Hid (Below w.heap.size w w1) := B0.out
  have LR : Hid ((w.heap.size + 1) < w1.heap.size) := XR.out.lt
  have XR1 : Hid (Bx w1 (w.heap.size + 1) (.slice none 0 0)) := XR.out
  clear b
  go_enter Try.func20, Try.ntmps20
  go_wp2_with fail
  rw [← hw]
  clear hw
  refine (isR_any cXP0 (R0.out.ls (by have := Zw1.out; omega))).mono ?_
  rintro e w0 ⟨rfl, hw0⟩
  rw [hw0]
  clear hw0
  cases hv0 : valR A0 with
  | false =>
    have Y := out_no B0.out (by omega) XR.out
    have HR : Hid (AnsS (R A0 a1 a2) (ok A0 a1 a2) w (.returned (.tuple #[.agg #[.slice none 0 0], .bool false])) (w1.setCell ⟨(w.heap.size + 1), 0, none⟩ (.slice none 0 0))) := by
      have e1 : R A0 a1 a2 = [] := by simp [R, ok, hv0]
      have e2 : ok A0 a1 a2 = false := by simp [ok, hv0]
      rw [e1, e2]; exact Y.1.s
    have y := Y.2
    clear Y
    go_wp2_with fail
    exact bodyPost_ret (v := .tuple #[.agg #[.slice none 0 0], .bool false]) (by simp [results, Try.results20, y, go_sem]) rfl HR.out
  | true =>
    have Hhv0 : Hid (valR A0 = true) := hv0
    clear hv0
    go_wp2_with fail
    refine (sfrac_any a1 a2 _).mono ?_
    rintro e w0 ⟨rfl, hw0⟩
    rw [hw0]
    clear hw0
    cases hf : fr a1 a2 with
    | false =>
      have Y := out_no B0.out (by omega) XR.out
      have HR : Hid (AnsS (R A0 a1 a2) (ok A0 a1 a2) w (.returned (.tuple #[.agg #[.slice none 0 0], .bool false])) (w1.setCell ⟨(w.heap.size + 1), 0, none⟩ (.slice none 0 0))) := by
        have e1 : R A0 a1 a2 = [] := by simp [R, ok, Hhv0.out, hf]
        have e2 : ok A0 a1 a2 = false := by simp [ok, Hhv0.out, hf]
        rw [e1, e2]; exact Y.1.s
      have y := Y.2
      clear Y
      go_wp2_with fail
      exact bodyPost_ret (v := .tuple #[.agg #[.slice none 0 0], .bool false]) (by simp [results, Try.results20, y, go_sem]) rfl HR.out
    | true =>
      have Hhf : Hid (fr a1 a2 = true) := hf
      clear hf
      have HFB := fr_bd Hhf.out
      go_wp2_with fail
      refine (sgcd_any a1 a2 (by omega) (by omega) _).mono ?_
      rintro e w0 ⟨rfl, hw0⟩
      rw [hw0]
      clear hw0 HFB
      have HCP : Hid (cp a1 a2 = decide (((Int.gcd a1 a2 : Nat) : Int) = 1)) := rfl
      generalize ((Int.gcd a1 a2 : Nat) : Int) = gg at HCP ⊢
      by_cases hg : gg = 1
      case neg =>
        have HNO : Hid (ok A0 a1 a2 = false) := by show ok A0 a1 a2 = false; unfold ok; rw [HCP.out, decide_eq_false hg]; simp
        have hgb : (gg == 1) = false := by rw [beq_eq_false_iff_ne]; exact hg
        have hgc : (gg != 1) = true := by rw [bne, hgb]; rfl
        clear hg
        have Y := out_no B0.out (by omega) XR.out
        have HR : Hid (AnsS (R A0 a1 a2) (ok A0 a1 a2) w (.returned (.tuple #[.agg #[.slice none 0 0], .bool false])) (w1.setCell ⟨(w.heap.size + 1), 0, none⟩ (.slice none 0 0))) := by
          show AnsS _ _ _ _ _
          rw [no_ok HNO.out, HNO.out]; exact Y.1.s
        have y := Y.2
        clear Y
        go_wp2_with fail
        exact bodyPost_ret (v := .tuple #[.agg #[.slice none 0 0], .bool false]) (by simp [results, Try.results20, y, go_sem]) rfl HR.out
      subst hg
      have HCT : Hid (cp a1 a2 = true) := by show cp a1 a2 = true; rw [HCP.out]; rfl
      have HVR : Hid (ValR A0) := valR_iff.1 Hhv0.out
      by_cases hl2 : A0.length < 2
      case pos =>
        have HNO : Hid (ok A0 a1 a2 = false) := by show ok A0 a1 a2 = false; unfold ok; rw [one_no HVR.out hl2]; simp
        have hl3 : (A0.length : Int) < 2 := by omega
        have Y := out_no B0.out (by omega) XR.out
        have HR : Hid (AnsS (R A0 a1 a2) (ok A0 a1 a2) w (.returned (.tuple #[.agg #[.slice none 0 0], .bool false])) (w1.setCell ⟨(w.heap.size + 1), 0, none⟩ (.slice none 0 0))) := by
          show AnsS _ _ _ _ _
          rw [no_ok HNO.out, HNO.out]; exact Y.1.s
        have y := Y.2
        clear Y
        go_wp2_with fail
        exact bodyPost_ret (v := .tuple #[.agg #[.slice none 0 0], .bool false]) (by simp [results, Try.results20, y, go_sem]) rfl HR.out
      have hl3 : ¬ (A0.length : Int) < 2 := by omega
      have HL2 : Hid (2 ≤ A0.length ∧ A0.length ≤ 17 ∧ Bd 1000000000 A0) := ⟨by omega, by have := HVR.out.le; omega, fun k => by have := HVR.out.at k; omega⟩
      clear hl2
      go_wp2_with fail
      refine (sprt_any (R0.out.ls (by have := Zw1.out; omega)) HL2.out.1 HL2.out.2.1 HL2.out.2.2 a1 a2 Hhf.out).mono ?_
      rintro e w2 ⟨hres, b⟩
      have Zw2 : Hid (w1.heap.size ≤ w2.heap.size) := b.size
      replace B0 : Hid (Below w.heap.size w w2) := B0.out.trans (b.mono (by have := Zw1.out; omega))
      replace B1 : Hid (Below w1.heap.size w1 w2) := B1.out.trans (b.mono (Nat.le_refl _))
      replace R0 : Hid (Rd w2 w.heap.size (.slice ao0 A0.length cap0) A0) := R0.out.below b (by have := Zw1.out; omega)
      replace XP0 : Hid (Bx w2 w.heap.size (.slice ao0 A0.length cap0)) := XP0.out.kept b
      replace cXP0 : w2.cell? ⟨w.heap.size, 0, none⟩ = some (.slice ao0 A0.length cap0) := XP0.out.cell
      replace XR : Hid (Bx w2 (w.heap.size + 1) (.slice none 0 0)) := XR.out.kept b
      replace cXR : w2.cell? ⟨(w.heap.size + 1), 0, none⟩ = some (.slice none 0 0) := XR.out.cell
      replace fXR : w2.frozen? ⟨(w.heap.size + 1), 0, none⟩ = false := XR.out.free
      clear b
      cases hp : prt A0 a1 a2 (A0.length - 1) (List.replicate (A0.length - 1) 0) 0 with
      | none =>
        rw [hp] at hres
        subst hres
        have HNO : Hid (ok A0 a1 a2 = false) := by show ok A0 a1 a2 = false; unfold ok; rw [prt_none HL2.out.1 hp]; simp
        clear hp
        obtain ⟨wn, hwn⟩ : ∃ y, y = w2.alloc (.cells #[.slice none 0 0] 38) := ⟨_, rfl⟩
        have bn : Below w2.heap.size w2 wn := by rw [hwn]; exact new1 _ _
        have Zwn : Hid (w2.heap.size ≤ wn.heap.size) := bn.size
        replace B0 : Hid (Below w.heap.size w wn) := B0.out.trans (bn.mono (by have := Zw1.out; have := Zw2.out; omega))
        replace B1 : Hid (Below w1.heap.size w1 wn) := B1.out.trans (bn.mono (by have := Zw2.out; omega))
        replace R0 : Hid (Rd wn w.heap.size (.slice ao0 A0.length cap0) A0) := R0.out.below bn (by have := Zw1.out; have := Zw2.out; omega)
        replace XP0 : Hid (Bx wn w.heap.size (.slice ao0 A0.length cap0)) := XP0.out.kept bn
        replace cXP0 : wn.cell? ⟨w.heap.size, 0, none⟩ = some (.slice ao0 A0.length cap0) := XP0.out.cell
        replace XR : Hid (Bx wn (w.heap.size + 1) (.slice none 0 0)) := XR.out.kept bn
        replace cXR : wn.cell? ⟨(w.heap.size + 1), 0, none⟩ = some (.slice none 0 0) := XR.out.cell
        replace fXR : wn.frozen? ⟨(w.heap.size + 1), 0, none⟩ = false := XR.out.free
        clear bn
        go_upto_region 5 with fail
        rw [← hwn]
        clear hwn
        have Y := out_no B0.out (by omega) XR.out
        have HR : Hid (AnsS (R A0 a1 a2) (ok A0 a1 a2) w (.returned (.tuple #[.agg #[.slice none 0 0], .bool false])) (wn.setCell ⟨(w.heap.size + 1), 0, none⟩ (.slice none 0 0))) := by
          show AnsS _ _ _ _ _
          rw [no_ok HNO.out, HNO.out]; exact Y.1.s
        have y := Y.2
        clear Y
        go_wp2_with fail
        exact bodyPost_ret (v := .tuple #[.agg #[.slice none 0 0], .bool false]) (by simp [results, Try.results20, y, go_sem]) rfl HR.out
      | some S =>
        obtain ⟨Q, x⟩ := S
        rw [hp] at hres
        obtain ⟨vq, he, oq⟩ := hres
        subst he
        have HPK : Hid ((decide (at' A0 0 + a1 * x = 0) && valR Q) = (exok A0 [-a1, a2] && valR (exq A0 [-a1, a2])) ∧ (exok A0 [-a1, a2] = true → Q = exq A0 [-a1, a2])) := prt_ok HL2.out.1 hp
        have OQ : Hid (Own w2 w1.heap.size w2.heap.size vq Q) := oq
        clear hp oq
        obtain ⟨qa, qc, rfl⟩ := OQ.out.shape
        obtain ⟨wn, hwn⟩ : ∃ y, y = w2.alloc (.cells #[.slice qa Q.length qc] 38) := ⟨_, rfl⟩
        have bn : Below w2.heap.size w2 wn := by rw [hwn]; exact new1 _ _
        have XN : Hid (Bx wn w2.heap.size (.slice qa Q.length qc)) := by rw [hwn]; exact Bx.new _ _ _
        generalize hzz : decide (at' A0 0 + a1 * x = 0) = zb at HPK ⊢
        clear hzz
        have Zwn : Hid (w2.heap.size ≤ wn.heap.size) := bn.size
        replace B0 : Hid (Below w.heap.size w wn) := B0.out.trans (bn.mono (by have := Zw1.out; have := Zw2.out; omega))
        replace B1 : Hid (Below w1.heap.size w1 wn) := B1.out.trans (bn.mono (by have := Zw2.out; omega))
        replace R0 : Hid (Rd wn w.heap.size (.slice ao0 A0.length cap0) A0) := R0.out.below bn (by have := Zw1.out; have := Zw2.out; omega)
        replace XP0 : Hid (Bx wn w.heap.size (.slice ao0 A0.length cap0)) := XP0.out.kept bn
        replace cXP0 : wn.cell? ⟨w.heap.size, 0, none⟩ = some (.slice ao0 A0.length cap0) := XP0.out.cell
        replace XR : Hid (Bx wn (w.heap.size + 1) (.slice none 0 0)) := XR.out.kept bn
        replace cXR : wn.cell? ⟨(w.heap.size + 1), 0, none⟩ = some (.slice none 0 0) := XR.out.cell
        replace fXR : wn.frozen? ⟨(w.heap.size + 1), 0, none⟩ = false := XR.out.free
        have OW : Hid (Own wn w1.heap.size wn.heap.size (.slice qa Q.length qc) Q) := (OQ.out.kept bn).wide (Nat.le_refl _) bn.size
        have cN := XN.out.cell
        clear bn OQ
        go_upto_region 5 with fail
        rw [← hwn]
        clear hwn
        cases zb with
        | false =>
          have HNO : Hid (ok A0 a1 a2 = false) := by show ok A0 a1 a2 = false; unfold ok; rw [← HPK.out.1]; simp
          have Y := out_no B0.out (by omega) XR.out
          have HR : Hid (AnsS (R A0 a1 a2) (ok A0 a1 a2) w (.returned (.tuple #[.agg #[.slice none 0 0], .bool false])) (wn.setCell ⟨(w.heap.size + 1), 0, none⟩ (.slice none 0 0))) := by
            show AnsS _ _ _ _ _
            rw [no_ok HNO.out, HNO.out]; exact Y.1.s
          have y := Y.2
          clear Y
          go_wp2_with fail
          exact bodyPost_ret (v := .tuple #[.agg #[.slice none 0 0], .bool false]) (by simp [results, Try.results20, y, go_sem]) rfl HR.out
        | true =>
          go_wp2_with fail
          refine (isR_any XN.out.cell (OW.out.ls (Nat.le_refl _))).mono ?_
          rintro e w0 ⟨rfl, hw0⟩
          rw [hw0]
          clear hw0
          cases hq : valR Q with
          | false =>
            have HNO : Hid (ok A0 a1 a2 = false) := by show ok A0 a1 a2 = false; unfold ok; rw [← HPK.out.1, hq]; simp
            clear hq
            have Y := out_no B0.out (by omega) XR.out
            have HR : Hid (AnsS (R A0 a1 a2) (ok A0 a1 a2) w (.returned (.tuple #[.agg #[.slice none 0 0], .bool false])) (wn.setCell ⟨(w.heap.size + 1), 0, none⟩ (.slice none 0 0))) := by
              show AnsS _ _ _ _ _
              rw [no_ok HNO.out, HNO.out]; exact Y.1.s
            have y := Y.2
            clear Y
            go_wp2_with fail
            exact bodyPost_ret (v := .tuple #[.agg #[.slice none 0 0], .bool false]) (by simp [results, Try.results20, y, go_sem]) rfl HR.out
          | true =>
            have HYE : Hid (ok A0 a1 a2 = true) := by
              show ok A0 a1 a2 = true
              unfold ok
              rw [← HPK.out.1, hq, Hhv0.out, Hhf.out, HCT.out]; rfl
            have HQE : Hid (R A0 a1 a2 = Q) := by
              have h1 := HYE.out
              unfold ok at h1
              simp only [Bool.and_eq_true] at h1
              show R A0 a1 a2 = Q
              rw [yes_ok HYE.out, HPK.out.2 h1.2.2.1]
            clear hq
            have o2 : Own wn w1.heap.size wn.heap.size (.slice qa Q.length qc) Q := OW.out.wide (Nat.le_refl _) (Nat.le_refl _)
            have Y := out_yes (ok := true) (W1 := w1) (w := w) (r := (w.heap.size + 1)) BW.out (by omega) LR.out XR.out o2 B1.out
            have HR : Hid (AnsS (R A0 a1 a2) (ok A0 a1 a2) w (.returned (.tuple #[.agg #[.slice qa Q.length qc], .bool true])) (wn.setCell ⟨(w.heap.size + 1), 0, none⟩ (.slice qa Q.length qc))) := by
              show AnsS _ _ _ _ _
              rw [HQE.out, HYE.out]; exact Y.1.s
            have y := Y.2
            clear Y o2
            generalize Q.length = gl at *
            go_wp2_with fail
            exact bodyPost_ret (v := .tuple #[.agg #[.slice qa gl qc], .bool true]) (by simp [results, Try.results20, y, go_sem]) rfl HR.out

set_option maxRecDepth 100000 in
set_option maxHeartbeats 4000000 in
theorem impl_any {A0 : List Int} {v0 : Value} {w : World} (h0 : Wh w v0 A0) (a1 : Int) (_b1 : (Lit.int .i64 a1).wf = true) (a2 : Int) (_b2 : (Lit.int .i64 a2).wf = true) : Calls Try.prog 21 #[v0, .int .i64 a1, .int .i64 a2] w (AnsI (R A0 a1 a2) (ok A0 a1 a2) w) := by
  obtain ⟨s0, rfl, h0⟩ := h0
  obtain ⟨ao0, cap0, rfl⟩ := h0.shape
  have R0 : Hid (Rd w w.heap.size (.slice ao0 A0.length cap0) A0) := h0
  clear h0
  have B0 : Hid (Below w.heap.size w w) := Below.refl _ _
  obtain ⟨w1, hw⟩ : ∃ x, x = ((w.alloc (.cells #[(.slice ao0 A0.length cap0)] 38)).alloc (.cells #[.slice none 0 0] 38)) := ⟨_, rfl⟩
  have b : Below w.heap.size w w1 := by rw [hw]; exact new2 _ _ _ 
  have Zw1 : Hid (w.heap.size ≤ w1.heap.size) := b.size
  replace B0 : Hid (Below w.heap.size w w1) := B0.out.trans (b.mono (Nat.le_refl _))
  replace R0 : Hid (Rd w1 w.heap.size (.slice ao0 A0.length cap0) A0) := R0.out.below b (Nat.le_refl _)
  have XP0 : Hid (Bx w1 w.heap.size (.slice ao0 A0.length cap0)) := by rw [hw]; exact Bx.alloc (Bx.new _ _ _) _
  have cXP0 : w1.cell? ⟨w.heap.size, 0, none⟩ = some (.slice ao0 A0.length cap0) := XP0.out.cell
  have XR : Hid (Bx w1 (w.heap.size + 1) (.slice none 0 0)) := by rw [hw]; exact Bx.new2 _ _ _ _ 
  have cXR : w1.cell? ⟨(w.heap.size + 1), 0, none⟩ = some (.slice none 0 0) := XR.out.cell
  have fXR : w1.frozen? ⟨(w.heap.size + 1), 0, none⟩ = false := XR.out.free
  have B1 : Hid (Below w1.heap.size w1 w1) := Below.refl _ _
  have BW : Hid (Below w.heap.size w w1) := B0.out
  have LR : Hid ((w.heap.size + 1) < w1.heap.size) := XR.out.lt
  have XR1 : Hid (Bx w1 (w.heap.size + 1) (.slice none 0 0)) := XR.out
  clear b
  go_enter Try.func21, Try.ntmps21
  go_wp2_with fail
  rw [← hw]
  clear hw
  refine (validR_any ⟨_, rfl, (R0.out.ls (by have := Zw1.out; omega))⟩).mono ?_
  rintro e w2 ⟨rfl, b⟩
  have Zw2 : Hid (w1.heap.size ≤ w2.heap.size) := b.size
  replace B0 : Hid (Below w.heap.size w w2) := B0.out.trans (b.mono (by have := Zw1.out; omega))
  replace B1 : Hid (Below w1.heap.size w1 w2) := B1.out.trans (b.mono (Nat.le_refl _))
  replace R0 : Hid (Rd w2 w.heap.size (.slice ao0 A0.length cap0) A0) := R0.out.below b (by have := Zw1.out; omega)
  replace XP0 : Hid (Bx w2 w.heap.size (.slice ao0 A0.length cap0)) := XP0.out.kept b
  replace cXP0 : w2.cell? ⟨w.heap.size, 0, none⟩ = some (.slice ao0 A0.length cap0) := XP0.out.cell
  replace XR : Hid (Bx w2 (w.heap.size + 1) (.slice none 0 0)) := XR.out.kept b
  replace cXR : w2.cell? ⟨(w.heap.size + 1), 0, none⟩ = some (.slice none 0 0) := XR.out.cell
  replace fXR : w2.frozen? ⟨(w.heap.size + 1), 0, none⟩ = false := XR.out.free
  clear b
  cases hv0 : valR A0 with
  | false =>
    have Y := out_no B0.out (by omega) XR.out
    have HR : Hid (AnsI (R A0 a1 a2) (ok A0 a1 a2) w (.returned (.tuple #[.agg #[.slice none 0 0], .bool false])) (w2.setCell ⟨(w.heap.size + 1), 0, none⟩ (.slice none 0 0))) := by
      have e1 : R A0 a1 a2 = [] := by simp [R, ok, hv0]
      have e2 : ok A0 a1 a2 = false := by simp [ok, hv0]
      rw [e1, e2]; exact Y.1
    have y := Y.2
    clear Y
    go_wp2_with fail
    exact bodyPost_ret (v := .tuple #[.agg #[.slice none 0 0], .bool false]) (by simp [results, Try.results21, y, go_sem]) rfl HR.out
  | true =>
    have Hhv0 : Hid (valR A0 = true) := hv0
    clear hv0
    go_wp2_with fail
    refine (iprimf_any a1 a2 _).mono ?_
    rintro e w0 ⟨rfl, hw0⟩
    rw [hw0]
    clear hw0
    cases hf : (fr a1 a2 && cp a1 a2) with
    | false =>
      have Y := out_no B0.out (by omega) XR.out
      have HR : Hid (AnsI (R A0 a1 a2) (ok A0 a1 a2) w (.returned (.tuple #[.agg #[.slice none 0 0], .bool false])) (w2.setCell ⟨(w.heap.size + 1), 0, none⟩ (.slice none 0 0))) := by
        have e1 : R A0 a1 a2 = [] := by simp [R, ok, Hhv0.out, hf]
        have e2 : ok A0 a1 a2 = false := by simp [ok, Hhv0.out, hf]
        rw [e1, e2]; exact Y.1
      have y := Y.2
      clear Y
      go_wp2_with fail
      exact bodyPost_ret (v := .tuple #[.agg #[.slice none 0 0], .bool false]) (by simp [results, Try.results21, y, go_sem]) rfl HR.out
    | true =>
      have Hhf : Hid ((fr a1 a2 && cp a1 a2) = true) := hf
      clear hf
      have HFC : Hid (fr a1 a2 = true ∧ cp a1 a2 = true) := by have := Hhf.out; rw [Bool.and_eq_true] at this; exact this
      have HFB : Hid ((-1000000 ≤ a1 ∧ a1 ≤ 1000000) ∧ 1 ≤ a2 ∧ a2 ≤ 1000000) := fr_bd HFC.out.1
      have HVR : Hid (ValR A0) := valR_iff.1 Hhv0.out
      have n1 : IntKind.i64.wrap (-a1) = -a1 := IntWalk.i64_in _ (by have := HFB.out; omega)
      have n2 : wrap64 (-a1) = -a1 := IntWalk.wrap64_in _ (by have := HFB.out; omega)
      have HA : Hid (1 ≤ A0.length ∧ A0.length ≤ 40) := ⟨HVR.out.pos, by have := HVR.out.le; omega⟩
      have HDA : Hid (Bd 1000000 A0) := fun k => by have := HVR.out.at k; omega
      have HDB : Hid (Bd 1000000 [-a1, a2]) := fun k => by
        have := HFB.out
        match k with
        | 0 => show -1000000 ≤ -a1 ∧ -a1 ≤ 1000000; omega
        | 1 => show -1000000 ≤ a2 ∧ a2 ≤ 1000000; omega
        | k + 2 => rw [at_out (by simp)]; omega
      have HLZ : Hid (at' [-a1, a2] ([-a1, a2].length - 1) ≠ 0) := by show a2 ≠ 0; have := HFB.out; omega
      have dXP0 := cXP0
      obtain ⟨wl, hwl⟩ : ∃ y, y = w2.alloc (.cells #[.int .i64 (-a1), .int .i64 a2] 2) := ⟨_, rfl⟩
      have bl : Below w2.heap.size w2 wl := by rw [hwl]; exact new1 _ _
      have OL : Hid (Ls wl (.slice (some ⟨w2.heap.size, 0, none⟩) 2 2) [-a1, a2]) := by
        rw [hwl]
        exact (Own.of_row (L := [-a1, a2]) (World.ownsRow_lit (base := w2.heap.size) (e := 2) (size := 1) w2 #[.int .i64 (-a1), .int .i64 a2] 2 (Nat.le_refl _) (by decide) rfl) (by simp) (Nat.le_refl _)).ls (Nat.le_refl _)
      have Zwl : Hid (w2.heap.size ≤ wl.heap.size) := bl.size
      replace B0 : Hid (Below w.heap.size w wl) := B0.out.trans (bl.mono (by have := Zw1.out; have := Zw2.out; omega))
      replace B1 : Hid (Below w1.heap.size w1 wl) := B1.out.trans (bl.mono (by have := Zw2.out; omega))
      replace R0 : Hid (Rd wl w.heap.size (.slice ao0 A0.length cap0) A0) := R0.out.below bl (by have := Zw1.out; have := Zw2.out; omega)
      replace XP0 : Hid (Bx wl w.heap.size (.slice ao0 A0.length cap0)) := XP0.out.kept bl
      replace cXP0 : wl.cell? ⟨w.heap.size, 0, none⟩ = some (.slice ao0 A0.length cap0) := XP0.out.cell
      replace XR : Hid (Bx wl (w.heap.size + 1) (.slice none 0 0)) := XR.out.kept bl
      replace cXR : wl.cell? ⟨(w.heap.size + 1), 0, none⟩ = some (.slice none 0 0) := XR.out.cell
      replace fXR : wl.frozen? ⟨(w.heap.size + 1), 0, none⟩ = false := XR.out.free
      clear bl
      go_wp2_with fail
      rw [← hwl]
      clear hwl n1 n2 dXP0
      refine (ieq_any (R0.out.ls (by have := Zw1.out; have := Zw2.out; have := Zwl.out; omega)) OL.out HA.out (by simp) HDA.out HDB.out HLZ.out).mono ?_
      rintro e w3 ⟨vq, rfl, ho, b⟩
      have Zw3 : Hid (wl.heap.size ≤ w3.heap.size) := b.size
      replace B0 : Hid (Below w.heap.size w w3) := B0.out.trans (b.mono (by have := Zw1.out; have := Zw2.out; have := Zwl.out; omega))
      replace B1 : Hid (Below w1.heap.size w1 w3) := B1.out.trans (b.mono (by have := Zw2.out; have := Zwl.out; omega))
      replace R0 : Hid (Rd w3 w.heap.size (.slice ao0 A0.length cap0) A0) := R0.out.below b (by have := Zw1.out; have := Zw2.out; have := Zwl.out; omega)
      replace XP0 : Hid (Bx w3 w.heap.size (.slice ao0 A0.length cap0)) := XP0.out.kept b
      replace cXP0 : w3.cell? ⟨w.heap.size, 0, none⟩ = some (.slice ao0 A0.length cap0) := XP0.out.cell
      replace XR : Hid (Bx w3 (w.heap.size + 1) (.slice none 0 0)) := XR.out.kept b
      replace cXR : w3.cell? ⟨(w.heap.size + 1), 0, none⟩ = some (.slice none 0 0) := XR.out.cell
      replace fXR : w3.frozen? ⟨(w.heap.size + 1), 0, none⟩ = false := XR.out.free
      have HQ : Hid (exok A0 [-a1, a2] = true → Own w3 wl.heap.size w3.heap.size vq (exq A0 [-a1, a2])) := ho
      clear ho b OL
      cases hx : exok A0 [-a1, a2] with
      | false =>
        have HNO : Hid (ok A0 a1 a2 = false) := by show ok A0 a1 a2 = false; unfold ok; rw [hx]; simp
        clear hx
        have Y := out_no B0.out (by omega) XR.out
        have HR : Hid (AnsI (R A0 a1 a2) (ok A0 a1 a2) w (.returned (.tuple #[.agg #[.slice none 0 0], .bool false])) (w3.setCell ⟨(w.heap.size + 1), 0, none⟩ (.slice none 0 0))) := by
          show AnsI _ _ _ _ _
          rw [no_ok HNO.out, HNO.out]; exact Y.1
        have y := Y.2
        clear Y
        go_wp2_with fail
        exact bodyPost_ret (v := .tuple #[.agg #[.slice none 0 0], .bool false]) (by simp [results, Try.results21, y, go_sem]) rfl HR.out
      | true =>
        have o := HQ.out hx
        have HXT : Hid (exok A0 [-a1, a2] = true) := hx
        clear hx HQ
        obtain ⟨qa, qc, rfl⟩ := o.shape
        have OQ : Hid (Own w3 w1.heap.size w3.heap.size (.slice qa (exq A0 [-a1, a2]).length qc) (exq A0 [-a1, a2])) := o.wide (by have := Zw2.out; have := Zwl.out; omega) (Nat.le_refl _)
        clear o
        go_wp2_with fail
        refine (iof_any (w0 := w1) OQ.out B1.out).mono ?_
        rintro e w4 ⟨_, rfl, ⟨s, rfl, o⟩, b⟩
        obtain ⟨ra, rc, rfl⟩ := o.shape
        replace XR : Hid (Bx w4 (w.heap.size + 1) (.slice none 0 0)) := XR1.out.below b LR.out
        replace cXR : w4.cell? ⟨(w.heap.size + 1), 0, none⟩ = some (.slice none 0 0) := XR.out.cell
        replace fXR : w4.frozen? ⟨(w.heap.size + 1), 0, none⟩ = false := XR.out.free
        replace B1 : Hid (Below w1.heap.size w1 w4) := b
        clear b
        have Y := out_yes (ok := valR (exq A0 [-a1, a2])) (W1 := w1) (w := w) (r := (w.heap.size + 1)) BW.out (by omega) LR.out XR.out o B1.out
        have HR : Hid (AnsI (R A0 a1 a2) (ok A0 a1 a2) w (.returned (.tuple #[.agg #[.slice ra (rof (exq A0 [-a1, a2])).length rc], .bool (valR (exq A0 [-a1, a2]))])) (w4.setCell ⟨(w.heap.size + 1), 0, none⟩ (.slice ra (rof (exq A0 [-a1, a2])).length rc))) := by
          have e2 : ok A0 a1 a2 = valR (exq A0 [-a1, a2]) := by unfold ok; rw [Hhv0.out, HFC.out.1, HFC.out.2, HXT.out]; simp
          have e1 : R A0 a1 a2 = rof (exq A0 [-a1, a2]) := by unfold R rof; rw [e2]
          show AnsI _ _ _ _ _
          rw [e1, e2]; exact Y.1
        have y := Y.2
        clear Y o
        generalize valR (exq A0 [-a1, a2]) = gb at *
        generalize (rof (exq A0 [-a1, a2])).length = gl at *
        go_wp2_with fail
        exact bodyPost_ret (v := .tuple #[.agg #[.slice ra gl rc], .bool gb]) (by simp [results, Try.results21, y, go_sem]) rfl HR.out
end Go.Proofs.Ythldlhpdnocmcab.fDivideRoot
