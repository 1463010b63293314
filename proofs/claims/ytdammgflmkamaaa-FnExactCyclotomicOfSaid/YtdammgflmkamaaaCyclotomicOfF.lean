/- CyclotomicOf: what both sides answer. -/
import Derived.Test.YtdammgflmkamaaaCyF
namespace Go.Proofs.Ytdammgflmkamaaa.fCyclotomicOf
open Go.RowKit Go.Pl Go.Proofs.Ytdammgflmkamaaa.wh
def rg (n : Int) : Bool := decide (1 ≤ n ∧ n ≤ 30)
def R (n : Int) : List Int := if rg n = true then gv (cyc n.toNat) else []
def ok (n : Int) : Bool := rg n && val (trim (cyc n.toNat))
theorem len (n : Int) : (R n).length ≤ 17 := by
  unfold R
  split
  · exact gv_len _
  · simp

set_option maxRecDepth 100000 in
set_option maxHeartbeats 4000000 in
theorem spec_any (a0 : Int) (_b0 : (Lit.int .i64 a0).wf = true) {w : World} : Calls Try.prog 14 #[.int .i64 a0] w (AnsS (R a0) (ok a0) w) := by
  obtain ⟨w1, hw⟩ : ∃ x, x = w.alloc (.cells #[.slice none 0 0] 26) := ⟨_, rfl⟩
  have B0 : Hid (Below w.heap.size w w1) := by rw [hw]; exact new1 _ _
  have XR : Hid (Bx w1 w.heap.size (.slice none 0 0)) := by rw [hw]; exact Bx.new _ _ _
  have Zw1 : Hid (w.heap.size ≤ w1.heap.size) := B0.out.size
  have cXR : w1.cell? ⟨w.heap.size, 0, none⟩ = some (.slice none 0 0) := XR.out.cell
  have fXR : w1.frozen? ⟨w.heap.size, 0, none⟩ = false := XR.out.free
  have LR : Hid (w.heap.size < w1.heap.size) := XR.out.lt
  have BW : Hid (Below w.heap.size w w1) := B0.out
  cases hr : rg a0 with
  | false =>
    have HD : Hid (decide (1 ≤ a0 ∧ a0 ≤ 30) = false) := hr
    have Y := out_no B0.out (by omega) XR.out
    have HR : Hid (AnsS (R a0) (ok a0) w (.returned (.tuple #[.agg #[.slice none 0 0], .bool false])) (w1.setCell ⟨w.heap.size, 0, none⟩ (.slice none 0 0))) := by
      have e1 : R a0 = [] := by simp [R, hr]
      have e2 : ok a0 = false := by simp [ok, hr]
      rw [e1, e2]; exact Y.1.s
    have y := Y.2
    clear Y hr
    go_enter Try.func14, Try.ntmps14
    go_wp2_with fail
    rw [← hw]
    clear hw
    refine (in_any a0 _ _ _).mono ?_
    rintro e w0 ⟨rfl, hw0⟩
    rw [hw0, HD.out]
    clear hw0
    go_wp2_with fail
    exact bodyPost_ret (v := .tuple #[.agg #[.slice none 0 0], .bool false]) (by simp [results, Try.results14, y, go_sem]) rfl HR.out
  | true =>
    have HD : Hid (decide (1 ≤ a0 ∧ a0 ≤ 30) = true) := hr
    have hb := of_decide_eq_true (show decide (1 ≤ a0 ∧ a0 ≤ 30) = true from hr)
    obtain ⟨n, hn⟩ : ∃ n : Nat, a0 = (n : Int) := ⟨a0.toNat, by omega⟩
    subst hn
    have HC : Hid (∀ w : World, Calls Try.prog 36 #[.int .i64 n] w fun e w' => ∃ v, e = .returned v ∧ Own w' w.heap.size w'.heap.size v (cyc n) ∧ Below w.heap.size w w') := scyc_any n (by omega) (by omega)
    have HN : Hid (1 ≤ (cyc n).length ∧ (cyc n).length ≤ 31) := by have := cy_n n (by omega) (by omega); exact ⟨this.1, this.2.1⟩
    have e1 : Hid (R (n : Int) = gv (cyc n)) := by show _ = _; simp [R, hr]
    have e2 : Hid (ok (n : Int) = val (trim (cyc n))) := by show _ = _; simp [ok, hr]
    clear hr hb
    go_enter Try.func14, Try.ntmps14
    go_wp2_with fail
    rw [← hw]
    clear hw
    refine (in_any (n : Int) _ _ _).mono ?_
    rintro e w0 ⟨rfl, hw0⟩
    rw [hw0, HD.out]
    clear hw0
    go_wp2_with fail
    refine (HC.out _).mono ?_
    rintro e w2 ⟨v, rfl, o, b⟩
    have OT : Hid (Ls w2 v (cyc n)) := o.ls (Nat.le_refl _)
    have B1 : Hid (Below w1.heap.size w1 w2) := b
    clear o b cXR fXR
    go_wp2_with fail
    refine (give_any OT.out (by have := HN.out; omega)).mono ?_
    rintro e w3 ⟨_, rfl, ⟨s, rfl, o⟩, b⟩
    obtain ⟨ra, rc, rfl⟩ := o.shape
    have B2 : Hid (Below w1.heap.size w1 w3) := B1.out.trans (b.mono B1.out.size)
    replace o := o.wide (lo' := w1.heap.size) B1.out.size (Nat.le_refl _)
    clear b
    have XR3 : Hid (Bx w3 w.heap.size (.slice none 0 0)) := XR.out.below B2.out LR.out
    have cXR : w3.cell? ⟨w.heap.size, 0, none⟩ = some (.slice none 0 0) := XR3.out.cell
    have fXR : w3.frozen? ⟨w.heap.size, 0, none⟩ = false := XR3.out.free
    have Y := out_yes (ok := val (trim (cyc n))) (W1 := w1) (w := w) (r := w.heap.size) BW.out (by omega) LR.out XR3.out o B2.out
    have HR : Hid (AnsS (R (n : Int)) (ok (n : Int)) w (.returned (.tuple #[.agg #[.slice ra (gv (cyc n)).length rc], .bool (val (trim (cyc n)))])) (w3.setCell ⟨w.heap.size, 0, none⟩ (.slice ra (gv (cyc n)).length rc))) := by
      rw [e1.out, e2.out]; exact Y.1.s
    have y := Y.2
    clear Y o
    generalize val (trim (cyc n)) = gb at *
    generalize (gv (cyc n)).length = gl at *
    go_wp2_with fail
    exact bodyPost_ret (v := .tuple #[.agg #[.slice ra gl rc], .bool gb]) (by simp [results, Try.results14, y, go_sem]) rfl HR.out

set_option maxRecDepth 100000 in
set_option maxHeartbeats 4000000 in
theorem impl_any (a0 : Int) (_b0 : (Lit.int .i64 a0).wf = true) {w : World} : Calls Try.prog 15 #[.int .i64 a0] w (AnsI (R a0) (ok a0) w) := by
  obtain ⟨w1, hw⟩ : ∃ x, x = w.alloc (.cells #[.slice none 0 0] 26) := ⟨_, rfl⟩
  have B0 : Hid (Below w.heap.size w w1) := by rw [hw]; exact new1 _ _
  have XR : Hid (Bx w1 w.heap.size (.slice none 0 0)) := by rw [hw]; exact Bx.new _ _ _
  have Zw1 : Hid (w.heap.size ≤ w1.heap.size) := B0.out.size
  have cXR : w1.cell? ⟨w.heap.size, 0, none⟩ = some (.slice none 0 0) := XR.out.cell
  have fXR : w1.frozen? ⟨w.heap.size, 0, none⟩ = false := XR.out.free
  have LR : Hid (w.heap.size < w1.heap.size) := XR.out.lt
  have BW : Hid (Below w.heap.size w w1) := B0.out
  cases hr : rg a0 with
  | false =>
    have HD : Hid (decide (1 ≤ a0 ∧ a0 ≤ 30) = false) := hr
    have Y := out_no B0.out (by omega) XR.out
    have HR : Hid (AnsI (R a0) (ok a0) w (.returned (.tuple #[.agg #[.slice none 0 0], .bool false])) (w1.setCell ⟨w.heap.size, 0, none⟩ (.slice none 0 0))) := by
      have e1 : R a0 = [] := by simp [R, hr]
      have e2 : ok a0 = false := by simp [ok, hr]
      rw [e1, e2]; exact Y.1
    have y := Y.2
    clear Y hr
    go_enter Try.func15, Try.ntmps15
    go_wp2_with fail
    rw [← hw]
    clear hw
    refine (from_any a0 _ _ _).mono ?_
    rintro e w0 ⟨rfl, hw0⟩
    rw [hw0, HD.out]
    clear hw0
    go_wp2_with fail
    exact bodyPost_ret (v := .tuple #[.agg #[.slice none 0 0], .bool false]) (by simp [results, Try.results15, y, go_sem]) rfl HR.out
  | true =>
    have HD : Hid (decide (1 ≤ a0 ∧ a0 ≤ 30) = true) := hr
    have hb := of_decide_eq_true (show decide (1 ≤ a0 ∧ a0 ≤ 30) = true from hr)
    obtain ⟨n, hn⟩ : ∃ n : Nat, a0 = (n : Int) := ⟨a0.toNat, by omega⟩
    subst hn
    have HC : Hid (∀ w : World, Calls Try.prog 39 #[.int .i64 n] w fun e w' => ∃ v, e = .returned v ∧ Own w' w.heap.size w'.heap.size v (cyc n) ∧ Below w.heap.size w w') := icyc_any n (by omega) (by omega)
    have HN : Hid (1 ≤ (cyc n).length ∧ (cyc n).length ≤ 31) := by have := cy_n n (by omega) (by omega); exact ⟨this.1, this.2.1⟩
    have e1 : Hid (R (n : Int) = gv (cyc n)) := by show _ = _; simp [R, hr]
    have e2 : Hid (ok (n : Int) = val (trim (cyc n))) := by show _ = _; simp [ok, hr]
    clear hr hb
    go_enter Try.func15, Try.ntmps15
    go_wp2_with fail
    rw [← hw]
    clear hw
    refine (from_any (n : Int) _ _ _).mono ?_
    rintro e w0 ⟨rfl, hw0⟩
    rw [hw0, HD.out]
    clear hw0
    go_wp2_with fail
    refine (HC.out _).mono ?_
    rintro e w2 ⟨v, rfl, o, b⟩
    have OT : Hid (Own w2 w1.heap.size w2.heap.size v (cyc n)) := o
    have B1 : Hid (Below w1.heap.size w1 w2) := b
    clear o b cXR fXR
    go_wp2_with fail
    refine (wo_any (w0 := w1) OT.out B1.out (fun e => by have := HN.out.1; rw [e] at this; simp at this)).mono ?_
    rintro e w3 ⟨_, rfl, ⟨s, rfl, o⟩, b⟩
    obtain ⟨ra, rc, rfl⟩ := o.shape
    have B2 : Hid (Below w1.heap.size w1 w3) := b
    clear b
    have XR3 : Hid (Bx w3 w.heap.size (.slice none 0 0)) := XR.out.below B2.out LR.out
    have cXR : w3.cell? ⟨w.heap.size, 0, none⟩ = some (.slice none 0 0) := XR3.out.cell
    have fXR : w3.frozen? ⟨w.heap.size, 0, none⟩ = false := XR3.out.free
    have Y := out_yes (ok := val (trim (cyc n))) (W1 := w1) (w := w) (r := w.heap.size) BW.out (by omega) LR.out XR3.out o B2.out
    have HR : Hid (AnsI (R (n : Int)) (ok (n : Int)) w (.returned (.tuple #[.agg #[.slice ra (gv (cyc n)).length rc], .bool (val (trim (cyc n)))])) (w3.setCell ⟨w.heap.size, 0, none⟩ (.slice ra (gv (cyc n)).length rc))) := by
      rw [e1.out, e2.out]; exact Y.1
    have y := Y.2
    clear Y o
    generalize val (trim (cyc n)) = gb at *
    generalize (gv (cyc n)).length = gl at *
    go_wp2_with fail
    exact bodyPost_ret (v := .tuple #[.agg #[.slice ra gl rc], .bool gb]) (by simp [results, Try.results15, y, go_sem]) rfl HR.out
end Go.Proofs.Ytdammgflmkamaaa.fCyclotomicOf
