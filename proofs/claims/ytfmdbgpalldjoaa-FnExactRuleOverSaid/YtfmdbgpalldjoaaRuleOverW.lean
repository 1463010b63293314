/- The law FnExactRuleOver: its walk, over what both sides answer. -/
import Derived.Test.YtfmdbgpalldjoaaRuleOverF
import Derived.Test.YtfmdbgpalldjoaaWw
import Derived.Deep.RegionHeld3
import Derived.Deep.DeepCutAuto
namespace Go.Proofs.Ytfmdbgpalldjoaa.fnExactRuleOverW
open Go.RowKit Go.Proofs.Ytfmdbgpalldjoaa.wh

set_option maxRecDepth 100000 in
set_option maxHeartbeats 4000000 in
theorem walk (v0 : Value) (a1 : Int) (w : World) (h0 : ∃ L, Ls w v0 L) (b1 : (Lit.int .i64 a1).wf = true) :
    Calls Try.prog 3 #[v0, .int .i64 a1] w fun e w' => e = .returned (.bool true) ∧ Below w.heap.size w w' := by
  obtain ⟨A0, h0⟩ := h0
  obtain ⟨ao0, cap0, rfl⟩ := id h0.shape
  obtain ⟨R, hR⟩ : ∃ r : List Int, r = fRuleOver.R A0 a1 := ⟨_, rfl⟩
  obtain ⟨ok, hok⟩ : ∃ r : Bool, r = fRuleOver.ok A0 a1 := ⟨_, rfl⟩
  by_cases hs0 : (A0.length : Int) ≤ 1048576
  case neg =>
    clear h0 hR hok
    go_enter Try.func3, Try.ntmps3
    go_wp2_with fail
    go_ret
    exact ⟨rfl, Below.refl _ _⟩
  have HS : Hid (∀ (w : World) (v0 : Value), Ls w v0 A0 → Calls Try.prog 7 #[v0, .int .i64 a1] w (AnsLS R ok w)) := fun w v0 h0 => by rw [hR, hok]; exact fRuleOver.spec_any h0 hs0 a1 b1
  have HI : Hid (∀ (w : World) (v0 : Value), Ls w v0 A0 → Calls Try.prog 9 #[v0, .int .i64 a1] w (AnsLI R ok w)) := fun w v0 h0 => by rw [hR, hok]; exact fRuleOver.impl_any h0 hs0 a1 b1
  have hlen : (R.length : Int) ≤ 1000 := by rw [hR]; have := fRuleOver.len A0 a1; omega
  clear hR hok
  clear b1
  have R0 : Hid (Rd w w.heap.size (.slice ao0 A0.length cap0) A0) := h0
  clear h0
  have B0 : Hid (Below w.heap.size w w) := Below.refl _ _
  go_enter Try.func3, Try.ntmps3
  go_wp2_with fail
  refine (to_any (R0.out.ls (Nat.le_refl _)) (by omega)).mono ?_
  rintro e w1 ⟨s_0, rfl, o, b⟩
  obtain ⟨s_0a, s_0c, rfl⟩ := o.shape
  have Zw1 : Hid (w.heap.size ≤ w1.heap.size) := b.size
  replace B0 : Hid (Below w.heap.size w w1) := B0.out.trans (b.mono (Nat.le_refl _))
  replace R0 : Hid (Rd w1 w.heap.size (.slice ao0 A0.length cap0) A0) := R0.out.below b (Nat.le_refl _)
  have Os_0 : Hid (wh.Own w1 w.heap.size w1.heap.size (.slice s_0a A0.length s_0c) A0) := o
  clear o b
  go_wp2_with fail
  refine (HS.out w1 (.slice s_0a A0.length s_0c) (Os_0.out.rd.ls (Nat.le_refl _))).mono ?_
  rintro e w2 ⟨r0, rfl, o0, b⟩
  obtain ⟨r0a, r0c, rfl⟩ := o0.shape
  have Zw2 : Hid (w1.heap.size ≤ w2.heap.size) := b.size
  replace B0 : Hid (Below w.heap.size w w2) := B0.out.trans (b.mono (by have := Zw1.out; omega))
  replace R0 : Hid (Rd w2 w.heap.size (.slice ao0 A0.length cap0) A0) := R0.out.below b (by have := Zw1.out; omega)
  replace Os_0 : Hid (wh.Own w2 w.heap.size w1.heap.size (.slice s_0a A0.length s_0c) A0) := Os_0.out.below b (Nat.le_refl _)
  have Or0 : Hid (Rd w2 w2.heap.size (.slice r0a R.length r0c) R) := o0
  clear b o0
  clear Os_0
  go_wp2_with fail
  refine (to_any (R0.out.ls (by have := Zw1.out; have := Zw2.out; omega)) (by omega)).mono ?_
  rintro e w3 ⟨x0, rfl, o, b⟩
  obtain ⟨x0a, x0c, rfl⟩ := o.shape
  have Zw3 : Hid (w2.heap.size ≤ w3.heap.size) := b.size
  replace B0 : Hid (Below w.heap.size w w3) := B0.out.trans (b.mono (by have := Zw1.out; have := Zw2.out; omega))
  replace R0 : Hid (Rd w3 w.heap.size (.slice ao0 A0.length cap0) A0) := R0.out.below b (by have := Zw1.out; have := Zw2.out; omega)
  replace Or0 : Hid (Rd w3 w2.heap.size (.slice r0a R.length r0c) R) := Or0.out.below b (Nat.le_refl _)
  have Ox0 : Hid (wh.Own w3 w2.heap.size w3.heap.size (.slice x0a A0.length x0c) A0) := o
  clear o b
  go_wp2_with fail
  refine (HI.out w3 (.slice x0a A0.length x0c) (Ox0.out.rd.ls (Nat.le_refl _))).mono ?_
  rintro e w4 ⟨g0, rfl, o0, b⟩
  obtain ⟨g0a, g0c, rfl⟩ := o0.shape
  have Zw4 : Hid (w3.heap.size ≤ w4.heap.size) := b.size
  replace B0 : Hid (Below w.heap.size w w4) := B0.out.trans (b.mono (by have := Zw1.out; have := Zw2.out; have := Zw3.out; omega))
  replace R0 : Hid (Rd w4 w.heap.size (.slice ao0 A0.length cap0) A0) := R0.out.below b (by have := Zw1.out; have := Zw2.out; have := Zw3.out; omega)
  replace Or0 : Hid (Rd w4 w2.heap.size (.slice r0a R.length r0c) R) := Or0.out.below b (by have := Zw3.out; omega)
  replace Ox0 : Hid (wh.Own w4 w2.heap.size w3.heap.size (.slice x0a A0.length x0c) A0) := Ox0.out.below b (Nat.le_refl _)
  have Og0 : Hid (wh.Own w4 w3.heap.size w4.heap.size (.slice g0a R.length g0c) R) := o0
  clear b o0
  go_wp2_with fail
  refine (eqS_any (Og0.out.rd.ls (Nat.le_refl _)) (Or0.out.ls (by have := Zw3.out; have := Zw4.out; omega))).mono ?_
  rintro e w5 ⟨rfl, b⟩
  have Zw5 : Hid (w4.heap.size ≤ w5.heap.size) := b.size
  replace B0 : Hid (Below w.heap.size w w5) := B0.out.trans (b.mono (by have := Zw1.out; have := Zw2.out; have := Zw3.out; have := Zw4.out; omega))
  replace R0 : Hid (Rd w5 w.heap.size (.slice ao0 A0.length cap0) A0) := R0.out.below b (by have := Zw1.out; have := Zw2.out; have := Zw3.out; have := Zw4.out; omega)
  replace Or0 : Hid (Rd w5 w2.heap.size (.slice r0a R.length r0c) R) := Or0.out.below b (by have := Zw3.out; have := Zw4.out; omega)
  replace Ox0 : Hid (wh.Own w5 w2.heap.size w3.heap.size (.slice x0a A0.length x0c) A0) := Ox0.out.below b (by have := Zw4.out; omega)
  replace Og0 : Hid (wh.Own w5 w3.heap.size w4.heap.size (.slice g0a R.length g0c) R) := Og0.out.below b (Nat.le_refl _)
  clear b
  go_wp2_with fail
  refine (to_any (R0.out.ls (by have := Zw1.out; have := Zw2.out; have := Zw3.out; have := Zw4.out; have := Zw5.out; omega)) (by omega)).mono ?_
  rintro e w6 ⟨y0, rfl, o, b⟩
  obtain ⟨y0a, y0c, rfl⟩ := o.shape
  have Zw6 : Hid (w5.heap.size ≤ w6.heap.size) := b.size
  replace B0 : Hid (Below w.heap.size w w6) := B0.out.trans (b.mono (by have := Zw1.out; have := Zw2.out; have := Zw3.out; have := Zw4.out; have := Zw5.out; omega))
  replace R0 : Hid (Rd w6 w.heap.size (.slice ao0 A0.length cap0) A0) := R0.out.below b (by have := Zw1.out; have := Zw2.out; have := Zw3.out; have := Zw4.out; have := Zw5.out; omega)
  replace Or0 : Hid (Rd w6 w2.heap.size (.slice r0a R.length r0c) R) := Or0.out.below b (by have := Zw3.out; have := Zw4.out; have := Zw5.out; omega)
  replace Ox0 : Hid (wh.Own w6 w2.heap.size w3.heap.size (.slice x0a A0.length x0c) A0) := Ox0.out.below b (by have := Zw4.out; have := Zw5.out; omega)
  replace Og0 : Hid (wh.Own w6 w3.heap.size w4.heap.size (.slice g0a R.length g0c) R) := Og0.out.below b (by have := Zw5.out; omega)
  have Oy0 : Hid (wh.Own w6 w5.heap.size w6.heap.size (.slice y0a A0.length y0c) A0) := o
  clear o b
  go_wp2_with fail
  refine (eqS_any (Ox0.out.rd.ls (by have := Zw4.out; have := Zw5.out; have := Zw6.out; omega)) (Oy0.out.rd.ls (Nat.le_refl _))).mono ?_
  rintro e w7 ⟨rfl, b⟩
  have Zw7 : Hid (w6.heap.size ≤ w7.heap.size) := b.size
  replace B0 : Hid (Below w.heap.size w w7) := B0.out.trans (b.mono (by have := Zw1.out; have := Zw2.out; have := Zw3.out; have := Zw4.out; have := Zw5.out; have := Zw6.out; omega))
  replace R0 : Hid (Rd w7 w.heap.size (.slice ao0 A0.length cap0) A0) := R0.out.below b (by have := Zw1.out; have := Zw2.out; have := Zw3.out; have := Zw4.out; have := Zw5.out; have := Zw6.out; omega)
  replace Or0 : Hid (Rd w7 w2.heap.size (.slice r0a R.length r0c) R) := Or0.out.below b (by have := Zw3.out; have := Zw4.out; have := Zw5.out; have := Zw6.out; omega)
  replace Ox0 : Hid (wh.Own w7 w2.heap.size w3.heap.size (.slice x0a A0.length x0c) A0) := Ox0.out.below b (by have := Zw4.out; have := Zw5.out; have := Zw6.out; omega)
  replace Og0 : Hid (wh.Own w7 w3.heap.size w4.heap.size (.slice g0a R.length g0c) R) := Og0.out.below b (by have := Zw5.out; have := Zw6.out; omega)
  replace Oy0 : Hid (wh.Own w7 w5.heap.size w6.heap.size (.slice y0a A0.length y0c) A0) := Oy0.out.below b (Nat.le_refl _)
  clear b
  clear Oy0
  go_wp2_with fail
  refine (mark_any Ox0.out (by omega) (by omega) (by omega)).mono ?_
  rintro e w8 ⟨rfl, o, t⟩
  clear Ox0
  have Zw8 : Hid (w7.heap.size ≤ w8.heap.size) := t.size
  replace B0 : Hid (Below w.heap.size w w8) := B0.out.trans (t.below (by have := Zw1.out; have := Zw2.out; omega) (by have := Zw1.out; have := Zw2.out; have := Zw3.out; have := Zw4.out; have := Zw5.out; have := Zw6.out; have := Zw7.out; omega))
  replace R0 : Hid (Rd w8 w.heap.size (.slice ao0 A0.length cap0) A0) := R0.out.turned t (by have := Zw1.out; have := Zw2.out; omega) (by have := Zw1.out; have := Zw2.out; have := Zw3.out; have := Zw4.out; have := Zw5.out; have := Zw6.out; have := Zw7.out; omega)
  replace Or0 : Hid (Rd w8 w2.heap.size (.slice r0a R.length r0c) R) := Or0.out.turned t (Nat.le_refl _) (by have := Zw3.out; have := Zw4.out; have := Zw5.out; have := Zw6.out; have := Zw7.out; omega)
  replace Og0 : Hid (wh.Own w8 w3.heap.size w4.heap.size (.slice g0a R.length g0c) R) := Og0.out.turned t (.inr (Nat.le_refl _))
  have Ox0 : Hid (wh.Own w8 w2.heap.size w3.heap.size (.slice x0a A0.length x0c) (mk (1) A0.length)) := o
  clear o t
  clear Ox0
  go_wp2_with fail
  refine (eqS_any (Og0.out.rd.ls (by have := Zw5.out; have := Zw6.out; have := Zw7.out; have := Zw8.out; omega)) (Or0.out.ls (by have := Zw3.out; have := Zw4.out; have := Zw5.out; have := Zw6.out; have := Zw7.out; have := Zw8.out; omega))).mono ?_
  rintro e w9 ⟨rfl, b⟩
  have Zw9 : Hid (w8.heap.size ≤ w9.heap.size) := b.size
  replace B0 : Hid (Below w.heap.size w w9) := B0.out.trans (b.mono (by have := Zw1.out; have := Zw2.out; have := Zw3.out; have := Zw4.out; have := Zw5.out; have := Zw6.out; have := Zw7.out; have := Zw8.out; omega))
  replace R0 : Hid (Rd w9 w.heap.size (.slice ao0 A0.length cap0) A0) := R0.out.below b (by have := Zw1.out; have := Zw2.out; have := Zw3.out; have := Zw4.out; have := Zw5.out; have := Zw6.out; have := Zw7.out; have := Zw8.out; omega)
  replace Or0 : Hid (Rd w9 w2.heap.size (.slice r0a R.length r0c) R) := Or0.out.below b (by have := Zw3.out; have := Zw4.out; have := Zw5.out; have := Zw6.out; have := Zw7.out; have := Zw8.out; omega)
  replace Og0 : Hid (wh.Own w9 w3.heap.size w4.heap.size (.slice g0a R.length g0c) R) := Og0.out.below b (by have := Zw5.out; have := Zw6.out; have := Zw7.out; have := Zw8.out; omega)
  clear b
  go_wp2_with fail
  refine (mark_any Og0.out (by omega) (by omega) (by omega)).mono ?_
  rintro e w10 ⟨rfl, o, t⟩
  clear Og0
  have Zw10 : Hid (w9.heap.size ≤ w10.heap.size) := t.size
  replace B0 : Hid (Below w.heap.size w w10) := B0.out.trans (t.below (by have := Zw1.out; have := Zw2.out; have := Zw3.out; omega) (by have := Zw1.out; have := Zw2.out; have := Zw3.out; have := Zw4.out; have := Zw5.out; have := Zw6.out; have := Zw7.out; have := Zw8.out; have := Zw9.out; omega))
  replace R0 : Hid (Rd w10 w.heap.size (.slice ao0 A0.length cap0) A0) := R0.out.turned t (by have := Zw1.out; have := Zw2.out; have := Zw3.out; omega) (by have := Zw1.out; have := Zw2.out; have := Zw3.out; have := Zw4.out; have := Zw5.out; have := Zw6.out; have := Zw7.out; have := Zw8.out; have := Zw9.out; omega)
  replace Or0 : Hid (Rd w10 w2.heap.size (.slice r0a R.length r0c) R) := Or0.out.turned t (by have := Zw3.out; omega) (by have := Zw3.out; have := Zw4.out; have := Zw5.out; have := Zw6.out; have := Zw7.out; have := Zw8.out; have := Zw9.out; omega)
  have Og0 : Hid (wh.Own w10 w3.heap.size w4.heap.size (.slice g0a R.length g0c) (mk (1) R.length)) := o
  clear o t
  go_wp2_with fail
  refine (heldS_any (Og0.out.rd.ls (by have := Zw5.out; have := Zw6.out; have := Zw7.out; have := Zw8.out; have := Zw9.out; have := Zw10.out; omega)) (by omega) (by omega) (by omega)).mono ?_
  rintro e w11 ⟨rfl, b⟩
  have Zw11 : Hid (w10.heap.size ≤ w11.heap.size) := b.size
  replace B0 : Hid (Below w.heap.size w w11) := B0.out.trans (b.mono (by have := Zw1.out; have := Zw2.out; have := Zw3.out; have := Zw4.out; have := Zw5.out; have := Zw6.out; have := Zw7.out; have := Zw8.out; have := Zw9.out; have := Zw10.out; omega))
  replace R0 : Hid (Rd w11 w.heap.size (.slice ao0 A0.length cap0) A0) := R0.out.below b (by have := Zw1.out; have := Zw2.out; have := Zw3.out; have := Zw4.out; have := Zw5.out; have := Zw6.out; have := Zw7.out; have := Zw8.out; have := Zw9.out; have := Zw10.out; omega)
  replace Or0 : Hid (Rd w11 w2.heap.size (.slice r0a R.length r0c) R) := Or0.out.below b (by have := Zw3.out; have := Zw4.out; have := Zw5.out; have := Zw6.out; have := Zw7.out; have := Zw8.out; have := Zw9.out; have := Zw10.out; omega)
  replace Og0 : Hid (wh.Own w11 w3.heap.size w4.heap.size (.slice g0a R.length g0c) (mk (1) R.length)) := Og0.out.below b (by have := Zw5.out; have := Zw6.out; have := Zw7.out; have := Zw8.out; have := Zw9.out; have := Zw10.out; omega)
  clear b
  go_wp2_with fail
  refine (to_any (R0.out.ls (by have := Zw1.out; have := Zw2.out; have := Zw3.out; have := Zw4.out; have := Zw5.out; have := Zw6.out; have := Zw7.out; have := Zw8.out; have := Zw9.out; have := Zw10.out; have := Zw11.out; omega)) (by omega)).mono ?_
  rintro e w12 ⟨t0, rfl, o, b⟩
  obtain ⟨t0a, t0c, rfl⟩ := o.shape
  have Zw12 : Hid (w11.heap.size ≤ w12.heap.size) := b.size
  replace B0 : Hid (Below w.heap.size w w12) := B0.out.trans (b.mono (by have := Zw1.out; have := Zw2.out; have := Zw3.out; have := Zw4.out; have := Zw5.out; have := Zw6.out; have := Zw7.out; have := Zw8.out; have := Zw9.out; have := Zw10.out; have := Zw11.out; omega))
  replace R0 : Hid (Rd w12 w.heap.size (.slice ao0 A0.length cap0) A0) := R0.out.below b (by have := Zw1.out; have := Zw2.out; have := Zw3.out; have := Zw4.out; have := Zw5.out; have := Zw6.out; have := Zw7.out; have := Zw8.out; have := Zw9.out; have := Zw10.out; have := Zw11.out; omega)
  replace Or0 : Hid (Rd w12 w2.heap.size (.slice r0a R.length r0c) R) := Or0.out.below b (by have := Zw3.out; have := Zw4.out; have := Zw5.out; have := Zw6.out; have := Zw7.out; have := Zw8.out; have := Zw9.out; have := Zw10.out; have := Zw11.out; omega)
  replace Og0 : Hid (wh.Own w12 w3.heap.size w4.heap.size (.slice g0a R.length g0c) (mk (1) R.length)) := Og0.out.below b (by have := Zw5.out; have := Zw6.out; have := Zw7.out; have := Zw8.out; have := Zw9.out; have := Zw10.out; have := Zw11.out; omega)
  have Ot0 : Hid (wh.Own w12 w11.heap.size w12.heap.size (.slice t0a A0.length t0c) A0) := o
  clear o b
  go_wp2_with fail
  refine (HI.out w12 (.slice t0a A0.length t0c) (Ot0.out.rd.ls (Nat.le_refl _))).mono ?_
  rintro e w13 ⟨h0, rfl, o0, b⟩
  obtain ⟨h0a, h0c, rfl⟩ := o0.shape
  have Zw13 : Hid (w12.heap.size ≤ w13.heap.size) := b.size
  replace B0 : Hid (Below w.heap.size w w13) := B0.out.trans (b.mono (by have := Zw1.out; have := Zw2.out; have := Zw3.out; have := Zw4.out; have := Zw5.out; have := Zw6.out; have := Zw7.out; have := Zw8.out; have := Zw9.out; have := Zw10.out; have := Zw11.out; have := Zw12.out; omega))
  replace R0 : Hid (Rd w13 w.heap.size (.slice ao0 A0.length cap0) A0) := R0.out.below b (by have := Zw1.out; have := Zw2.out; have := Zw3.out; have := Zw4.out; have := Zw5.out; have := Zw6.out; have := Zw7.out; have := Zw8.out; have := Zw9.out; have := Zw10.out; have := Zw11.out; have := Zw12.out; omega)
  replace Or0 : Hid (Rd w13 w2.heap.size (.slice r0a R.length r0c) R) := Or0.out.below b (by have := Zw3.out; have := Zw4.out; have := Zw5.out; have := Zw6.out; have := Zw7.out; have := Zw8.out; have := Zw9.out; have := Zw10.out; have := Zw11.out; have := Zw12.out; omega)
  replace Og0 : Hid (wh.Own w13 w3.heap.size w4.heap.size (.slice g0a R.length g0c) (mk (1) R.length)) := Og0.out.below b (by have := Zw5.out; have := Zw6.out; have := Zw7.out; have := Zw8.out; have := Zw9.out; have := Zw10.out; have := Zw11.out; have := Zw12.out; omega)
  replace Ot0 : Hid (wh.Own w13 w11.heap.size w12.heap.size (.slice t0a A0.length t0c) A0) := Ot0.out.below b (Nat.le_refl _)
  have Oh0 : Hid (wh.Own w13 w12.heap.size w13.heap.size (.slice h0a R.length h0c) R) := o0
  clear b o0
  clear Ot0
  go_wp2_with fail
  refine (eqS_any (Oh0.out.rd.ls (Nat.le_refl _)) (Or0.out.ls (by have := Zw3.out; have := Zw4.out; have := Zw5.out; have := Zw6.out; have := Zw7.out; have := Zw8.out; have := Zw9.out; have := Zw10.out; have := Zw11.out; have := Zw12.out; have := Zw13.out; omega))).mono ?_
  rintro e w14 ⟨rfl, b⟩
  have Zw14 : Hid (w13.heap.size ≤ w14.heap.size) := b.size
  replace B0 : Hid (Below w.heap.size w w14) := B0.out.trans (b.mono (by have := Zw1.out; have := Zw2.out; have := Zw3.out; have := Zw4.out; have := Zw5.out; have := Zw6.out; have := Zw7.out; have := Zw8.out; have := Zw9.out; have := Zw10.out; have := Zw11.out; have := Zw12.out; have := Zw13.out; omega))
  replace R0 : Hid (Rd w14 w.heap.size (.slice ao0 A0.length cap0) A0) := R0.out.below b (by have := Zw1.out; have := Zw2.out; have := Zw3.out; have := Zw4.out; have := Zw5.out; have := Zw6.out; have := Zw7.out; have := Zw8.out; have := Zw9.out; have := Zw10.out; have := Zw11.out; have := Zw12.out; have := Zw13.out; omega)
  replace Or0 : Hid (Rd w14 w2.heap.size (.slice r0a R.length r0c) R) := Or0.out.below b (by have := Zw3.out; have := Zw4.out; have := Zw5.out; have := Zw6.out; have := Zw7.out; have := Zw8.out; have := Zw9.out; have := Zw10.out; have := Zw11.out; have := Zw12.out; have := Zw13.out; omega)
  replace Og0 : Hid (wh.Own w14 w3.heap.size w4.heap.size (.slice g0a R.length g0c) (mk (1) R.length)) := Og0.out.below b (by have := Zw5.out; have := Zw6.out; have := Zw7.out; have := Zw8.out; have := Zw9.out; have := Zw10.out; have := Zw11.out; have := Zw12.out; have := Zw13.out; omega)
  replace Oh0 : Hid (wh.Own w14 w12.heap.size w13.heap.size (.slice h0a R.length h0c) R) := Oh0.out.below b (Nat.le_refl _)
  clear b
  clear Oh0
  go_wp2_with fail
  refine (heldS_any (Og0.out.rd.ls (by have := Zw5.out; have := Zw6.out; have := Zw7.out; have := Zw8.out; have := Zw9.out; have := Zw10.out; have := Zw11.out; have := Zw12.out; have := Zw13.out; have := Zw14.out; omega)) (by omega) (by omega) (by omega)).mono ?_
  rintro e w15 ⟨rfl, b⟩
  have Zw15 : Hid (w14.heap.size ≤ w15.heap.size) := b.size
  replace B0 : Hid (Below w.heap.size w w15) := B0.out.trans (b.mono (by have := Zw1.out; have := Zw2.out; have := Zw3.out; have := Zw4.out; have := Zw5.out; have := Zw6.out; have := Zw7.out; have := Zw8.out; have := Zw9.out; have := Zw10.out; have := Zw11.out; have := Zw12.out; have := Zw13.out; have := Zw14.out; omega))
  replace R0 : Hid (Rd w15 w.heap.size (.slice ao0 A0.length cap0) A0) := R0.out.below b (by have := Zw1.out; have := Zw2.out; have := Zw3.out; have := Zw4.out; have := Zw5.out; have := Zw6.out; have := Zw7.out; have := Zw8.out; have := Zw9.out; have := Zw10.out; have := Zw11.out; have := Zw12.out; have := Zw13.out; have := Zw14.out; omega)
  replace Or0 : Hid (Rd w15 w2.heap.size (.slice r0a R.length r0c) R) := Or0.out.below b (by have := Zw3.out; have := Zw4.out; have := Zw5.out; have := Zw6.out; have := Zw7.out; have := Zw8.out; have := Zw9.out; have := Zw10.out; have := Zw11.out; have := Zw12.out; have := Zw13.out; have := Zw14.out; omega)
  replace Og0 : Hid (wh.Own w15 w3.heap.size w4.heap.size (.slice g0a R.length g0c) (mk (1) R.length)) := Og0.out.below b (by have := Zw5.out; have := Zw6.out; have := Zw7.out; have := Zw8.out; have := Zw9.out; have := Zw10.out; have := Zw11.out; have := Zw12.out; have := Zw13.out; have := Zw14.out; omega)
  clear b
  go_wp2_with fail
  go_ret
  exact ⟨rfl, B0.out⟩
end Go.Proofs.Ytfmdbgpalldjoaa.fnExactRuleOverW
