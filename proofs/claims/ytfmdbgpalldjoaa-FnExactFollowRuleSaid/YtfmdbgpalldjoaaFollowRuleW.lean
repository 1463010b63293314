/- The law FnExactFollowRule: its walk, over what both sides answer. -/
import Derived.Test.YtfmdbgpalldjoaaFollowRuleF
import Derived.Test.YtfmdbgpalldjoaaWw
import Derived.Deep.RegionHeld3
import Derived.Deep.DeepCutAuto
namespace Go.Proofs.Ytfmdbgpalldjoaa.fnExactFollowRuleW
open Go.RowKit Go.Proofs.Ytfmdbgpalldjoaa.wh

set_option maxRecDepth 100000 in
set_option maxHeartbeats 4000000 in
theorem walk (v0 : Value) (v1 : Value) (a2 : Int) (a3 : Int) (w : World) (h0 : ∃ L, Ls w v0 L) (h1 : ∃ L, Ls w v1 L) (b2 : (Lit.int .i64 a2).wf = true) (b3 : (Lit.int .i64 a3).wf = true) :
    Calls Try.prog 4 #[v0, v1, .int .i64 a2, .int .i64 a3] w fun e w' => e = .returned (.bool true) ∧ Below w.heap.size w w' := by
  obtain ⟨A0, h0⟩ := h0
  obtain ⟨ao0, cap0, rfl⟩ := id h0.shape
  obtain ⟨A1, h1⟩ := h1
  obtain ⟨ao1, cap1, rfl⟩ := id h1.shape
  obtain ⟨R, hR⟩ : ∃ r : List Int, r = fFollowRule.R A0 A1 a2 a3 := ⟨_, rfl⟩
  obtain ⟨ok, hok⟩ : ∃ r : Bool, r = fFollowRule.ok A0 A1 a2 a3 := ⟨_, rfl⟩
  by_cases hs0 : (A0.length : Int) ≤ 1048576
  case neg =>
    clear h0 hR hok
    go_enter Try.func4, Try.ntmps4
    go_wp2_with fail
    go_ret
    exact ⟨rfl, Below.refl _ _⟩
  by_cases hs1 : (A1.length : Int) ≤ 1048576
  case neg =>
    clear h1 hR hok
    go_enter Try.func4, Try.ntmps4
    go_wp2_with fail
    go_ret
    exact ⟨rfl, Below.refl _ _⟩
  have HS : Hid (∀ (w : World) (v0 : Value) (v1 : Value), Ls w v0 A0 → Ls w v1 A1 → Calls Try.prog 13 #[v0, v1, .int .i64 a2, .int .i64 a3] w (AnsLS R ok w)) := fun w v0 v1 h0 h1 => by rw [hR, hok]; exact fFollowRule.spec_any h0 hs0 h1 hs1 a2 b2 a3 b3
  have HI : Hid (∀ (w : World) (v0 : Value) (v1 : Value), Ls w v0 A0 → Ls w v1 A1 → Calls Try.prog 14 #[v0, v1, .int .i64 a2, .int .i64 a3] w (AnsLI R ok w)) := fun w v0 v1 h0 h1 => by rw [hR, hok]; exact fFollowRule.impl_any h0 hs0 h1 hs1 a2 b2 a3 b3
  have hlen : (R.length : Int) ≤ 1000 := by rw [hR]; have := fFollowRule.len A0 A1 a2 a3; omega
  clear hR hok
  clear b2 b3
  have R0 : Hid (Rd w w.heap.size (.slice ao0 A0.length cap0) A0) := h0
  have R1 : Hid (Rd w w.heap.size (.slice ao1 A1.length cap1) A1) := h1
  clear h0 h1
  have B0 : Hid (Below w.heap.size w w) := Below.refl _ _
  go_enter Try.func4, Try.ntmps4
  go_wp2_with fail
  refine (to_any (R0.out.ls (Nat.le_refl _)) (by omega)).mono ?_
  rintro e w1 ⟨s_0, rfl, o, b⟩
  obtain ⟨s_0a, s_0c, rfl⟩ := o.shape
  have Zw1 : Hid (w.heap.size ≤ w1.heap.size) := b.size
  replace B0 : Hid (Below w.heap.size w w1) := B0.out.trans (b.mono (Nat.le_refl _))
  replace R0 : Hid (Rd w1 w.heap.size (.slice ao0 A0.length cap0) A0) := R0.out.below b (Nat.le_refl _)
  replace R1 : Hid (Rd w1 w.heap.size (.slice ao1 A1.length cap1) A1) := R1.out.below b (Nat.le_refl _)
  have Os_0 : Hid (wh.Own w1 w.heap.size w1.heap.size (.slice s_0a A0.length s_0c) A0) := o
  clear o b
  go_wp2_with fail
  refine (to_any (R1.out.ls (by have := Zw1.out; omega)) (by omega)).mono ?_
  rintro e w2 ⟨s_1, rfl, o, b⟩
  obtain ⟨s_1a, s_1c, rfl⟩ := o.shape
  have Zw2 : Hid (w1.heap.size ≤ w2.heap.size) := b.size
  replace B0 : Hid (Below w.heap.size w w2) := B0.out.trans (b.mono (by have := Zw1.out; omega))
  replace R0 : Hid (Rd w2 w.heap.size (.slice ao0 A0.length cap0) A0) := R0.out.below b (by have := Zw1.out; omega)
  replace R1 : Hid (Rd w2 w.heap.size (.slice ao1 A1.length cap1) A1) := R1.out.below b (by have := Zw1.out; omega)
  replace Os_0 : Hid (wh.Own w2 w.heap.size w1.heap.size (.slice s_0a A0.length s_0c) A0) := Os_0.out.below b (Nat.le_refl _)
  have Os_1 : Hid (wh.Own w2 w1.heap.size w2.heap.size (.slice s_1a A1.length s_1c) A1) := o
  clear o b
  go_wp2_with fail
  refine (HS.out w2 (.slice s_0a A0.length s_0c) (.slice s_1a A1.length s_1c) (Os_0.out.rd.ls (by have := Zw2.out; omega)) (Os_1.out.rd.ls (Nat.le_refl _))).mono ?_
  rintro e w3 ⟨r0, rfl, o0, b⟩
  obtain ⟨r0a, r0c, rfl⟩ := o0.shape
  have Zw3 : Hid (w2.heap.size ≤ w3.heap.size) := b.size
  replace B0 : Hid (Below w.heap.size w w3) := B0.out.trans (b.mono (by have := Zw1.out; have := Zw2.out; omega))
  replace R0 : Hid (Rd w3 w.heap.size (.slice ao0 A0.length cap0) A0) := R0.out.below b (by have := Zw1.out; have := Zw2.out; omega)
  replace R1 : Hid (Rd w3 w.heap.size (.slice ao1 A1.length cap1) A1) := R1.out.below b (by have := Zw1.out; have := Zw2.out; omega)
  replace Os_0 : Hid (wh.Own w3 w.heap.size w1.heap.size (.slice s_0a A0.length s_0c) A0) := Os_0.out.below b (by have := Zw2.out; omega)
  replace Os_1 : Hid (wh.Own w3 w1.heap.size w2.heap.size (.slice s_1a A1.length s_1c) A1) := Os_1.out.below b (Nat.le_refl _)
  have Or0 : Hid (Rd w3 w3.heap.size (.slice r0a R.length r0c) R) := o0
  clear b o0
  clear Os_0
  clear Os_1
  go_wp2_with fail
  refine (to_any (R0.out.ls (by have := Zw1.out; have := Zw2.out; have := Zw3.out; omega)) (by omega)).mono ?_
  rintro e w4 ⟨x0, rfl, o, b⟩
  obtain ⟨x0a, x0c, rfl⟩ := o.shape
  have Zw4 : Hid (w3.heap.size ≤ w4.heap.size) := b.size
  replace B0 : Hid (Below w.heap.size w w4) := B0.out.trans (b.mono (by have := Zw1.out; have := Zw2.out; have := Zw3.out; omega))
  replace R0 : Hid (Rd w4 w.heap.size (.slice ao0 A0.length cap0) A0) := R0.out.below b (by have := Zw1.out; have := Zw2.out; have := Zw3.out; omega)
  replace R1 : Hid (Rd w4 w.heap.size (.slice ao1 A1.length cap1) A1) := R1.out.below b (by have := Zw1.out; have := Zw2.out; have := Zw3.out; omega)
  replace Or0 : Hid (Rd w4 w3.heap.size (.slice r0a R.length r0c) R) := Or0.out.below b (Nat.le_refl _)
  have Ox0 : Hid (wh.Own w4 w3.heap.size w4.heap.size (.slice x0a A0.length x0c) A0) := o
  clear o b
  go_wp2_with fail
  refine (to_any (R1.out.ls (by have := Zw1.out; have := Zw2.out; have := Zw3.out; have := Zw4.out; omega)) (by omega)).mono ?_
  rintro e w5 ⟨x1, rfl, o, b⟩
  obtain ⟨x1a, x1c, rfl⟩ := o.shape
  have Zw5 : Hid (w4.heap.size ≤ w5.heap.size) := b.size
  replace B0 : Hid (Below w.heap.size w w5) := B0.out.trans (b.mono (by have := Zw1.out; have := Zw2.out; have := Zw3.out; have := Zw4.out; omega))
  replace R0 : Hid (Rd w5 w.heap.size (.slice ao0 A0.length cap0) A0) := R0.out.below b (by have := Zw1.out; have := Zw2.out; have := Zw3.out; have := Zw4.out; omega)
  replace R1 : Hid (Rd w5 w.heap.size (.slice ao1 A1.length cap1) A1) := R1.out.below b (by have := Zw1.out; have := Zw2.out; have := Zw3.out; have := Zw4.out; omega)
  replace Or0 : Hid (Rd w5 w3.heap.size (.slice r0a R.length r0c) R) := Or0.out.below b (by have := Zw4.out; omega)
  replace Ox0 : Hid (wh.Own w5 w3.heap.size w4.heap.size (.slice x0a A0.length x0c) A0) := Ox0.out.below b (Nat.le_refl _)
  have Ox1 : Hid (wh.Own w5 w4.heap.size w5.heap.size (.slice x1a A1.length x1c) A1) := o
  clear o b
  go_wp2_with fail
  refine (HI.out w5 (.slice x0a A0.length x0c) (.slice x1a A1.length x1c) (Ox0.out.rd.ls (by have := Zw5.out; omega)) (Ox1.out.rd.ls (Nat.le_refl _))).mono ?_
  rintro e w6 ⟨g0, rfl, o0, b⟩
  obtain ⟨g0a, g0c, rfl⟩ := o0.shape
  have Zw6 : Hid (w5.heap.size ≤ w6.heap.size) := b.size
  replace B0 : Hid (Below w.heap.size w w6) := B0.out.trans (b.mono (by have := Zw1.out; have := Zw2.out; have := Zw3.out; have := Zw4.out; have := Zw5.out; omega))
  replace R0 : Hid (Rd w6 w.heap.size (.slice ao0 A0.length cap0) A0) := R0.out.below b (by have := Zw1.out; have := Zw2.out; have := Zw3.out; have := Zw4.out; have := Zw5.out; omega)
  replace R1 : Hid (Rd w6 w.heap.size (.slice ao1 A1.length cap1) A1) := R1.out.below b (by have := Zw1.out; have := Zw2.out; have := Zw3.out; have := Zw4.out; have := Zw5.out; omega)
  replace Or0 : Hid (Rd w6 w3.heap.size (.slice r0a R.length r0c) R) := Or0.out.below b (by have := Zw4.out; have := Zw5.out; omega)
  replace Ox0 : Hid (wh.Own w6 w3.heap.size w4.heap.size (.slice x0a A0.length x0c) A0) := Ox0.out.below b (by have := Zw5.out; omega)
  replace Ox1 : Hid (wh.Own w6 w4.heap.size w5.heap.size (.slice x1a A1.length x1c) A1) := Ox1.out.below b (Nat.le_refl _)
  have Og0 : Hid (wh.Own w6 w5.heap.size w6.heap.size (.slice g0a R.length g0c) R) := o0
  clear b o0
  go_wp2_with fail
  refine (eqS_any (Og0.out.rd.ls (Nat.le_refl _)) (Or0.out.ls (by have := Zw4.out; have := Zw5.out; have := Zw6.out; omega))).mono ?_
  rintro e w7 ⟨rfl, b⟩
  have Zw7 : Hid (w6.heap.size ≤ w7.heap.size) := b.size
  replace B0 : Hid (Below w.heap.size w w7) := B0.out.trans (b.mono (by have := Zw1.out; have := Zw2.out; have := Zw3.out; have := Zw4.out; have := Zw5.out; have := Zw6.out; omega))
  replace R0 : Hid (Rd w7 w.heap.size (.slice ao0 A0.length cap0) A0) := R0.out.below b (by have := Zw1.out; have := Zw2.out; have := Zw3.out; have := Zw4.out; have := Zw5.out; have := Zw6.out; omega)
  replace R1 : Hid (Rd w7 w.heap.size (.slice ao1 A1.length cap1) A1) := R1.out.below b (by have := Zw1.out; have := Zw2.out; have := Zw3.out; have := Zw4.out; have := Zw5.out; have := Zw6.out; omega)
  replace Or0 : Hid (Rd w7 w3.heap.size (.slice r0a R.length r0c) R) := Or0.out.below b (by have := Zw4.out; have := Zw5.out; have := Zw6.out; omega)
  replace Ox0 : Hid (wh.Own w7 w3.heap.size w4.heap.size (.slice x0a A0.length x0c) A0) := Ox0.out.below b (by have := Zw5.out; have := Zw6.out; omega)
  replace Ox1 : Hid (wh.Own w7 w4.heap.size w5.heap.size (.slice x1a A1.length x1c) A1) := Ox1.out.below b (by have := Zw6.out; omega)
  replace Og0 : Hid (wh.Own w7 w5.heap.size w6.heap.size (.slice g0a R.length g0c) R) := Og0.out.below b (Nat.le_refl _)
  clear b
  go_wp2_with fail
  refine (to_any (R0.out.ls (by have := Zw1.out; have := Zw2.out; have := Zw3.out; have := Zw4.out; have := Zw5.out; have := Zw6.out; have := Zw7.out; omega)) (by omega)).mono ?_
  rintro e w8 ⟨y0, rfl, o, b⟩
  obtain ⟨y0a, y0c, rfl⟩ := o.shape
  have Zw8 : Hid (w7.heap.size ≤ w8.heap.size) := b.size
  replace B0 : Hid (Below w.heap.size w w8) := B0.out.trans (b.mono (by have := Zw1.out; have := Zw2.out; have := Zw3.out; have := Zw4.out; have := Zw5.out; have := Zw6.out; have := Zw7.out; omega))
  replace R0 : Hid (Rd w8 w.heap.size (.slice ao0 A0.length cap0) A0) := R0.out.below b (by have := Zw1.out; have := Zw2.out; have := Zw3.out; have := Zw4.out; have := Zw5.out; have := Zw6.out; have := Zw7.out; omega)
  replace R1 : Hid (Rd w8 w.heap.size (.slice ao1 A1.length cap1) A1) := R1.out.below b (by have := Zw1.out; have := Zw2.out; have := Zw3.out; have := Zw4.out; have := Zw5.out; have := Zw6.out; have := Zw7.out; omega)
  replace Or0 : Hid (Rd w8 w3.heap.size (.slice r0a R.length r0c) R) := Or0.out.below b (by have := Zw4.out; have := Zw5.out; have := Zw6.out; have := Zw7.out; omega)
  replace Ox0 : Hid (wh.Own w8 w3.heap.size w4.heap.size (.slice x0a A0.length x0c) A0) := Ox0.out.below b (by have := Zw5.out; have := Zw6.out; have := Zw7.out; omega)
  replace Ox1 : Hid (wh.Own w8 w4.heap.size w5.heap.size (.slice x1a A1.length x1c) A1) := Ox1.out.below b (by have := Zw6.out; have := Zw7.out; omega)
  replace Og0 : Hid (wh.Own w8 w5.heap.size w6.heap.size (.slice g0a R.length g0c) R) := Og0.out.below b (by have := Zw7.out; omega)
  have Oy0 : Hid (wh.Own w8 w7.heap.size w8.heap.size (.slice y0a A0.length y0c) A0) := o
  clear o b
  go_wp2_with fail
  refine (eqS_any (Ox0.out.rd.ls (by have := Zw5.out; have := Zw6.out; have := Zw7.out; have := Zw8.out; omega)) (Oy0.out.rd.ls (Nat.le_refl _))).mono ?_
  rintro e w9 ⟨rfl, b⟩
  have Zw9 : Hid (w8.heap.size ≤ w9.heap.size) := b.size
  replace B0 : Hid (Below w.heap.size w w9) := B0.out.trans (b.mono (by have := Zw1.out; have := Zw2.out; have := Zw3.out; have := Zw4.out; have := Zw5.out; have := Zw6.out; have := Zw7.out; have := Zw8.out; omega))
  replace R0 : Hid (Rd w9 w.heap.size (.slice ao0 A0.length cap0) A0) := R0.out.below b (by have := Zw1.out; have := Zw2.out; have := Zw3.out; have := Zw4.out; have := Zw5.out; have := Zw6.out; have := Zw7.out; have := Zw8.out; omega)
  replace R1 : Hid (Rd w9 w.heap.size (.slice ao1 A1.length cap1) A1) := R1.out.below b (by have := Zw1.out; have := Zw2.out; have := Zw3.out; have := Zw4.out; have := Zw5.out; have := Zw6.out; have := Zw7.out; have := Zw8.out; omega)
  replace Or0 : Hid (Rd w9 w3.heap.size (.slice r0a R.length r0c) R) := Or0.out.below b (by have := Zw4.out; have := Zw5.out; have := Zw6.out; have := Zw7.out; have := Zw8.out; omega)
  replace Ox0 : Hid (wh.Own w9 w3.heap.size w4.heap.size (.slice x0a A0.length x0c) A0) := Ox0.out.below b (by have := Zw5.out; have := Zw6.out; have := Zw7.out; have := Zw8.out; omega)
  replace Ox1 : Hid (wh.Own w9 w4.heap.size w5.heap.size (.slice x1a A1.length x1c) A1) := Ox1.out.below b (by have := Zw6.out; have := Zw7.out; have := Zw8.out; omega)
  replace Og0 : Hid (wh.Own w9 w5.heap.size w6.heap.size (.slice g0a R.length g0c) R) := Og0.out.below b (by have := Zw7.out; have := Zw8.out; omega)
  replace Oy0 : Hid (wh.Own w9 w7.heap.size w8.heap.size (.slice y0a A0.length y0c) A0) := Oy0.out.below b (Nat.le_refl _)
  clear b
  clear Oy0
  go_wp2_with fail
  refine (to_any (R1.out.ls (by have := Zw1.out; have := Zw2.out; have := Zw3.out; have := Zw4.out; have := Zw5.out; have := Zw6.out; have := Zw7.out; have := Zw8.out; have := Zw9.out; omega)) (by omega)).mono ?_
  rintro e w10 ⟨y1, rfl, o, b⟩
  obtain ⟨y1a, y1c, rfl⟩ := o.shape
  have Zw10 : Hid (w9.heap.size ≤ w10.heap.size) := b.size
  replace B0 : Hid (Below w.heap.size w w10) := B0.out.trans (b.mono (by have := Zw1.out; have := Zw2.out; have := Zw3.out; have := Zw4.out; have := Zw5.out; have := Zw6.out; have := Zw7.out; have := Zw8.out; have := Zw9.out; omega))
  replace R0 : Hid (Rd w10 w.heap.size (.slice ao0 A0.length cap0) A0) := R0.out.below b (by have := Zw1.out; have := Zw2.out; have := Zw3.out; have := Zw4.out; have := Zw5.out; have := Zw6.out; have := Zw7.out; have := Zw8.out; have := Zw9.out; omega)
  replace R1 : Hid (Rd w10 w.heap.size (.slice ao1 A1.length cap1) A1) := R1.out.below b (by have := Zw1.out; have := Zw2.out; have := Zw3.out; have := Zw4.out; have := Zw5.out; have := Zw6.out; have := Zw7.out; have := Zw8.out; have := Zw9.out; omega)
  replace Or0 : Hid (Rd w10 w3.heap.size (.slice r0a R.length r0c) R) := Or0.out.below b (by have := Zw4.out; have := Zw5.out; have := Zw6.out; have := Zw7.out; have := Zw8.out; have := Zw9.out; omega)
  replace Ox0 : Hid (wh.Own w10 w3.heap.size w4.heap.size (.slice x0a A0.length x0c) A0) := Ox0.out.below b (by have := Zw5.out; have := Zw6.out; have := Zw7.out; have := Zw8.out; have := Zw9.out; omega)
  replace Ox1 : Hid (wh.Own w10 w4.heap.size w5.heap.size (.slice x1a A1.length x1c) A1) := Ox1.out.below b (by have := Zw6.out; have := Zw7.out; have := Zw8.out; have := Zw9.out; omega)
  replace Og0 : Hid (wh.Own w10 w5.heap.size w6.heap.size (.slice g0a R.length g0c) R) := Og0.out.below b (by have := Zw7.out; have := Zw8.out; have := Zw9.out; omega)
  have Oy1 : Hid (wh.Own w10 w9.heap.size w10.heap.size (.slice y1a A1.length y1c) A1) := o
  clear o b
  go_wp2_with fail
  refine (eqS_any (Ox1.out.rd.ls (by have := Zw6.out; have := Zw7.out; have := Zw8.out; have := Zw9.out; have := Zw10.out; omega)) (Oy1.out.rd.ls (Nat.le_refl _))).mono ?_
  rintro e w11 ⟨rfl, b⟩
  have Zw11 : Hid (w10.heap.size ≤ w11.heap.size) := b.size
  replace B0 : Hid (Below w.heap.size w w11) := B0.out.trans (b.mono (by have := Zw1.out; have := Zw2.out; have := Zw3.out; have := Zw4.out; have := Zw5.out; have := Zw6.out; have := Zw7.out; have := Zw8.out; have := Zw9.out; have := Zw10.out; omega))
  replace R0 : Hid (Rd w11 w.heap.size (.slice ao0 A0.length cap0) A0) := R0.out.below b (by have := Zw1.out; have := Zw2.out; have := Zw3.out; have := Zw4.out; have := Zw5.out; have := Zw6.out; have := Zw7.out; have := Zw8.out; have := Zw9.out; have := Zw10.out; omega)
  replace R1 : Hid (Rd w11 w.heap.size (.slice ao1 A1.length cap1) A1) := R1.out.below b (by have := Zw1.out; have := Zw2.out; have := Zw3.out; have := Zw4.out; have := Zw5.out; have := Zw6.out; have := Zw7.out; have := Zw8.out; have := Zw9.out; have := Zw10.out; omega)
  replace Or0 : Hid (Rd w11 w3.heap.size (.slice r0a R.length r0c) R) := Or0.out.below b (by have := Zw4.out; have := Zw5.out; have := Zw6.out; have := Zw7.out; have := Zw8.out; have := Zw9.out; have := Zw10.out; omega)
  replace Ox0 : Hid (wh.Own w11 w3.heap.size w4.heap.size (.slice x0a A0.length x0c) A0) := Ox0.out.below b (by have := Zw5.out; have := Zw6.out; have := Zw7.out; have := Zw8.out; have := Zw9.out; have := Zw10.out; omega)
  replace Ox1 : Hid (wh.Own w11 w4.heap.size w5.heap.size (.slice x1a A1.length x1c) A1) := Ox1.out.below b (by have := Zw6.out; have := Zw7.out; have := Zw8.out; have := Zw9.out; have := Zw10.out; omega)
  replace Og0 : Hid (wh.Own w11 w5.heap.size w6.heap.size (.slice g0a R.length g0c) R) := Og0.out.below b (by have := Zw7.out; have := Zw8.out; have := Zw9.out; have := Zw10.out; omega)
  replace Oy1 : Hid (wh.Own w11 w9.heap.size w10.heap.size (.slice y1a A1.length y1c) A1) := Oy1.out.below b (Nat.le_refl _)
  clear b
  clear Oy1
  go_wp2_with fail
  refine (mark_any Ox0.out (by omega) (by omega) (by omega)).mono ?_
  rintro e w12 ⟨rfl, o, t⟩
  clear Ox0
  have Zw12 : Hid (w11.heap.size ≤ w12.heap.size) := t.size
  replace B0 : Hid (Below w.heap.size w w12) := B0.out.trans (t.below (by have := Zw1.out; have := Zw2.out; have := Zw3.out; omega) (by have := Zw1.out; have := Zw2.out; have := Zw3.out; have := Zw4.out; have := Zw5.out; have := Zw6.out; have := Zw7.out; have := Zw8.out; have := Zw9.out; have := Zw10.out; have := Zw11.out; omega))
  replace R0 : Hid (Rd w12 w.heap.size (.slice ao0 A0.length cap0) A0) := R0.out.turned t (by have := Zw1.out; have := Zw2.out; have := Zw3.out; omega) (by have := Zw1.out; have := Zw2.out; have := Zw3.out; have := Zw4.out; have := Zw5.out; have := Zw6.out; have := Zw7.out; have := Zw8.out; have := Zw9.out; have := Zw10.out; have := Zw11.out; omega)
  replace R1 : Hid (Rd w12 w.heap.size (.slice ao1 A1.length cap1) A1) := R1.out.turned t (by have := Zw1.out; have := Zw2.out; have := Zw3.out; omega) (by have := Zw1.out; have := Zw2.out; have := Zw3.out; have := Zw4.out; have := Zw5.out; have := Zw6.out; have := Zw7.out; have := Zw8.out; have := Zw9.out; have := Zw10.out; have := Zw11.out; omega)
  replace Or0 : Hid (Rd w12 w3.heap.size (.slice r0a R.length r0c) R) := Or0.out.turned t (Nat.le_refl _) (by have := Zw4.out; have := Zw5.out; have := Zw6.out; have := Zw7.out; have := Zw8.out; have := Zw9.out; have := Zw10.out; have := Zw11.out; omega)
  replace Ox1 : Hid (wh.Own w12 w4.heap.size w5.heap.size (.slice x1a A1.length x1c) A1) := Ox1.out.turned t (.inr (Nat.le_refl _))
  replace Og0 : Hid (wh.Own w12 w5.heap.size w6.heap.size (.slice g0a R.length g0c) R) := Og0.out.turned t (.inr (by have := Zw5.out; omega))
  have Ox0 : Hid (wh.Own w12 w3.heap.size w4.heap.size (.slice x0a A0.length x0c) (mk (1) A0.length)) := o
  clear o t
  go_wp2_with fail
  refine (mark_any Ox1.out (by omega) (by omega) (by omega)).mono ?_
  rintro e w13 ⟨rfl, o, t⟩
  clear Ox1
  have Zw13 : Hid (w12.heap.size ≤ w13.heap.size) := t.size
  replace B0 : Hid (Below w.heap.size w w13) := B0.out.trans (t.below (by have := Zw1.out; have := Zw2.out; have := Zw3.out; have := Zw4.out; omega) (by have := Zw1.out; have := Zw2.out; have := Zw3.out; have := Zw4.out; have := Zw5.out; have := Zw6.out; have := Zw7.out; have := Zw8.out; have := Zw9.out; have := Zw10.out; have := Zw11.out; have := Zw12.out; omega))
  replace R0 : Hid (Rd w13 w.heap.size (.slice ao0 A0.length cap0) A0) := R0.out.turned t (by have := Zw1.out; have := Zw2.out; have := Zw3.out; have := Zw4.out; omega) (by have := Zw1.out; have := Zw2.out; have := Zw3.out; have := Zw4.out; have := Zw5.out; have := Zw6.out; have := Zw7.out; have := Zw8.out; have := Zw9.out; have := Zw10.out; have := Zw11.out; have := Zw12.out; omega)
  replace R1 : Hid (Rd w13 w.heap.size (.slice ao1 A1.length cap1) A1) := R1.out.turned t (by have := Zw1.out; have := Zw2.out; have := Zw3.out; have := Zw4.out; omega) (by have := Zw1.out; have := Zw2.out; have := Zw3.out; have := Zw4.out; have := Zw5.out; have := Zw6.out; have := Zw7.out; have := Zw8.out; have := Zw9.out; have := Zw10.out; have := Zw11.out; have := Zw12.out; omega)
  replace Or0 : Hid (Rd w13 w3.heap.size (.slice r0a R.length r0c) R) := Or0.out.turned t (by have := Zw4.out; omega) (by have := Zw4.out; have := Zw5.out; have := Zw6.out; have := Zw7.out; have := Zw8.out; have := Zw9.out; have := Zw10.out; have := Zw11.out; have := Zw12.out; omega)
  replace Og0 : Hid (wh.Own w13 w5.heap.size w6.heap.size (.slice g0a R.length g0c) R) := Og0.out.turned t (.inr (Nat.le_refl _))
  replace Ox0 : Hid (wh.Own w13 w3.heap.size w4.heap.size (.slice x0a A0.length x0c) (mk (1) A0.length)) := Ox0.out.turned t (.inl (Nat.le_refl _))
  have Ox1 : Hid (wh.Own w13 w4.heap.size w5.heap.size (.slice x1a A1.length x1c) (mk (1 + (A0.length : Int)) A1.length)) := o
  clear o t
  clear Ox0
  clear Ox1
  go_wp2_with fail
  refine (eqS_any (Og0.out.rd.ls (by have := Zw7.out; have := Zw8.out; have := Zw9.out; have := Zw10.out; have := Zw11.out; have := Zw12.out; have := Zw13.out; omega)) (Or0.out.ls (by have := Zw4.out; have := Zw5.out; have := Zw6.out; have := Zw7.out; have := Zw8.out; have := Zw9.out; have := Zw10.out; have := Zw11.out; have := Zw12.out; have := Zw13.out; omega))).mono ?_
  rintro e w14 ⟨rfl, b⟩
  have Zw14 : Hid (w13.heap.size ≤ w14.heap.size) := b.size
  replace B0 : Hid (Below w.heap.size w w14) := B0.out.trans (b.mono (by have := Zw1.out; have := Zw2.out; have := Zw3.out; have := Zw4.out; have := Zw5.out; have := Zw6.out; have := Zw7.out; have := Zw8.out; have := Zw9.out; have := Zw10.out; have := Zw11.out; have := Zw12.out; have := Zw13.out; omega))
  replace R0 : Hid (Rd w14 w.heap.size (.slice ao0 A0.length cap0) A0) := R0.out.below b (by have := Zw1.out; have := Zw2.out; have := Zw3.out; have := Zw4.out; have := Zw5.out; have := Zw6.out; have := Zw7.out; have := Zw8.out; have := Zw9.out; have := Zw10.out; have := Zw11.out; have := Zw12.out; have := Zw13.out; omega)
  replace R1 : Hid (Rd w14 w.heap.size (.slice ao1 A1.length cap1) A1) := R1.out.below b (by have := Zw1.out; have := Zw2.out; have := Zw3.out; have := Zw4.out; have := Zw5.out; have := Zw6.out; have := Zw7.out; have := Zw8.out; have := Zw9.out; have := Zw10.out; have := Zw11.out; have := Zw12.out; have := Zw13.out; omega)
  replace Or0 : Hid (Rd w14 w3.heap.size (.slice r0a R.length r0c) R) := Or0.out.below b (by have := Zw4.out; have := Zw5.out; have := Zw6.out; have := Zw7.out; have := Zw8.out; have := Zw9.out; have := Zw10.out; have := Zw11.out; have := Zw12.out; have := Zw13.out; omega)
  replace Og0 : Hid (wh.Own w14 w5.heap.size w6.heap.size (.slice g0a R.length g0c) R) := Og0.out.below b (by have := Zw7.out; have := Zw8.out; have := Zw9.out; have := Zw10.out; have := Zw11.out; have := Zw12.out; have := Zw13.out; omega)
  clear b
  go_wp2_with fail
  refine (mark_any Og0.out (by omega) (by omega) (by omega)).mono ?_
  rintro e w15 ⟨rfl, o, t⟩
  clear Og0
  have Zw15 : Hid (w14.heap.size ≤ w15.heap.size) := t.size
  replace B0 : Hid (Below w.heap.size w w15) := B0.out.trans (t.below (by have := Zw1.out; have := Zw2.out; have := Zw3.out; have := Zw4.out; have := Zw5.out; omega) (by have := Zw1.out; have := Zw2.out; have := Zw3.out; have := Zw4.out; have := Zw5.out; have := Zw6.out; have := Zw7.out; have := Zw8.out; have := Zw9.out; have := Zw10.out; have := Zw11.out; have := Zw12.out; have := Zw13.out; have := Zw14.out; omega))
  replace R0 : Hid (Rd w15 w.heap.size (.slice ao0 A0.length cap0) A0) := R0.out.turned t (by have := Zw1.out; have := Zw2.out; have := Zw3.out; have := Zw4.out; have := Zw5.out; omega) (by have := Zw1.out; have := Zw2.out; have := Zw3.out; have := Zw4.out; have := Zw5.out; have := Zw6.out; have := Zw7.out; have := Zw8.out; have := Zw9.out; have := Zw10.out; have := Zw11.out; have := Zw12.out; have := Zw13.out; have := Zw14.out; omega)
  replace R1 : Hid (Rd w15 w.heap.size (.slice ao1 A1.length cap1) A1) := R1.out.turned t (by have := Zw1.out; have := Zw2.out; have := Zw3.out; have := Zw4.out; have := Zw5.out; omega) (by have := Zw1.out; have := Zw2.out; have := Zw3.out; have := Zw4.out; have := Zw5.out; have := Zw6.out; have := Zw7.out; have := Zw8.out; have := Zw9.out; have := Zw10.out; have := Zw11.out; have := Zw12.out; have := Zw13.out; have := Zw14.out; omega)
  replace Or0 : Hid (Rd w15 w3.heap.size (.slice r0a R.length r0c) R) := Or0.out.turned t (by have := Zw4.out; have := Zw5.out; omega) (by have := Zw4.out; have := Zw5.out; have := Zw6.out; have := Zw7.out; have := Zw8.out; have := Zw9.out; have := Zw10.out; have := Zw11.out; have := Zw12.out; have := Zw13.out; have := Zw14.out; omega)
  have Og0 : Hid (wh.Own w15 w5.heap.size w6.heap.size (.slice g0a R.length g0c) (mk (1) R.length)) := o
  clear o t
  go_wp2_with fail
  refine (heldS_any (Og0.out.rd.ls (by have := Zw7.out; have := Zw8.out; have := Zw9.out; have := Zw10.out; have := Zw11.out; have := Zw12.out; have := Zw13.out; have := Zw14.out; have := Zw15.out; omega)) (by omega) (by omega) (by omega)).mono ?_
  rintro e w16 ⟨rfl, b⟩
  have Zw16 : Hid (w15.heap.size ≤ w16.heap.size) := b.size
  replace B0 : Hid (Below w.heap.size w w16) := B0.out.trans (b.mono (by have := Zw1.out; have := Zw2.out; have := Zw3.out; have := Zw4.out; have := Zw5.out; have := Zw6.out; have := Zw7.out; have := Zw8.out; have := Zw9.out; have := Zw10.out; have := Zw11.out; have := Zw12.out; have := Zw13.out; have := Zw14.out; have := Zw15.out; omega))
  replace R0 : Hid (Rd w16 w.heap.size (.slice ao0 A0.length cap0) A0) := R0.out.below b (by have := Zw1.out; have := Zw2.out; have := Zw3.out; have := Zw4.out; have := Zw5.out; have := Zw6.out; have := Zw7.out; have := Zw8.out; have := Zw9.out; have := Zw10.out; have := Zw11.out; have := Zw12.out; have := Zw13.out; have := Zw14.out; have := Zw15.out; omega)
  replace R1 : Hid (Rd w16 w.heap.size (.slice ao1 A1.length cap1) A1) := R1.out.below b (by have := Zw1.out; have := Zw2.out; have := Zw3.out; have := Zw4.out; have := Zw5.out; have := Zw6.out; have := Zw7.out; have := Zw8.out; have := Zw9.out; have := Zw10.out; have := Zw11.out; have := Zw12.out; have := Zw13.out; have := Zw14.out; have := Zw15.out; omega)
  replace Or0 : Hid (Rd w16 w3.heap.size (.slice r0a R.length r0c) R) := Or0.out.below b (by have := Zw4.out; have := Zw5.out; have := Zw6.out; have := Zw7.out; have := Zw8.out; have := Zw9.out; have := Zw10.out; have := Zw11.out; have := Zw12.out; have := Zw13.out; have := Zw14.out; have := Zw15.out; omega)
  replace Og0 : Hid (wh.Own w16 w5.heap.size w6.heap.size (.slice g0a R.length g0c) (mk (1) R.length)) := Og0.out.below b (by have := Zw7.out; have := Zw8.out; have := Zw9.out; have := Zw10.out; have := Zw11.out; have := Zw12.out; have := Zw13.out; have := Zw14.out; have := Zw15.out; omega)
  clear b
  go_wp2_with fail
  refine (to_any (R0.out.ls (by have := Zw1.out; have := Zw2.out; have := Zw3.out; have := Zw4.out; have := Zw5.out; have := Zw6.out; have := Zw7.out; have := Zw8.out; have := Zw9.out; have := Zw10.out; have := Zw11.out; have := Zw12.out; have := Zw13.out; have := Zw14.out; have := Zw15.out; have := Zw16.out; omega)) (by omega)).mono ?_
  rintro e w17 ⟨t0, rfl, o, b⟩
  obtain ⟨t0a, t0c, rfl⟩ := o.shape
  have Zw17 : Hid (w16.heap.size ≤ w17.heap.size) := b.size
  replace B0 : Hid (Below w.heap.size w w17) := B0.out.trans (b.mono (by have := Zw1.out; have := Zw2.out; have := Zw3.out; have := Zw4.out; have := Zw5.out; have := Zw6.out; have := Zw7.out; have := Zw8.out; have := Zw9.out; have := Zw10.out; have := Zw11.out; have := Zw12.out; have := Zw13.out; have := Zw14.out; have := Zw15.out; have := Zw16.out; omega))
  replace R0 : Hid (Rd w17 w.heap.size (.slice ao0 A0.length cap0) A0) := R0.out.below b (by have := Zw1.out; have := Zw2.out; have := Zw3.out; have := Zw4.out; have := Zw5.out; have := Zw6.out; have := Zw7.out; have := Zw8.out; have := Zw9.out; have := Zw10.out; have := Zw11.out; have := Zw12.out; have := Zw13.out; have := Zw14.out; have := Zw15.out; have := Zw16.out; omega)
  replace R1 : Hid (Rd w17 w.heap.size (.slice ao1 A1.length cap1) A1) := R1.out.below b (by have := Zw1.out; have := Zw2.out; have := Zw3.out; have := Zw4.out; have := Zw5.out; have := Zw6.out; have := Zw7.out; have := Zw8.out; have := Zw9.out; have := Zw10.out; have := Zw11.out; have := Zw12.out; have := Zw13.out; have := Zw14.out; have := Zw15.out; have := Zw16.out; omega)
  replace Or0 : Hid (Rd w17 w3.heap.size (.slice r0a R.length r0c) R) := Or0.out.below b (by have := Zw4.out; have := Zw5.out; have := Zw6.out; have := Zw7.out; have := Zw8.out; have := Zw9.out; have := Zw10.out; have := Zw11.out; have := Zw12.out; have := Zw13.out; have := Zw14.out; have := Zw15.out; have := Zw16.out; omega)
  replace Og0 : Hid (wh.Own w17 w5.heap.size w6.heap.size (.slice g0a R.length g0c) (mk (1) R.length)) := Og0.out.below b (by have := Zw7.out; have := Zw8.out; have := Zw9.out; have := Zw10.out; have := Zw11.out; have := Zw12.out; have := Zw13.out; have := Zw14.out; have := Zw15.out; have := Zw16.out; omega)
  have Ot0 : Hid (wh.Own w17 w16.heap.size w17.heap.size (.slice t0a A0.length t0c) A0) := o
  clear o b
  go_wp2_with fail
  refine (to_any (R1.out.ls (by have := Zw1.out; have := Zw2.out; have := Zw3.out; have := Zw4.out; have := Zw5.out; have := Zw6.out; have := Zw7.out; have := Zw8.out; have := Zw9.out; have := Zw10.out; have := Zw11.out; have := Zw12.out; have := Zw13.out; have := Zw14.out; have := Zw15.out; have := Zw16.out; have := Zw17.out; omega)) (by omega)).mono ?_
  rintro e w18 ⟨t1, rfl, o, b⟩
  obtain ⟨t1a, t1c, rfl⟩ := o.shape
  have Zw18 : Hid (w17.heap.size ≤ w18.heap.size) := b.size
  replace B0 : Hid (Below w.heap.size w w18) := B0.out.trans (b.mono (by have := Zw1.out; have := Zw2.out; have := Zw3.out; have := Zw4.out; have := Zw5.out; have := Zw6.out; have := Zw7.out; have := Zw8.out; have := Zw9.out; have := Zw10.out; have := Zw11.out; have := Zw12.out; have := Zw13.out; have := Zw14.out; have := Zw15.out; have := Zw16.out; have := Zw17.out; omega))
  replace R0 : Hid (Rd w18 w.heap.size (.slice ao0 A0.length cap0) A0) := R0.out.below b (by have := Zw1.out; have := Zw2.out; have := Zw3.out; have := Zw4.out; have := Zw5.out; have := Zw6.out; have := Zw7.out; have := Zw8.out; have := Zw9.out; have := Zw10.out; have := Zw11.out; have := Zw12.out; have := Zw13.out; have := Zw14.out; have := Zw15.out; have := Zw16.out; have := Zw17.out; omega)
  replace R1 : Hid (Rd w18 w.heap.size (.slice ao1 A1.length cap1) A1) := R1.out.below b (by have := Zw1.out; have := Zw2.out; have := Zw3.out; have := Zw4.out; have := Zw5.out; have := Zw6.out; have := Zw7.out; have := Zw8.out; have := Zw9.out; have := Zw10.out; have := Zw11.out; have := Zw12.out; have := Zw13.out; have := Zw14.out; have := Zw15.out; have := Zw16.out; have := Zw17.out; omega)
  replace Or0 : Hid (Rd w18 w3.heap.size (.slice r0a R.length r0c) R) := Or0.out.below b (by have := Zw4.out; have := Zw5.out; have := Zw6.out; have := Zw7.out; have := Zw8.out; have := Zw9.out; have := Zw10.out; have := Zw11.out; have := Zw12.out; have := Zw13.out; have := Zw14.out; have := Zw15.out; have := Zw16.out; have := Zw17.out; omega)
  replace Og0 : Hid (wh.Own w18 w5.heap.size w6.heap.size (.slice g0a R.length g0c) (mk (1) R.length)) := Og0.out.below b (by have := Zw7.out; have := Zw8.out; have := Zw9.out; have := Zw10.out; have := Zw11.out; have := Zw12.out; have := Zw13.out; have := Zw14.out; have := Zw15.out; have := Zw16.out; have := Zw17.out; omega)
  replace Ot0 : Hid (wh.Own w18 w16.heap.size w17.heap.size (.slice t0a A0.length t0c) A0) := Ot0.out.below b (Nat.le_refl _)
  have Ot1 : Hid (wh.Own w18 w17.heap.size w18.heap.size (.slice t1a A1.length t1c) A1) := o
  clear o b
  go_wp2_with fail
  refine (HI.out w18 (.slice t0a A0.length t0c) (.slice t1a A1.length t1c) (Ot0.out.rd.ls (by have := Zw18.out; omega)) (Ot1.out.rd.ls (Nat.le_refl _))).mono ?_
  rintro e w19 ⟨h0, rfl, o0, b⟩
  obtain ⟨h0a, h0c, rfl⟩ := o0.shape
  have Zw19 : Hid (w18.heap.size ≤ w19.heap.size) := b.size
  replace B0 : Hid (Below w.heap.size w w19) := B0.out.trans (b.mono (by have := Zw1.out; have := Zw2.out; have := Zw3.out; have := Zw4.out; have := Zw5.out; have := Zw6.out; have := Zw7.out; have := Zw8.out; have := Zw9.out; have := Zw10.out; have := Zw11.out; have := Zw12.out; have := Zw13.out; have := Zw14.out; have := Zw15.out; have := Zw16.out; have := Zw17.out; have := Zw18.out; omega))
  replace R0 : Hid (Rd w19 w.heap.size (.slice ao0 A0.length cap0) A0) := R0.out.below b (by have := Zw1.out; have := Zw2.out; have := Zw3.out; have := Zw4.out; have := Zw5.out; have := Zw6.out; have := Zw7.out; have := Zw8.out; have := Zw9.out; have := Zw10.out; have := Zw11.out; have := Zw12.out; have := Zw13.out; have := Zw14.out; have := Zw15.out; have := Zw16.out; have := Zw17.out; have := Zw18.out; omega)
  replace R1 : Hid (Rd w19 w.heap.size (.slice ao1 A1.length cap1) A1) := R1.out.below b (by have := Zw1.out; have := Zw2.out; have := Zw3.out; have := Zw4.out; have := Zw5.out; have := Zw6.out; have := Zw7.out; have := Zw8.out; have := Zw9.out; have := Zw10.out; have := Zw11.out; have := Zw12.out; have := Zw13.out; have := Zw14.out; have := Zw15.out; have := Zw16.out; have := Zw17.out; have := Zw18.out; omega)
  replace Or0 : Hid (Rd w19 w3.heap.size (.slice r0a R.length r0c) R) := Or0.out.below b (by have := Zw4.out; have := Zw5.out; have := Zw6.out; have := Zw7.out; have := Zw8.out; have := Zw9.out; have := Zw10.out; have := Zw11.out; have := Zw12.out; have := Zw13.out; have := Zw14.out; have := Zw15.out; have := Zw16.out; have := Zw17.out; have := Zw18.out; omega)
  replace Og0 : Hid (wh.Own w19 w5.heap.size w6.heap.size (.slice g0a R.length g0c) (mk (1) R.length)) := Og0.out.below b (by have := Zw7.out; have := Zw8.out; have := Zw9.out; have := Zw10.out; have := Zw11.out; have := Zw12.out; have := Zw13.out; have := Zw14.out; have := Zw15.out; have := Zw16.out; have := Zw17.out; have := Zw18.out; omega)
  replace Ot0 : Hid (wh.Own w19 w16.heap.size w17.heap.size (.slice t0a A0.length t0c) A0) := Ot0.out.below b (by have := Zw18.out; omega)
  replace Ot1 : Hid (wh.Own w19 w17.heap.size w18.heap.size (.slice t1a A1.length t1c) A1) := Ot1.out.below b (Nat.le_refl _)
  have Oh0 : Hid (wh.Own w19 w18.heap.size w19.heap.size (.slice h0a R.length h0c) R) := o0
  clear b o0
  clear Ot0
  clear Ot1
  go_wp2_with fail
  refine (eqS_any (Oh0.out.rd.ls (Nat.le_refl _)) (Or0.out.ls (by have := Zw4.out; have := Zw5.out; have := Zw6.out; have := Zw7.out; have := Zw8.out; have := Zw9.out; have := Zw10.out; have := Zw11.out; have := Zw12.out; have := Zw13.out; have := Zw14.out; have := Zw15.out; have := Zw16.out; have := Zw17.out; have := Zw18.out; have := Zw19.out; omega))).mono ?_
  rintro e w20 ⟨rfl, b⟩
  have Zw20 : Hid (w19.heap.size ≤ w20.heap.size) := b.size
  replace B0 : Hid (Below w.heap.size w w20) := B0.out.trans (b.mono (by have := Zw1.out; have := Zw2.out; have := Zw3.out; have := Zw4.out; have := Zw5.out; have := Zw6.out; have := Zw7.out; have := Zw8.out; have := Zw9.out; have := Zw10.out; have := Zw11.out; have := Zw12.out; have := Zw13.out; have := Zw14.out; have := Zw15.out; have := Zw16.out; have := Zw17.out; have := Zw18.out; have := Zw19.out; omega))
  replace R0 : Hid (Rd w20 w.heap.size (.slice ao0 A0.length cap0) A0) := R0.out.below b (by have := Zw1.out; have := Zw2.out; have := Zw3.out; have := Zw4.out; have := Zw5.out; have := Zw6.out; have := Zw7.out; have := Zw8.out; have := Zw9.out; have := Zw10.out; have := Zw11.out; have := Zw12.out; have := Zw13.out; have := Zw14.out; have := Zw15.out; have := Zw16.out; have := Zw17.out; have := Zw18.out; have := Zw19.out; omega)
  replace R1 : Hid (Rd w20 w.heap.size (.slice ao1 A1.length cap1) A1) := R1.out.below b (by have := Zw1.out; have := Zw2.out; have := Zw3.out; have := Zw4.out; have := Zw5.out; have := Zw6.out; have := Zw7.out; have := Zw8.out; have := Zw9.out; have := Zw10.out; have := Zw11.out; have := Zw12.out; have := Zw13.out; have := Zw14.out; have := Zw15.out; have := Zw16.out; have := Zw17.out; have := Zw18.out; have := Zw19.out; omega)
  replace Or0 : Hid (Rd w20 w3.heap.size (.slice r0a R.length r0c) R) := Or0.out.below b (by have := Zw4.out; have := Zw5.out; have := Zw6.out; have := Zw7.out; have := Zw8.out; have := Zw9.out; have := Zw10.out; have := Zw11.out; have := Zw12.out; have := Zw13.out; have := Zw14.out; have := Zw15.out; have := Zw16.out; have := Zw17.out; have := Zw18.out; have := Zw19.out; omega)
  replace Og0 : Hid (wh.Own w20 w5.heap.size w6.heap.size (.slice g0a R.length g0c) (mk (1) R.length)) := Og0.out.below b (by have := Zw7.out; have := Zw8.out; have := Zw9.out; have := Zw10.out; have := Zw11.out; have := Zw12.out; have := Zw13.out; have := Zw14.out; have := Zw15.out; have := Zw16.out; have := Zw17.out; have := Zw18.out; have := Zw19.out; omega)
  replace Oh0 : Hid (wh.Own w20 w18.heap.size w19.heap.size (.slice h0a R.length h0c) R) := Oh0.out.below b (Nat.le_refl _)
  clear b
  clear Oh0
  go_wp2_with fail
  refine (heldS_any (Og0.out.rd.ls (by have := Zw7.out; have := Zw8.out; have := Zw9.out; have := Zw10.out; have := Zw11.out; have := Zw12.out; have := Zw13.out; have := Zw14.out; have := Zw15.out; have := Zw16.out; have := Zw17.out; have := Zw18.out; have := Zw19.out; have := Zw20.out; omega)) (by omega) (by omega) (by omega)).mono ?_
  rintro e w21 ⟨rfl, b⟩
  have Zw21 : Hid (w20.heap.size ≤ w21.heap.size) := b.size
  replace B0 : Hid (Below w.heap.size w w21) := B0.out.trans (b.mono (by have := Zw1.out; have := Zw2.out; have := Zw3.out; have := Zw4.out; have := Zw5.out; have := Zw6.out; have := Zw7.out; have := Zw8.out; have := Zw9.out; have := Zw10.out; have := Zw11.out; have := Zw12.out; have := Zw13.out; have := Zw14.out; have := Zw15.out; have := Zw16.out; have := Zw17.out; have := Zw18.out; have := Zw19.out; have := Zw20.out; omega))
  replace R0 : Hid (Rd w21 w.heap.size (.slice ao0 A0.length cap0) A0) := R0.out.below b (by have := Zw1.out; have := Zw2.out; have := Zw3.out; have := Zw4.out; have := Zw5.out; have := Zw6.out; have := Zw7.out; have := Zw8.out; have := Zw9.out; have := Zw10.out; have := Zw11.out; have := Zw12.out; have := Zw13.out; have := Zw14.out; have := Zw15.out; have := Zw16.out; have := Zw17.out; have := Zw18.out; have := Zw19.out; have := Zw20.out; omega)
  replace R1 : Hid (Rd w21 w.heap.size (.slice ao1 A1.length cap1) A1) := R1.out.below b (by have := Zw1.out; have := Zw2.out; have := Zw3.out; have := Zw4.out; have := Zw5.out; have := Zw6.out; have := Zw7.out; have := Zw8.out; have := Zw9.out; have := Zw10.out; have := Zw11.out; have := Zw12.out; have := Zw13.out; have := Zw14.out; have := Zw15.out; have := Zw16.out; have := Zw17.out; have := Zw18.out; have := Zw19.out; have := Zw20.out; omega)
  replace Or0 : Hid (Rd w21 w3.heap.size (.slice r0a R.length r0c) R) := Or0.out.below b (by have := Zw4.out; have := Zw5.out; have := Zw6.out; have := Zw7.out; have := Zw8.out; have := Zw9.out; have := Zw10.out; have := Zw11.out; have := Zw12.out; have := Zw13.out; have := Zw14.out; have := Zw15.out; have := Zw16.out; have := Zw17.out; have := Zw18.out; have := Zw19.out; have := Zw20.out; omega)
  replace Og0 : Hid (wh.Own w21 w5.heap.size w6.heap.size (.slice g0a R.length g0c) (mk (1) R.length)) := Og0.out.below b (by have := Zw7.out; have := Zw8.out; have := Zw9.out; have := Zw10.out; have := Zw11.out; have := Zw12.out; have := Zw13.out; have := Zw14.out; have := Zw15.out; have := Zw16.out; have := Zw17.out; have := Zw18.out; have := Zw19.out; have := Zw20.out; omega)
  clear b
  go_wp2_with fail
  go_ret
  exact ⟨rfl, B0.out⟩
end Go.Proofs.Ytfmdbgpalldjoaa.fnExactFollowRuleW
