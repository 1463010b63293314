/- The law FnExactDivideRoot: its walk, over what both sides answer. -/
import Derived.Test.YthldlhpdnocmcabDivideRootF
import Derived.Test.YthldlhpdnocmcabWr
import Derived.Deep.RegionHeld3
import Derived.Deep.DeepCutAuto
namespace Go.Proofs.Ythldlhpdnocmcab.fnExactDivideRootW
open Go.RowKit Go.Proofs.Ythldlhpdnocmcab.wh

set_option maxRecDepth 100000 in
set_option maxHeartbeats 4000000 in
theorem walk (v0 : Value) (a1 : Int) (a2 : Int) (w : World) (h0 : ∃ L, Wh w v0 L) (b1 : (Lit.int .i64 a1).wf = true) (b2 : (Lit.int .i64 a2).wf = true) :
    Calls Try.prog 5 #[v0, .int .i64 a1, .int .i64 a2] w fun e w' => e = .returned (.bool true) ∧ Below w.heap.size w w' := by
  obtain ⟨A0, s0, rfl, h0⟩ := h0
  obtain ⟨R, hR⟩ : ∃ r : List Int, r = fDivideRoot.R A0 a1 a2 := ⟨_, rfl⟩
  obtain ⟨ok, hok⟩ : ∃ r : Bool, r = fDivideRoot.ok A0 a1 a2 := ⟨_, rfl⟩
  have HS : Hid (∀ (w : World) (v0 : Value), Ls w v0 A0 → Calls Try.prog 20 #[.agg #[v0], .int .i64 a1, .int .i64 a2] w (AnsS R ok w)) := fun w v0 h0 => by rw [hR, hok]; exact fDivideRoot.spec_any ⟨_, rfl, h0⟩ a1 b1 a2 b2
  have HI : Hid (∀ (w : World) (v0 : Value), Ls w v0 A0 → Calls Try.prog 21 #[.agg #[v0], .int .i64 a1, .int .i64 a2] w (AnsI R ok w)) := fun w v0 h0 => by rw [hR, hok]; exact fDivideRoot.impl_any ⟨_, rfl, h0⟩ a1 b1 a2 b2
  have hlen : (R.length : Int) ≤ 1000 := by rw [hR]; have := fDivideRoot.len A0 a1 a2; omega
  clear hR hok
  clear b1 b2
  have R0 : Hid (Rd w w.heap.size s0 A0) := h0
  clear h0
  have B0 : Hid (Below w.heap.size w w) := Below.refl _ _
  by_cases hs0 : (A0.length : Int) ≤ 1048576
  case neg =>
    clear HS HI hlen
    go_enter Try.func5, Try.ntmps5
    go_wp2_with fail
    obtain ⟨w1, hw⟩ : ∃ x, x = (w.alloc (.cells #[s0] 34)) := ⟨_, rfl⟩
    rw [← hw]
    have b : Below w.heap.size w w1 := by rw [hw]; exact new1 _ _ 
    have Zw1 : Hid (w.heap.size ≤ w1.heap.size) := b.size
    replace B0 : Hid (Below w.heap.size w w1) := B0.out.trans (b.mono (Nat.le_refl _))
    replace R0 : Hid (Rd w1 w.heap.size s0 A0) := R0.out.below b (Nat.le_refl _)
    have XP0 : Hid (Bx w1 w.heap.size s0) := by rw [hw]; exact Bx.new _ _ _
    have cXP0 : w1.cell? ⟨w.heap.size, 0, none⟩ = some s0 := XP0.out.cell
    have LXP0 : Hid (w.heap.size < w1.heap.size) := XP0.out.lt
    clear b hw
    refine (szR_no ⟨_, rfl, (R0.out.ls (by have := Zw1.out; omega))⟩ (by omega) (by omega) (by omega)).mono ?_
    rintro e w2 ⟨rfl, b⟩
    have Zw2 : Hid (w1.heap.size ≤ w2.heap.size) := b.size
    replace B0 : Hid (Below w.heap.size w w2) := B0.out.trans (b.mono (by have := Zw1.out; omega))
    replace R0 : Hid (Rd w2 w.heap.size s0 A0) := R0.out.below b (by have := Zw1.out; omega)
    replace XP0 : Hid (Bx w2 w.heap.size s0) := XP0.out.kept b
    replace cXP0 : w2.cell? ⟨w.heap.size, 0, none⟩ = some s0 := XP0.out.cell
    clear b
    go_wp2_with fail
    go_ret
    exact ⟨rfl, B0.out⟩
  go_enter Try.func5, Try.ntmps5
  go_wp2_with fail
  obtain ⟨w1, hw⟩ : ∃ x, x = (w.alloc (.cells #[s0] 34)) := ⟨_, rfl⟩
  rw [← hw]
  have b : Below w.heap.size w w1 := by rw [hw]; exact new1 _ _ 
  have Zw1 : Hid (w.heap.size ≤ w1.heap.size) := b.size
  replace B0 : Hid (Below w.heap.size w w1) := B0.out.trans (b.mono (Nat.le_refl _))
  replace R0 : Hid (Rd w1 w.heap.size s0 A0) := R0.out.below b (Nat.le_refl _)
  have XP0 : Hid (Bx w1 w.heap.size s0) := by rw [hw]; exact Bx.new _ _ _
  have cXP0 : w1.cell? ⟨w.heap.size, 0, none⟩ = some s0 := XP0.out.cell
  have LXP0 : Hid (w.heap.size < w1.heap.size) := XP0.out.lt
  clear b hw
  refine (szR_yes ⟨_, rfl, (R0.out.ls (by have := Zw1.out; omega))⟩ (by omega) (by omega)).mono ?_
  rintro e w2 ⟨rfl, b⟩
  have Zw2 : Hid (w1.heap.size ≤ w2.heap.size) := b.size
  replace B0 : Hid (Below w.heap.size w w2) := B0.out.trans (b.mono (by have := Zw1.out; omega))
  replace R0 : Hid (Rd w2 w.heap.size s0 A0) := R0.out.below b (by have := Zw1.out; omega)
  replace XP0 : Hid (Bx w2 w.heap.size s0) := XP0.out.kept b
  replace cXP0 : w2.cell? ⟨w.heap.size, 0, none⟩ = some s0 := XP0.out.cell
  clear b
  go_wp2_with fail
  refine (toR_any ⟨_, rfl, (R0.out.ls (by have := Zw1.out; have := Zw2.out; omega))⟩ (by omega)).mono ?_
  rintro e w3 ⟨_, rfl, ⟨s_0, rfl, o⟩, b⟩
  obtain ⟨s_0a, s_0c, rfl⟩ := o.shape
  have Zw3 : Hid (w2.heap.size ≤ w3.heap.size) := b.size
  replace B0 : Hid (Below w.heap.size w w3) := B0.out.trans (b.mono (by have := Zw1.out; have := Zw2.out; omega))
  replace R0 : Hid (Rd w3 w.heap.size s0 A0) := R0.out.below b (by have := Zw1.out; have := Zw2.out; omega)
  replace XP0 : Hid (Bx w3 w.heap.size s0) := XP0.out.kept b
  replace cXP0 : w3.cell? ⟨w.heap.size, 0, none⟩ = some s0 := XP0.out.cell
  have Os_0 : Hid (Own w3 w2.heap.size w3.heap.size (.slice s_0a A0.length s_0c) A0) := o
  clear o b
  go_wp2_with fail
  refine (HS.out w3 (.slice s_0a A0.length s_0c) (Os_0.out.rd.ls (Nat.le_refl _))).mono ?_
  rintro e w4 ⟨_, rfl, ⟨r0, rfl, o0⟩, b⟩
  obtain ⟨r0a, r0c, rfl⟩ := o0.shape
  have Zw4 : Hid (w3.heap.size ≤ w4.heap.size) := b.size
  replace B0 : Hid (Below w.heap.size w w4) := B0.out.trans (b.mono (by have := Zw1.out; have := Zw2.out; have := Zw3.out; omega))
  replace R0 : Hid (Rd w4 w.heap.size s0 A0) := R0.out.below b (by have := Zw1.out; have := Zw2.out; have := Zw3.out; omega)
  replace Os_0 : Hid (Own w4 w2.heap.size w3.heap.size (.slice s_0a A0.length s_0c) A0) := Os_0.out.below b (Nat.le_refl _)
  replace XP0 : Hid (Bx w4 w.heap.size s0) := XP0.out.kept b
  replace cXP0 : w4.cell? ⟨w.heap.size, 0, none⟩ = some s0 := XP0.out.cell
  have Or0 : Hid (Rd w4 w4.heap.size (.slice r0a R.length r0c) R) := o0
  clear b o0
  clear Os_0
  have dXP0 : (w4.alloc (.cells #[(.slice r0a R.length r0c)] 38)).cell? ⟨w.heap.size, 0, none⟩ = some s0 := (XP0.out.alloc _).cell
  go_wp2_with fail
  clear dXP0
  obtain ⟨w5, hw⟩ : ∃ x, x = w4.alloc (.cells #[(.slice r0a R.length r0c)] 38) := ⟨_, rfl⟩
  rw [← hw]
  have b : Below w4.heap.size w4 w5 := by rw [hw]; exact new1 _ _
  have x : Bx w5 w4.heap.size (.slice r0a R.length r0c) := by rw [hw]; exact Bx.new _ _ _
  have Zw5 : Hid (w4.heap.size ≤ w5.heap.size) := b.size
  replace B0 : Hid (Below w.heap.size w w5) := B0.out.trans (b.mono (by have := Zw1.out; have := Zw2.out; have := Zw3.out; have := Zw4.out; omega))
  replace R0 : Hid (Rd w5 w.heap.size s0 A0) := R0.out.below b (by have := Zw1.out; have := Zw2.out; have := Zw3.out; have := Zw4.out; omega)
  replace Or0 : Hid (Rd w5 w4.heap.size (.slice r0a R.length r0c) R) := Or0.out.below b (Nat.le_refl _)
  replace XP0 : Hid (Bx w5 w.heap.size s0) := XP0.out.kept b
  replace cXP0 : w5.cell? ⟨w.heap.size, 0, none⟩ = some s0 := XP0.out.cell
  have XS0 : Hid (Bx w5 w4.heap.size (.slice r0a R.length r0c)) := x
  have cXS0 : w5.cell? ⟨w4.heap.size, 0, none⟩ = some (.slice r0a R.length r0c) := XS0.out.cell
  have LXS0 : Hid (w4.heap.size < w5.heap.size) := XS0.out.lt
  clear b hw x
  refine (toR_any ⟨_, rfl, (R0.out.ls (by have := Zw1.out; have := Zw2.out; have := Zw3.out; have := Zw4.out; have := Zw5.out; omega))⟩ (by omega)).mono ?_
  rintro e w6 ⟨_, rfl, ⟨x0, rfl, o⟩, b⟩
  obtain ⟨x0a, x0c, rfl⟩ := o.shape
  have Zw6 : Hid (w5.heap.size ≤ w6.heap.size) := b.size
  replace B0 : Hid (Below w.heap.size w w6) := B0.out.trans (b.mono (by have := Zw1.out; have := Zw2.out; have := Zw3.out; have := Zw4.out; have := Zw5.out; omega))
  replace R0 : Hid (Rd w6 w.heap.size s0 A0) := R0.out.below b (by have := Zw1.out; have := Zw2.out; have := Zw3.out; have := Zw4.out; have := Zw5.out; omega)
  replace Or0 : Hid (Rd w6 w4.heap.size (.slice r0a R.length r0c) R) := Or0.out.below b (by have := Zw5.out; omega)
  replace XP0 : Hid (Bx w6 w.heap.size s0) := XP0.out.kept b
  replace cXP0 : w6.cell? ⟨w.heap.size, 0, none⟩ = some s0 := XP0.out.cell
  replace XS0 : Hid (Bx w6 w4.heap.size (.slice r0a R.length r0c)) := XS0.out.kept b
  replace cXS0 : w6.cell? ⟨w4.heap.size, 0, none⟩ = some (.slice r0a R.length r0c) := XS0.out.cell
  have Ox0 : Hid (Own w6 w5.heap.size w6.heap.size (.slice x0a A0.length x0c) A0) := o
  clear o b
  have dXP0 : (w6.alloc (.cells #[(.slice x0a A0.length x0c)] 38)).cell? ⟨w.heap.size, 0, none⟩ = some s0 := (XP0.out.alloc _).cell
  have dXS0 : (w6.alloc (.cells #[(.slice x0a A0.length x0c)] 38)).cell? ⟨w4.heap.size, 0, none⟩ = some (.slice r0a R.length r0c) := (XS0.out.alloc _).cell
  go_wp2_with fail
  clear dXP0 dXS0
  obtain ⟨w7, hw⟩ : ∃ x, x = w6.alloc (.cells #[(.slice x0a A0.length x0c)] 38) := ⟨_, rfl⟩
  rw [← hw]
  have b : Below w6.heap.size w6 w7 := by rw [hw]; exact new1 _ _
  have x : Bx w7 w6.heap.size (.slice x0a A0.length x0c) := by rw [hw]; exact Bx.new _ _ _
  have Zw7 : Hid (w6.heap.size ≤ w7.heap.size) := b.size
  replace B0 : Hid (Below w.heap.size w w7) := B0.out.trans (b.mono (by have := Zw1.out; have := Zw2.out; have := Zw3.out; have := Zw4.out; have := Zw5.out; have := Zw6.out; omega))
  replace R0 : Hid (Rd w7 w.heap.size s0 A0) := R0.out.below b (by have := Zw1.out; have := Zw2.out; have := Zw3.out; have := Zw4.out; have := Zw5.out; have := Zw6.out; omega)
  replace Or0 : Hid (Rd w7 w4.heap.size (.slice r0a R.length r0c) R) := Or0.out.below b (by have := Zw5.out; have := Zw6.out; omega)
  replace Ox0 : Hid (Own w7 w5.heap.size w6.heap.size (.slice x0a A0.length x0c) A0) := Ox0.out.below b (Nat.le_refl _)
  replace XP0 : Hid (Bx w7 w.heap.size s0) := XP0.out.kept b
  replace cXP0 : w7.cell? ⟨w.heap.size, 0, none⟩ = some s0 := XP0.out.cell
  replace XS0 : Hid (Bx w7 w4.heap.size (.slice r0a R.length r0c)) := XS0.out.kept b
  replace cXS0 : w7.cell? ⟨w4.heap.size, 0, none⟩ = some (.slice r0a R.length r0c) := XS0.out.cell
  have XX0 : Hid (Bx w7 w6.heap.size (.slice x0a A0.length x0c)) := x
  have cXX0 : w7.cell? ⟨w6.heap.size, 0, none⟩ = some (.slice x0a A0.length x0c) := XX0.out.cell
  have LXX0 : Hid (w6.heap.size < w7.heap.size) := XX0.out.lt
  clear b hw x
  refine (HI.out w7 (.slice x0a A0.length x0c) (Ox0.out.rd.ls (by have := Zw7.out; omega))).mono ?_
  rintro e w8 ⟨_, rfl, ⟨g0, rfl, o0⟩, b⟩
  obtain ⟨g0a, g0c, rfl⟩ := o0.shape
  have Zw8 : Hid (w7.heap.size ≤ w8.heap.size) := b.size
  replace B0 : Hid (Below w.heap.size w w8) := B0.out.trans (b.mono (by have := Zw1.out; have := Zw2.out; have := Zw3.out; have := Zw4.out; have := Zw5.out; have := Zw6.out; have := Zw7.out; omega))
  replace R0 : Hid (Rd w8 w.heap.size s0 A0) := R0.out.below b (by have := Zw1.out; have := Zw2.out; have := Zw3.out; have := Zw4.out; have := Zw5.out; have := Zw6.out; have := Zw7.out; omega)
  replace Or0 : Hid (Rd w8 w4.heap.size (.slice r0a R.length r0c) R) := Or0.out.below b (by have := Zw5.out; have := Zw6.out; have := Zw7.out; omega)
  replace Ox0 : Hid (Own w8 w5.heap.size w6.heap.size (.slice x0a A0.length x0c) A0) := Ox0.out.below b (by have := Zw7.out; omega)
  replace XP0 : Hid (Bx w8 w.heap.size s0) := XP0.out.kept b
  replace cXP0 : w8.cell? ⟨w.heap.size, 0, none⟩ = some s0 := XP0.out.cell
  replace XS0 : Hid (Bx w8 w4.heap.size (.slice r0a R.length r0c)) := XS0.out.kept b
  replace cXS0 : w8.cell? ⟨w4.heap.size, 0, none⟩ = some (.slice r0a R.length r0c) := XS0.out.cell
  replace XX0 : Hid (Bx w8 w6.heap.size (.slice x0a A0.length x0c)) := XX0.out.kept b
  replace cXX0 : w8.cell? ⟨w6.heap.size, 0, none⟩ = some (.slice x0a A0.length x0c) := XX0.out.cell
  have Og0 : Hid (Own w8 w7.heap.size w8.heap.size (.slice g0a R.length g0c) R) := o0
  clear b o0
  have dXP0 : (w8.alloc (.cells #[(.slice g0a R.length g0c)] 38)).cell? ⟨w.heap.size, 0, none⟩ = some s0 := (XP0.out.alloc _).cell
  have dXS0 : (w8.alloc (.cells #[(.slice g0a R.length g0c)] 38)).cell? ⟨w4.heap.size, 0, none⟩ = some (.slice r0a R.length r0c) := (XS0.out.alloc _).cell
  have dXX0 : (w8.alloc (.cells #[(.slice g0a R.length g0c)] 38)).cell? ⟨w6.heap.size, 0, none⟩ = some (.slice x0a A0.length x0c) := (XX0.out.alloc _).cell
  go_wp2_with fail
  clear dXP0 dXS0 dXX0
  obtain ⟨w9, hw⟩ : ∃ x, x = w8.alloc (.cells #[(.slice g0a R.length g0c)] 38) := ⟨_, rfl⟩
  rw [← hw]
  have b : Below w8.heap.size w8 w9 := by rw [hw]; exact new1 _ _
  have x : Bx w9 w8.heap.size (.slice g0a R.length g0c) := by rw [hw]; exact Bx.new _ _ _
  have Zw9 : Hid (w8.heap.size ≤ w9.heap.size) := b.size
  replace B0 : Hid (Below w.heap.size w w9) := B0.out.trans (b.mono (by have := Zw1.out; have := Zw2.out; have := Zw3.out; have := Zw4.out; have := Zw5.out; have := Zw6.out; have := Zw7.out; have := Zw8.out; omega))
  replace R0 : Hid (Rd w9 w.heap.size s0 A0) := R0.out.below b (by have := Zw1.out; have := Zw2.out; have := Zw3.out; have := Zw4.out; have := Zw5.out; have := Zw6.out; have := Zw7.out; have := Zw8.out; omega)
  replace Or0 : Hid (Rd w9 w4.heap.size (.slice r0a R.length r0c) R) := Or0.out.below b (by have := Zw5.out; have := Zw6.out; have := Zw7.out; have := Zw8.out; omega)
  replace Ox0 : Hid (Own w9 w5.heap.size w6.heap.size (.slice x0a A0.length x0c) A0) := Ox0.out.below b (by have := Zw7.out; have := Zw8.out; omega)
  replace Og0 : Hid (Own w9 w7.heap.size w8.heap.size (.slice g0a R.length g0c) R) := Og0.out.below b (Nat.le_refl _)
  replace XP0 : Hid (Bx w9 w.heap.size s0) := XP0.out.kept b
  replace cXP0 : w9.cell? ⟨w.heap.size, 0, none⟩ = some s0 := XP0.out.cell
  replace XS0 : Hid (Bx w9 w4.heap.size (.slice r0a R.length r0c)) := XS0.out.kept b
  replace cXS0 : w9.cell? ⟨w4.heap.size, 0, none⟩ = some (.slice r0a R.length r0c) := XS0.out.cell
  replace XX0 : Hid (Bx w9 w6.heap.size (.slice x0a A0.length x0c)) := XX0.out.kept b
  replace cXX0 : w9.cell? ⟨w6.heap.size, 0, none⟩ = some (.slice x0a A0.length x0c) := XX0.out.cell
  have XG0 : Hid (Bx w9 w8.heap.size (.slice g0a R.length g0c)) := x
  have cXG0 : w9.cell? ⟨w8.heap.size, 0, none⟩ = some (.slice g0a R.length g0c) := XG0.out.cell
  have LXG0 : Hid (w8.heap.size < w9.heap.size) := XG0.out.lt
  clear b hw x
  refine (eqR_any ⟨_, rfl, (Og0.out.rd.ls (by have := Zw9.out; omega))⟩ ⟨_, rfl, (Or0.out.ls (by have := Zw5.out; have := Zw6.out; have := Zw7.out; have := Zw8.out; have := Zw9.out; omega))⟩).mono ?_
  rintro e w10 ⟨rfl, b⟩
  have Zw10 : Hid (w9.heap.size ≤ w10.heap.size) := b.size
  replace B0 : Hid (Below w.heap.size w w10) := B0.out.trans (b.mono (by have := Zw1.out; have := Zw2.out; have := Zw3.out; have := Zw4.out; have := Zw5.out; have := Zw6.out; have := Zw7.out; have := Zw8.out; have := Zw9.out; omega))
  replace R0 : Hid (Rd w10 w.heap.size s0 A0) := R0.out.below b (by have := Zw1.out; have := Zw2.out; have := Zw3.out; have := Zw4.out; have := Zw5.out; have := Zw6.out; have := Zw7.out; have := Zw8.out; have := Zw9.out; omega)
  replace Or0 : Hid (Rd w10 w4.heap.size (.slice r0a R.length r0c) R) := Or0.out.below b (by have := Zw5.out; have := Zw6.out; have := Zw7.out; have := Zw8.out; have := Zw9.out; omega)
  replace Ox0 : Hid (Own w10 w5.heap.size w6.heap.size (.slice x0a A0.length x0c) A0) := Ox0.out.below b (by have := Zw7.out; have := Zw8.out; have := Zw9.out; omega)
  replace Og0 : Hid (Own w10 w7.heap.size w8.heap.size (.slice g0a R.length g0c) R) := Og0.out.below b (by have := Zw9.out; omega)
  replace XP0 : Hid (Bx w10 w.heap.size s0) := XP0.out.kept b
  replace cXP0 : w10.cell? ⟨w.heap.size, 0, none⟩ = some s0 := XP0.out.cell
  replace XS0 : Hid (Bx w10 w4.heap.size (.slice r0a R.length r0c)) := XS0.out.kept b
  replace cXS0 : w10.cell? ⟨w4.heap.size, 0, none⟩ = some (.slice r0a R.length r0c) := XS0.out.cell
  replace XX0 : Hid (Bx w10 w6.heap.size (.slice x0a A0.length x0c)) := XX0.out.kept b
  replace cXX0 : w10.cell? ⟨w6.heap.size, 0, none⟩ = some (.slice x0a A0.length x0c) := XX0.out.cell
  replace XG0 : Hid (Bx w10 w8.heap.size (.slice g0a R.length g0c)) := XG0.out.kept b
  replace cXG0 : w10.cell? ⟨w8.heap.size, 0, none⟩ = some (.slice g0a R.length g0c) := XG0.out.cell
  clear b
  go_wp2_with fail
  have bd : Hid (Below w10.heap.size w10 w10.drew) := (Below.refl _ _).drew
  go_region_held3 (fun w' => w'.cell? ⟨w6.heap.size, 0, none⟩ = some (.slice x0a A0.length x0c) ∧ w'.cell? ⟨w.heap.size, 0, none⟩ = some s0 ∧ Hid (Below w10.heap.size w10 w'))
    (first | exact ⟨(XX0.out.kept bd.out).cell, (XP0.out.kept bd.out).cell, bd⟩ | exact ⟨(XX0.out.kept by1.out).cell, (XP0.out.kept by1.out).cell, by1⟩ | exact ⟨(XX0.out.kept by2.out).cell, (XP0.out.kept by2.out).cell, by2⟩)
    (first
      | (go_at_call 13; refine (toR_any ⟨_, rfl, ((R0.out.ls (by have := Zw1.out; have := Zw2.out; have := Zw3.out; have := Zw4.out; have := Zw5.out; have := Zw6.out; have := Zw7.out; have := Zw8.out; have := Zw9.out; have := Zw10.out; omega)).below bd.out)⟩ (by omega)).mono ?_; rintro e wy ⟨_, rfl, ⟨y, rfl, oy⟩, b⟩; have by1 : Hid (Below w10.heap.size w10 wy) := bd.out.trans b; have oy1 : Hid (Ls wy y A0) := oy.ls (Nat.le_refl _); clear oy b)
      | (go_at_call 16; refine (eqR_any ⟨_, rfl, ((Ox0.out.rd.ls (by have := Zw7.out; have := Zw8.out; have := Zw9.out; have := Zw10.out; omega)).below by1.out)⟩ ⟨_, rfl, oy1.out⟩).mono ?_; rintro e w11 ⟨rfl, b⟩; have by2 : Hid (Below w10.heap.size w10 w11) := by1.out.trans (b.mono by1.out.size); clear b))
  have b := by2.out
  have Zw11 : Hid (w10.heap.size ≤ w11.heap.size) := b.size
  replace B0 : Hid (Below w.heap.size w w11) := B0.out.trans (b.mono (by have := Zw1.out; have := Zw2.out; have := Zw3.out; have := Zw4.out; have := Zw5.out; have := Zw6.out; have := Zw7.out; have := Zw8.out; have := Zw9.out; have := Zw10.out; omega))
  replace R0 : Hid (Rd w11 w.heap.size s0 A0) := R0.out.below b (by have := Zw1.out; have := Zw2.out; have := Zw3.out; have := Zw4.out; have := Zw5.out; have := Zw6.out; have := Zw7.out; have := Zw8.out; have := Zw9.out; have := Zw10.out; omega)
  replace Or0 : Hid (Rd w11 w4.heap.size (.slice r0a R.length r0c) R) := Or0.out.below b (by have := Zw5.out; have := Zw6.out; have := Zw7.out; have := Zw8.out; have := Zw9.out; have := Zw10.out; omega)
  replace Ox0 : Hid (Own w11 w5.heap.size w6.heap.size (.slice x0a A0.length x0c) A0) := Ox0.out.below b (by have := Zw7.out; have := Zw8.out; have := Zw9.out; have := Zw10.out; omega)
  replace Og0 : Hid (Own w11 w7.heap.size w8.heap.size (.slice g0a R.length g0c) R) := Og0.out.below b (by have := Zw9.out; have := Zw10.out; omega)
  replace XP0 : Hid (Bx w11 w.heap.size s0) := XP0.out.kept b
  replace cXP0 : w11.cell? ⟨w.heap.size, 0, none⟩ = some s0 := XP0.out.cell
  replace XS0 : Hid (Bx w11 w4.heap.size (.slice r0a R.length r0c)) := XS0.out.kept b
  replace cXS0 : w11.cell? ⟨w4.heap.size, 0, none⟩ = some (.slice r0a R.length r0c) := XS0.out.cell
  replace XX0 : Hid (Bx w11 w6.heap.size (.slice x0a A0.length x0c)) := XX0.out.kept b
  replace cXX0 : w11.cell? ⟨w6.heap.size, 0, none⟩ = some (.slice x0a A0.length x0c) := XX0.out.cell
  replace XG0 : Hid (Bx w11 w8.heap.size (.slice g0a R.length g0c)) := XG0.out.kept b
  replace cXG0 : w11.cell? ⟨w8.heap.size, 0, none⟩ = some (.slice g0a R.length g0c) := XG0.out.cell
  clear b bd by1 by2 oy1
  go_wp2_with fail
  refine (markR_any ⟨_, rfl, Ox0.out⟩ (by omega) (by omega) (by omega)).mono ?_
  rintro e w12 ⟨rfl, o, t⟩
  clear Ox0
  have Zw12 : Hid (w11.heap.size ≤ w12.heap.size) := t.size
  replace B0 : Hid (Below w.heap.size w w12) := B0.out.trans (t.below (by have := Zw1.out; have := Zw2.out; have := Zw3.out; have := Zw4.out; have := Zw5.out; omega) (by have := Zw1.out; have := Zw2.out; have := Zw3.out; have := Zw4.out; have := Zw5.out; have := Zw6.out; have := Zw7.out; have := Zw8.out; have := Zw9.out; have := Zw10.out; have := Zw11.out; omega))
  replace R0 : Hid (Rd w12 w.heap.size s0 A0) := R0.out.turned t (by have := Zw1.out; have := Zw2.out; have := Zw3.out; have := Zw4.out; have := Zw5.out; omega) (by have := Zw1.out; have := Zw2.out; have := Zw3.out; have := Zw4.out; have := Zw5.out; have := Zw6.out; have := Zw7.out; have := Zw8.out; have := Zw9.out; have := Zw10.out; have := Zw11.out; omega)
  replace Or0 : Hid (Rd w12 w4.heap.size (.slice r0a R.length r0c) R) := Or0.out.turned t (by have := Zw5.out; omega) (by have := Zw5.out; have := Zw6.out; have := Zw7.out; have := Zw8.out; have := Zw9.out; have := Zw10.out; have := Zw11.out; omega)
  replace Og0 : Hid (Own w12 w7.heap.size w8.heap.size (.slice g0a R.length g0c) R) := Og0.out.turned t (.inr (by have := Zw7.out; omega))
  replace XP0 : Hid (Bx w12 w.heap.size s0) := XP0.out.turned t (by have := Zw1.out; have := Zw2.out; have := Zw3.out; have := Zw4.out; have := Zw5.out; have := Zw6.out; have := Zw7.out; have := Zw8.out; have := Zw9.out; have := Zw10.out; have := Zw11.out; have := LXP0.out; omega)
  replace cXP0 : w12.cell? ⟨w.heap.size, 0, none⟩ = some s0 := XP0.out.cell
  replace XS0 : Hid (Bx w12 w4.heap.size (.slice r0a R.length r0c)) := XS0.out.turned t (by have := Zw1.out; have := Zw2.out; have := Zw3.out; have := Zw4.out; have := Zw5.out; have := Zw6.out; have := Zw7.out; have := Zw8.out; have := Zw9.out; have := Zw10.out; have := Zw11.out; have := LXS0.out; omega)
  replace cXS0 : w12.cell? ⟨w4.heap.size, 0, none⟩ = some (.slice r0a R.length r0c) := XS0.out.cell
  replace XX0 : Hid (Bx w12 w6.heap.size (.slice x0a A0.length x0c)) := XX0.out.turned t (by have := Zw1.out; have := Zw2.out; have := Zw3.out; have := Zw4.out; have := Zw5.out; have := Zw6.out; have := Zw7.out; have := Zw8.out; have := Zw9.out; have := Zw10.out; have := Zw11.out; have := LXX0.out; omega)
  replace cXX0 : w12.cell? ⟨w6.heap.size, 0, none⟩ = some (.slice x0a A0.length x0c) := XX0.out.cell
  replace XG0 : Hid (Bx w12 w8.heap.size (.slice g0a R.length g0c)) := XG0.out.turned t (by have := Zw1.out; have := Zw2.out; have := Zw3.out; have := Zw4.out; have := Zw5.out; have := Zw6.out; have := Zw7.out; have := Zw8.out; have := Zw9.out; have := Zw10.out; have := Zw11.out; have := LXG0.out; omega)
  replace cXG0 : w12.cell? ⟨w8.heap.size, 0, none⟩ = some (.slice g0a R.length g0c) := XG0.out.cell
  obtain ⟨_, ho, o⟩ := o
  obtain rfl := agg_inj ho
  have Ox0 : Hid (Own w12 w5.heap.size w6.heap.size (.slice x0a A0.length x0c) (mk (1) A0.length)) := o
  clear o t
  clear Ox0
  clear cXX0 XX0 LXX0
  go_wp2_with fail
  refine (eqR_any ⟨_, rfl, (Og0.out.rd.ls (by have := Zw9.out; have := Zw10.out; have := Zw11.out; have := Zw12.out; omega))⟩ ⟨_, rfl, (Or0.out.ls (by have := Zw5.out; have := Zw6.out; have := Zw7.out; have := Zw8.out; have := Zw9.out; have := Zw10.out; have := Zw11.out; have := Zw12.out; omega))⟩).mono ?_
  rintro e w13 ⟨rfl, b⟩
  have Zw13 : Hid (w12.heap.size ≤ w13.heap.size) := b.size
  replace B0 : Hid (Below w.heap.size w w13) := B0.out.trans (b.mono (by have := Zw1.out; have := Zw2.out; have := Zw3.out; have := Zw4.out; have := Zw5.out; have := Zw6.out; have := Zw7.out; have := Zw8.out; have := Zw9.out; have := Zw10.out; have := Zw11.out; have := Zw12.out; omega))
  replace R0 : Hid (Rd w13 w.heap.size s0 A0) := R0.out.below b (by have := Zw1.out; have := Zw2.out; have := Zw3.out; have := Zw4.out; have := Zw5.out; have := Zw6.out; have := Zw7.out; have := Zw8.out; have := Zw9.out; have := Zw10.out; have := Zw11.out; have := Zw12.out; omega)
  replace Or0 : Hid (Rd w13 w4.heap.size (.slice r0a R.length r0c) R) := Or0.out.below b (by have := Zw5.out; have := Zw6.out; have := Zw7.out; have := Zw8.out; have := Zw9.out; have := Zw10.out; have := Zw11.out; have := Zw12.out; omega)
  replace Og0 : Hid (Own w13 w7.heap.size w8.heap.size (.slice g0a R.length g0c) R) := Og0.out.below b (by have := Zw9.out; have := Zw10.out; have := Zw11.out; have := Zw12.out; omega)
  replace XP0 : Hid (Bx w13 w.heap.size s0) := XP0.out.kept b
  replace cXP0 : w13.cell? ⟨w.heap.size, 0, none⟩ = some s0 := XP0.out.cell
  replace XS0 : Hid (Bx w13 w4.heap.size (.slice r0a R.length r0c)) := XS0.out.kept b
  replace cXS0 : w13.cell? ⟨w4.heap.size, 0, none⟩ = some (.slice r0a R.length r0c) := XS0.out.cell
  replace XG0 : Hid (Bx w13 w8.heap.size (.slice g0a R.length g0c)) := XG0.out.kept b
  replace cXG0 : w13.cell? ⟨w8.heap.size, 0, none⟩ = some (.slice g0a R.length g0c) := XG0.out.cell
  clear b
  go_wp2_with fail
  refine (markR_any ⟨_, rfl, Og0.out⟩ (by omega) (by omega) (by omega)).mono ?_
  rintro e w14 ⟨rfl, o, t⟩
  clear Og0
  have Zw14 : Hid (w13.heap.size ≤ w14.heap.size) := t.size
  replace B0 : Hid (Below w.heap.size w w14) := B0.out.trans (t.below (by have := Zw1.out; have := Zw2.out; have := Zw3.out; have := Zw4.out; have := Zw5.out; have := Zw6.out; have := Zw7.out; omega) (by have := Zw1.out; have := Zw2.out; have := Zw3.out; have := Zw4.out; have := Zw5.out; have := Zw6.out; have := Zw7.out; have := Zw8.out; have := Zw9.out; have := Zw10.out; have := Zw11.out; have := Zw12.out; have := Zw13.out; omega))
  replace R0 : Hid (Rd w14 w.heap.size s0 A0) := R0.out.turned t (by have := Zw1.out; have := Zw2.out; have := Zw3.out; have := Zw4.out; have := Zw5.out; have := Zw6.out; have := Zw7.out; omega) (by have := Zw1.out; have := Zw2.out; have := Zw3.out; have := Zw4.out; have := Zw5.out; have := Zw6.out; have := Zw7.out; have := Zw8.out; have := Zw9.out; have := Zw10.out; have := Zw11.out; have := Zw12.out; have := Zw13.out; omega)
  replace Or0 : Hid (Rd w14 w4.heap.size (.slice r0a R.length r0c) R) := Or0.out.turned t (by have := Zw5.out; have := Zw6.out; have := Zw7.out; omega) (by have := Zw5.out; have := Zw6.out; have := Zw7.out; have := Zw8.out; have := Zw9.out; have := Zw10.out; have := Zw11.out; have := Zw12.out; have := Zw13.out; omega)
  replace XP0 : Hid (Bx w14 w.heap.size s0) := XP0.out.turned t (by have := Zw1.out; have := Zw2.out; have := Zw3.out; have := Zw4.out; have := Zw5.out; have := Zw6.out; have := Zw7.out; have := Zw8.out; have := Zw9.out; have := Zw10.out; have := Zw11.out; have := Zw12.out; have := Zw13.out; have := LXP0.out; omega)
  replace cXP0 : w14.cell? ⟨w.heap.size, 0, none⟩ = some s0 := XP0.out.cell
  replace XS0 : Hid (Bx w14 w4.heap.size (.slice r0a R.length r0c)) := XS0.out.turned t (by have := Zw1.out; have := Zw2.out; have := Zw3.out; have := Zw4.out; have := Zw5.out; have := Zw6.out; have := Zw7.out; have := Zw8.out; have := Zw9.out; have := Zw10.out; have := Zw11.out; have := Zw12.out; have := Zw13.out; have := LXS0.out; omega)
  replace cXS0 : w14.cell? ⟨w4.heap.size, 0, none⟩ = some (.slice r0a R.length r0c) := XS0.out.cell
  replace XG0 : Hid (Bx w14 w8.heap.size (.slice g0a R.length g0c)) := XG0.out.turned t (by have := Zw1.out; have := Zw2.out; have := Zw3.out; have := Zw4.out; have := Zw5.out; have := Zw6.out; have := Zw7.out; have := Zw8.out; have := Zw9.out; have := Zw10.out; have := Zw11.out; have := Zw12.out; have := Zw13.out; have := LXG0.out; omega)
  replace cXG0 : w14.cell? ⟨w8.heap.size, 0, none⟩ = some (.slice g0a R.length g0c) := XG0.out.cell
  obtain ⟨_, ho, o⟩ := o
  obtain rfl := agg_inj ho
  have Og0 : Hid (Own w14 w7.heap.size w8.heap.size (.slice g0a R.length g0c) (mk (1) R.length)) := o
  clear o t
  go_wp2_with fail
  refine (heldR_any ⟨_, rfl, (Og0.out.rd.ls (by have := Zw9.out; have := Zw10.out; have := Zw11.out; have := Zw12.out; have := Zw13.out; have := Zw14.out; omega))⟩ (by omega) (by omega) (by omega)).mono ?_
  rintro e w15 ⟨rfl, b⟩
  have Zw15 : Hid (w14.heap.size ≤ w15.heap.size) := b.size
  replace B0 : Hid (Below w.heap.size w w15) := B0.out.trans (b.mono (by have := Zw1.out; have := Zw2.out; have := Zw3.out; have := Zw4.out; have := Zw5.out; have := Zw6.out; have := Zw7.out; have := Zw8.out; have := Zw9.out; have := Zw10.out; have := Zw11.out; have := Zw12.out; have := Zw13.out; have := Zw14.out; omega))
  replace R0 : Hid (Rd w15 w.heap.size s0 A0) := R0.out.below b (by have := Zw1.out; have := Zw2.out; have := Zw3.out; have := Zw4.out; have := Zw5.out; have := Zw6.out; have := Zw7.out; have := Zw8.out; have := Zw9.out; have := Zw10.out; have := Zw11.out; have := Zw12.out; have := Zw13.out; have := Zw14.out; omega)
  replace Or0 : Hid (Rd w15 w4.heap.size (.slice r0a R.length r0c) R) := Or0.out.below b (by have := Zw5.out; have := Zw6.out; have := Zw7.out; have := Zw8.out; have := Zw9.out; have := Zw10.out; have := Zw11.out; have := Zw12.out; have := Zw13.out; have := Zw14.out; omega)
  replace Og0 : Hid (Own w15 w7.heap.size w8.heap.size (.slice g0a R.length g0c) (mk (1) R.length)) := Og0.out.below b (by have := Zw9.out; have := Zw10.out; have := Zw11.out; have := Zw12.out; have := Zw13.out; have := Zw14.out; omega)
  replace XP0 : Hid (Bx w15 w.heap.size s0) := XP0.out.kept b
  replace cXP0 : w15.cell? ⟨w.heap.size, 0, none⟩ = some s0 := XP0.out.cell
  replace XS0 : Hid (Bx w15 w4.heap.size (.slice r0a R.length r0c)) := XS0.out.kept b
  replace cXS0 : w15.cell? ⟨w4.heap.size, 0, none⟩ = some (.slice r0a R.length r0c) := XS0.out.cell
  replace XG0 : Hid (Bx w15 w8.heap.size (.slice g0a R.length g0c)) := XG0.out.kept b
  replace cXG0 : w15.cell? ⟨w8.heap.size, 0, none⟩ = some (.slice g0a R.length g0c) := XG0.out.cell
  clear b
  go_wp2_with fail
  refine (toR_any ⟨_, rfl, (R0.out.ls (by have := Zw1.out; have := Zw2.out; have := Zw3.out; have := Zw4.out; have := Zw5.out; have := Zw6.out; have := Zw7.out; have := Zw8.out; have := Zw9.out; have := Zw10.out; have := Zw11.out; have := Zw12.out; have := Zw13.out; have := Zw14.out; have := Zw15.out; omega))⟩ (by omega)).mono ?_
  rintro e w16 ⟨_, rfl, ⟨t0, rfl, o⟩, b⟩
  obtain ⟨t0a, t0c, rfl⟩ := o.shape
  have Zw16 : Hid (w15.heap.size ≤ w16.heap.size) := b.size
  replace B0 : Hid (Below w.heap.size w w16) := B0.out.trans (b.mono (by have := Zw1.out; have := Zw2.out; have := Zw3.out; have := Zw4.out; have := Zw5.out; have := Zw6.out; have := Zw7.out; have := Zw8.out; have := Zw9.out; have := Zw10.out; have := Zw11.out; have := Zw12.out; have := Zw13.out; have := Zw14.out; have := Zw15.out; omega))
  replace R0 : Hid (Rd w16 w.heap.size s0 A0) := R0.out.below b (by have := Zw1.out; have := Zw2.out; have := Zw3.out; have := Zw4.out; have := Zw5.out; have := Zw6.out; have := Zw7.out; have := Zw8.out; have := Zw9.out; have := Zw10.out; have := Zw11.out; have := Zw12.out; have := Zw13.out; have := Zw14.out; have := Zw15.out; omega)
  replace Or0 : Hid (Rd w16 w4.heap.size (.slice r0a R.length r0c) R) := Or0.out.below b (by have := Zw5.out; have := Zw6.out; have := Zw7.out; have := Zw8.out; have := Zw9.out; have := Zw10.out; have := Zw11.out; have := Zw12.out; have := Zw13.out; have := Zw14.out; have := Zw15.out; omega)
  replace Og0 : Hid (Own w16 w7.heap.size w8.heap.size (.slice g0a R.length g0c) (mk (1) R.length)) := Og0.out.below b (by have := Zw9.out; have := Zw10.out; have := Zw11.out; have := Zw12.out; have := Zw13.out; have := Zw14.out; have := Zw15.out; omega)
  replace XP0 : Hid (Bx w16 w.heap.size s0) := XP0.out.kept b
  replace cXP0 : w16.cell? ⟨w.heap.size, 0, none⟩ = some s0 := XP0.out.cell
  replace XS0 : Hid (Bx w16 w4.heap.size (.slice r0a R.length r0c)) := XS0.out.kept b
  replace cXS0 : w16.cell? ⟨w4.heap.size, 0, none⟩ = some (.slice r0a R.length r0c) := XS0.out.cell
  replace XG0 : Hid (Bx w16 w8.heap.size (.slice g0a R.length g0c)) := XG0.out.kept b
  replace cXG0 : w16.cell? ⟨w8.heap.size, 0, none⟩ = some (.slice g0a R.length g0c) := XG0.out.cell
  have Ot0 : Hid (Own w16 w15.heap.size w16.heap.size (.slice t0a A0.length t0c) A0) := o
  clear o b
  go_wp2_with fail
  refine (HI.out w16 (.slice t0a A0.length t0c) (Ot0.out.rd.ls (Nat.le_refl _))).mono ?_
  rintro e w17 ⟨_, rfl, ⟨h0, rfl, o0⟩, b⟩
  obtain ⟨h0a, h0c, rfl⟩ := o0.shape
  have Zw17 : Hid (w16.heap.size ≤ w17.heap.size) := b.size
  replace B0 : Hid (Below w.heap.size w w17) := B0.out.trans (b.mono (by have := Zw1.out; have := Zw2.out; have := Zw3.out; have := Zw4.out; have := Zw5.out; have := Zw6.out; have := Zw7.out; have := Zw8.out; have := Zw9.out; have := Zw10.out; have := Zw11.out; have := Zw12.out; have := Zw13.out; have := Zw14.out; have := Zw15.out; have := Zw16.out; omega))
  replace R0 : Hid (Rd w17 w.heap.size s0 A0) := R0.out.below b (by have := Zw1.out; have := Zw2.out; have := Zw3.out; have := Zw4.out; have := Zw5.out; have := Zw6.out; have := Zw7.out; have := Zw8.out; have := Zw9.out; have := Zw10.out; have := Zw11.out; have := Zw12.out; have := Zw13.out; have := Zw14.out; have := Zw15.out; have := Zw16.out; omega)
  replace Or0 : Hid (Rd w17 w4.heap.size (.slice r0a R.length r0c) R) := Or0.out.below b (by have := Zw5.out; have := Zw6.out; have := Zw7.out; have := Zw8.out; have := Zw9.out; have := Zw10.out; have := Zw11.out; have := Zw12.out; have := Zw13.out; have := Zw14.out; have := Zw15.out; have := Zw16.out; omega)
  replace Og0 : Hid (Own w17 w7.heap.size w8.heap.size (.slice g0a R.length g0c) (mk (1) R.length)) := Og0.out.below b (by have := Zw9.out; have := Zw10.out; have := Zw11.out; have := Zw12.out; have := Zw13.out; have := Zw14.out; have := Zw15.out; have := Zw16.out; omega)
  replace Ot0 : Hid (Own w17 w15.heap.size w16.heap.size (.slice t0a A0.length t0c) A0) := Ot0.out.below b (Nat.le_refl _)
  replace XP0 : Hid (Bx w17 w.heap.size s0) := XP0.out.kept b
  replace cXP0 : w17.cell? ⟨w.heap.size, 0, none⟩ = some s0 := XP0.out.cell
  replace XS0 : Hid (Bx w17 w4.heap.size (.slice r0a R.length r0c)) := XS0.out.kept b
  replace cXS0 : w17.cell? ⟨w4.heap.size, 0, none⟩ = some (.slice r0a R.length r0c) := XS0.out.cell
  replace XG0 : Hid (Bx w17 w8.heap.size (.slice g0a R.length g0c)) := XG0.out.kept b
  replace cXG0 : w17.cell? ⟨w8.heap.size, 0, none⟩ = some (.slice g0a R.length g0c) := XG0.out.cell
  have Oh0 : Hid (Own w17 w16.heap.size w17.heap.size (.slice h0a R.length h0c) R) := o0
  clear b o0
  clear Ot0
  have dXP0 : (w17.alloc (.cells #[(.slice h0a R.length h0c)] 38)).cell? ⟨w.heap.size, 0, none⟩ = some s0 := (XP0.out.alloc _).cell
  have dXS0 : (w17.alloc (.cells #[(.slice h0a R.length h0c)] 38)).cell? ⟨w4.heap.size, 0, none⟩ = some (.slice r0a R.length r0c) := (XS0.out.alloc _).cell
  have dXG0 : (w17.alloc (.cells #[(.slice h0a R.length h0c)] 38)).cell? ⟨w8.heap.size, 0, none⟩ = some (.slice g0a R.length g0c) := (XG0.out.alloc _).cell
  go_wp2_with fail
  clear dXP0 dXS0 dXG0
  obtain ⟨w18, hw⟩ : ∃ x, x = w17.alloc (.cells #[(.slice h0a R.length h0c)] 38) := ⟨_, rfl⟩
  rw [← hw]
  have b : Below w17.heap.size w17 w18 := by rw [hw]; exact new1 _ _
  have x : Bx w18 w17.heap.size (.slice h0a R.length h0c) := by rw [hw]; exact Bx.new _ _ _
  have Zw18 : Hid (w17.heap.size ≤ w18.heap.size) := b.size
  replace B0 : Hid (Below w.heap.size w w18) := B0.out.trans (b.mono (by have := Zw1.out; have := Zw2.out; have := Zw3.out; have := Zw4.out; have := Zw5.out; have := Zw6.out; have := Zw7.out; have := Zw8.out; have := Zw9.out; have := Zw10.out; have := Zw11.out; have := Zw12.out; have := Zw13.out; have := Zw14.out; have := Zw15.out; have := Zw16.out; have := Zw17.out; omega))
  replace R0 : Hid (Rd w18 w.heap.size s0 A0) := R0.out.below b (by have := Zw1.out; have := Zw2.out; have := Zw3.out; have := Zw4.out; have := Zw5.out; have := Zw6.out; have := Zw7.out; have := Zw8.out; have := Zw9.out; have := Zw10.out; have := Zw11.out; have := Zw12.out; have := Zw13.out; have := Zw14.out; have := Zw15.out; have := Zw16.out; have := Zw17.out; omega)
  replace Or0 : Hid (Rd w18 w4.heap.size (.slice r0a R.length r0c) R) := Or0.out.below b (by have := Zw5.out; have := Zw6.out; have := Zw7.out; have := Zw8.out; have := Zw9.out; have := Zw10.out; have := Zw11.out; have := Zw12.out; have := Zw13.out; have := Zw14.out; have := Zw15.out; have := Zw16.out; have := Zw17.out; omega)
  replace Og0 : Hid (Own w18 w7.heap.size w8.heap.size (.slice g0a R.length g0c) (mk (1) R.length)) := Og0.out.below b (by have := Zw9.out; have := Zw10.out; have := Zw11.out; have := Zw12.out; have := Zw13.out; have := Zw14.out; have := Zw15.out; have := Zw16.out; have := Zw17.out; omega)
  replace Oh0 : Hid (Own w18 w16.heap.size w17.heap.size (.slice h0a R.length h0c) R) := Oh0.out.below b (Nat.le_refl _)
  replace XP0 : Hid (Bx w18 w.heap.size s0) := XP0.out.kept b
  replace cXP0 : w18.cell? ⟨w.heap.size, 0, none⟩ = some s0 := XP0.out.cell
  replace XS0 : Hid (Bx w18 w4.heap.size (.slice r0a R.length r0c)) := XS0.out.kept b
  replace cXS0 : w18.cell? ⟨w4.heap.size, 0, none⟩ = some (.slice r0a R.length r0c) := XS0.out.cell
  replace XG0 : Hid (Bx w18 w8.heap.size (.slice g0a R.length g0c)) := XG0.out.kept b
  replace cXG0 : w18.cell? ⟨w8.heap.size, 0, none⟩ = some (.slice g0a R.length g0c) := XG0.out.cell
  have XH0 : Hid (Bx w18 w17.heap.size (.slice h0a R.length h0c)) := x
  have cXH0 : w18.cell? ⟨w17.heap.size, 0, none⟩ = some (.slice h0a R.length h0c) := XH0.out.cell
  have LXH0 : Hid (w17.heap.size < w18.heap.size) := XH0.out.lt
  clear b hw x
  refine (eqR_any ⟨_, rfl, (Oh0.out.rd.ls (by have := Zw18.out; omega))⟩ ⟨_, rfl, (Or0.out.ls (by have := Zw5.out; have := Zw6.out; have := Zw7.out; have := Zw8.out; have := Zw9.out; have := Zw10.out; have := Zw11.out; have := Zw12.out; have := Zw13.out; have := Zw14.out; have := Zw15.out; have := Zw16.out; have := Zw17.out; have := Zw18.out; omega))⟩).mono ?_
  rintro e w19 ⟨rfl, b⟩
  have Zw19 : Hid (w18.heap.size ≤ w19.heap.size) := b.size
  replace B0 : Hid (Below w.heap.size w w19) := B0.out.trans (b.mono (by have := Zw1.out; have := Zw2.out; have := Zw3.out; have := Zw4.out; have := Zw5.out; have := Zw6.out; have := Zw7.out; have := Zw8.out; have := Zw9.out; have := Zw10.out; have := Zw11.out; have := Zw12.out; have := Zw13.out; have := Zw14.out; have := Zw15.out; have := Zw16.out; have := Zw17.out; have := Zw18.out; omega))
  replace R0 : Hid (Rd w19 w.heap.size s0 A0) := R0.out.below b (by have := Zw1.out; have := Zw2.out; have := Zw3.out; have := Zw4.out; have := Zw5.out; have := Zw6.out; have := Zw7.out; have := Zw8.out; have := Zw9.out; have := Zw10.out; have := Zw11.out; have := Zw12.out; have := Zw13.out; have := Zw14.out; have := Zw15.out; have := Zw16.out; have := Zw17.out; have := Zw18.out; omega)
  replace Or0 : Hid (Rd w19 w4.heap.size (.slice r0a R.length r0c) R) := Or0.out.below b (by have := Zw5.out; have := Zw6.out; have := Zw7.out; have := Zw8.out; have := Zw9.out; have := Zw10.out; have := Zw11.out; have := Zw12.out; have := Zw13.out; have := Zw14.out; have := Zw15.out; have := Zw16.out; have := Zw17.out; have := Zw18.out; omega)
  replace Og0 : Hid (Own w19 w7.heap.size w8.heap.size (.slice g0a R.length g0c) (mk (1) R.length)) := Og0.out.below b (by have := Zw9.out; have := Zw10.out; have := Zw11.out; have := Zw12.out; have := Zw13.out; have := Zw14.out; have := Zw15.out; have := Zw16.out; have := Zw17.out; have := Zw18.out; omega)
  replace Oh0 : Hid (Own w19 w16.heap.size w17.heap.size (.slice h0a R.length h0c) R) := Oh0.out.below b (by have := Zw18.out; omega)
  replace XP0 : Hid (Bx w19 w.heap.size s0) := XP0.out.kept b
  replace cXP0 : w19.cell? ⟨w.heap.size, 0, none⟩ = some s0 := XP0.out.cell
  replace XS0 : Hid (Bx w19 w4.heap.size (.slice r0a R.length r0c)) := XS0.out.kept b
  replace cXS0 : w19.cell? ⟨w4.heap.size, 0, none⟩ = some (.slice r0a R.length r0c) := XS0.out.cell
  replace XG0 : Hid (Bx w19 w8.heap.size (.slice g0a R.length g0c)) := XG0.out.kept b
  replace cXG0 : w19.cell? ⟨w8.heap.size, 0, none⟩ = some (.slice g0a R.length g0c) := XG0.out.cell
  replace XH0 : Hid (Bx w19 w17.heap.size (.slice h0a R.length h0c)) := XH0.out.kept b
  replace cXH0 : w19.cell? ⟨w17.heap.size, 0, none⟩ = some (.slice h0a R.length h0c) := XH0.out.cell
  clear b
  clear Oh0
  clear cXH0 XH0 LXH0
  go_wp2_with fail
  refine (heldR_any ⟨_, rfl, (Og0.out.rd.ls (by have := Zw9.out; have := Zw10.out; have := Zw11.out; have := Zw12.out; have := Zw13.out; have := Zw14.out; have := Zw15.out; have := Zw16.out; have := Zw17.out; have := Zw18.out; have := Zw19.out; omega))⟩ (by omega) (by omega) (by omega)).mono ?_
  rintro e w20 ⟨rfl, b⟩
  have Zw20 : Hid (w19.heap.size ≤ w20.heap.size) := b.size
  replace B0 : Hid (Below w.heap.size w w20) := B0.out.trans (b.mono (by have := Zw1.out; have := Zw2.out; have := Zw3.out; have := Zw4.out; have := Zw5.out; have := Zw6.out; have := Zw7.out; have := Zw8.out; have := Zw9.out; have := Zw10.out; have := Zw11.out; have := Zw12.out; have := Zw13.out; have := Zw14.out; have := Zw15.out; have := Zw16.out; have := Zw17.out; have := Zw18.out; have := Zw19.out; omega))
  replace R0 : Hid (Rd w20 w.heap.size s0 A0) := R0.out.below b (by have := Zw1.out; have := Zw2.out; have := Zw3.out; have := Zw4.out; have := Zw5.out; have := Zw6.out; have := Zw7.out; have := Zw8.out; have := Zw9.out; have := Zw10.out; have := Zw11.out; have := Zw12.out; have := Zw13.out; have := Zw14.out; have := Zw15.out; have := Zw16.out; have := Zw17.out; have := Zw18.out; have := Zw19.out; omega)
  replace Or0 : Hid (Rd w20 w4.heap.size (.slice r0a R.length r0c) R) := Or0.out.below b (by have := Zw5.out; have := Zw6.out; have := Zw7.out; have := Zw8.out; have := Zw9.out; have := Zw10.out; have := Zw11.out; have := Zw12.out; have := Zw13.out; have := Zw14.out; have := Zw15.out; have := Zw16.out; have := Zw17.out; have := Zw18.out; have := Zw19.out; omega)
  replace Og0 : Hid (Own w20 w7.heap.size w8.heap.size (.slice g0a R.length g0c) (mk (1) R.length)) := Og0.out.below b (by have := Zw9.out; have := Zw10.out; have := Zw11.out; have := Zw12.out; have := Zw13.out; have := Zw14.out; have := Zw15.out; have := Zw16.out; have := Zw17.out; have := Zw18.out; have := Zw19.out; omega)
  replace XP0 : Hid (Bx w20 w.heap.size s0) := XP0.out.kept b
  replace cXP0 : w20.cell? ⟨w.heap.size, 0, none⟩ = some s0 := XP0.out.cell
  replace XS0 : Hid (Bx w20 w4.heap.size (.slice r0a R.length r0c)) := XS0.out.kept b
  replace cXS0 : w20.cell? ⟨w4.heap.size, 0, none⟩ = some (.slice r0a R.length r0c) := XS0.out.cell
  replace XG0 : Hid (Bx w20 w8.heap.size (.slice g0a R.length g0c)) := XG0.out.kept b
  replace cXG0 : w20.cell? ⟨w8.heap.size, 0, none⟩ = some (.slice g0a R.length g0c) := XG0.out.cell
  clear b
  go_wp2_with fail
  go_ret
  exact ⟨rfl, B0.out⟩
end Go.Proofs.Ythldlhpdnocmcab.fnExactDivideRootW
