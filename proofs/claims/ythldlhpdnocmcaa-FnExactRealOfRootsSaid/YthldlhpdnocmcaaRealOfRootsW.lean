/- The law FnExactRealOfRoots: its walk, over what both sides answer. -/
import Derived.Test.YthldlhpdnocmcaaRealOfRootsF
import Derived.Test.YthldlhpdnocmcaaWr
import Derived.Deep.RegionHeld3
import Derived.Deep.DeepCutAuto
namespace Go.Proofs.Ythldlhpdnocmcaa.fnExactRealOfRootsW
open Go.RowKit Go.Proofs.Ythldlhpdnocmcaa.wh

set_option maxRecDepth 100000 in
set_option maxHeartbeats 4000000 in
theorem walk (v0 : Value) (w : World) (h0 : ∃ L, Ls w v0 L) :
    Calls Try.prog 12 #[v0] w fun e w' => e = .returned (.bool true) ∧ Below w.heap.size w w' := by
  obtain ⟨A0, h0⟩ := h0
  obtain ⟨ao0, cap0, rfl⟩ := id h0.shape
  obtain ⟨R, hR⟩ : ∃ r : List Int, r = fRealOfRoots.R A0 := ⟨_, rfl⟩
  obtain ⟨ok, hok⟩ : ∃ r : Bool, r = fRealOfRoots.ok A0 := ⟨_, rfl⟩
  by_cases hs0 : (A0.length : Int) ≤ 1048576
  case neg =>
    clear h0 hR hok
    go_enter Try.func12, Try.ntmps12
    go_wp2_with fail
    go_ret
    exact ⟨rfl, Below.refl _ _⟩
  have HS : Hid (∀ (w : World) (v0 : Value), Ls w v0 A0 → Calls Try.prog 44 #[v0] w (AnsS R ok w)) := fun w v0 h0 => by rw [hR, hok]; exact fRealOfRoots.spec_any h0 hs0 
  have HI : Hid (∀ (w : World) (v0 : Value), Ls w v0 A0 → Calls Try.prog 46 #[v0] w (AnsI R ok w)) := fun w v0 h0 => by rw [hR, hok]; exact fRealOfRoots.impl_any h0 hs0 
  have hlen : (R.length : Int) ≤ 1000 := by rw [hR]; have := fRealOfRoots.len A0; omega
  clear hR hok
  have R0 : Hid (Rd w w.heap.size (.slice ao0 A0.length cap0) A0) := h0
  clear h0
  have B0 : Hid (Below w.heap.size w w) := Below.refl _ _
  go_enter Try.func12, Try.ntmps12
  go_wp2_with fail
  refine (to_any (R0.out.ls (Nat.le_refl _)) (by omega)).mono ?_
  rintro e w1 ⟨s_0, rfl, o, b⟩
  obtain ⟨s_0a, s_0c, rfl⟩ := o.shape
  have Zw1 : Hid (w.heap.size ≤ w1.heap.size) := b.size
  replace B0 : Hid (Below w.heap.size w w1) := B0.out.trans (b.mono (Nat.le_refl _))
  replace R0 : Hid (Rd w1 w.heap.size (.slice ao0 A0.length cap0) A0) := R0.out.below b (Nat.le_refl _)
  have Os_0 : Hid (Own w1 w.heap.size w1.heap.size (.slice s_0a A0.length s_0c) A0) := o
  clear o b
  go_wp2_with fail
  refine (HS.out w1 (.slice s_0a A0.length s_0c) (Os_0.out.rd.ls (Nat.le_refl _))).mono ?_
  rintro e w2 ⟨_, rfl, ⟨r0, rfl, o0⟩, b⟩
  obtain ⟨r0a, r0c, rfl⟩ := o0.shape
  have Zw2 : Hid (w1.heap.size ≤ w2.heap.size) := b.size
  replace B0 : Hid (Below w.heap.size w w2) := B0.out.trans (b.mono (by have := Zw1.out; omega))
  replace R0 : Hid (Rd w2 w.heap.size (.slice ao0 A0.length cap0) A0) := R0.out.below b (by have := Zw1.out; omega)
  replace Os_0 : Hid (Own w2 w.heap.size w1.heap.size (.slice s_0a A0.length s_0c) A0) := Os_0.out.below b (Nat.le_refl _)
  have Or0 : Hid (Rd w2 w2.heap.size (.slice r0a R.length r0c) R) := o0
  clear b o0
  clear Os_0
  go_wp2_with fail
  obtain ⟨w3, hw⟩ : ∃ x, x = w2.alloc (.cells #[(.slice r0a R.length r0c)] 54) := ⟨_, rfl⟩
  rw [← hw]
  have b : Below w2.heap.size w2 w3 := by rw [hw]; exact new1 _ _
  have x : Bx w3 w2.heap.size (.slice r0a R.length r0c) := by rw [hw]; exact Bx.new _ _ _
  have Zw3 : Hid (w2.heap.size ≤ w3.heap.size) := b.size
  replace B0 : Hid (Below w.heap.size w w3) := B0.out.trans (b.mono (by have := Zw1.out; have := Zw2.out; omega))
  replace R0 : Hid (Rd w3 w.heap.size (.slice ao0 A0.length cap0) A0) := R0.out.below b (by have := Zw1.out; have := Zw2.out; omega)
  replace Or0 : Hid (Rd w3 w2.heap.size (.slice r0a R.length r0c) R) := Or0.out.below b (Nat.le_refl _)
  have XS0 : Hid (Bx w3 w2.heap.size (.slice r0a R.length r0c)) := x
  have cXS0 : w3.cell? ⟨w2.heap.size, 0, none⟩ = some (.slice r0a R.length r0c) := XS0.out.cell
  have LXS0 : Hid (w2.heap.size < w3.heap.size) := XS0.out.lt
  clear b hw x
  refine (to_any (R0.out.ls (by have := Zw1.out; have := Zw2.out; have := Zw3.out; omega)) (by omega)).mono ?_
  rintro e w4 ⟨x0, rfl, o, b⟩
  obtain ⟨x0a, x0c, rfl⟩ := o.shape
  have Zw4 : Hid (w3.heap.size ≤ w4.heap.size) := b.size
  replace B0 : Hid (Below w.heap.size w w4) := B0.out.trans (b.mono (by have := Zw1.out; have := Zw2.out; have := Zw3.out; omega))
  replace R0 : Hid (Rd w4 w.heap.size (.slice ao0 A0.length cap0) A0) := R0.out.below b (by have := Zw1.out; have := Zw2.out; have := Zw3.out; omega)
  replace Or0 : Hid (Rd w4 w2.heap.size (.slice r0a R.length r0c) R) := Or0.out.below b (by have := Zw3.out; omega)
  replace XS0 : Hid (Bx w4 w2.heap.size (.slice r0a R.length r0c)) := XS0.out.kept b
  replace cXS0 : w4.cell? ⟨w2.heap.size, 0, none⟩ = some (.slice r0a R.length r0c) := XS0.out.cell
  have Ox0 : Hid (Own w4 w3.heap.size w4.heap.size (.slice x0a A0.length x0c) A0) := o
  clear o b
  go_wp2_with fail
  refine (HI.out w4 (.slice x0a A0.length x0c) (Ox0.out.rd.ls (Nat.le_refl _))).mono ?_
  rintro e w5 ⟨_, rfl, ⟨g0, rfl, o0⟩, b⟩
  obtain ⟨g0a, g0c, rfl⟩ := o0.shape
  have Zw5 : Hid (w4.heap.size ≤ w5.heap.size) := b.size
  replace B0 : Hid (Below w.heap.size w w5) := B0.out.trans (b.mono (by have := Zw1.out; have := Zw2.out; have := Zw3.out; have := Zw4.out; omega))
  replace R0 : Hid (Rd w5 w.heap.size (.slice ao0 A0.length cap0) A0) := R0.out.below b (by have := Zw1.out; have := Zw2.out; have := Zw3.out; have := Zw4.out; omega)
  replace Or0 : Hid (Rd w5 w2.heap.size (.slice r0a R.length r0c) R) := Or0.out.below b (by have := Zw3.out; have := Zw4.out; omega)
  replace Ox0 : Hid (Own w5 w3.heap.size w4.heap.size (.slice x0a A0.length x0c) A0) := Ox0.out.below b (Nat.le_refl _)
  replace XS0 : Hid (Bx w5 w2.heap.size (.slice r0a R.length r0c)) := XS0.out.kept b
  replace cXS0 : w5.cell? ⟨w2.heap.size, 0, none⟩ = some (.slice r0a R.length r0c) := XS0.out.cell
  have Og0 : Hid (Own w5 w4.heap.size w5.heap.size (.slice g0a R.length g0c) R) := o0
  clear b o0
  have dXS0 : (w5.alloc (.cells #[(.slice g0a R.length g0c)] 54)).cell? ⟨w2.heap.size, 0, none⟩ = some (.slice r0a R.length r0c) := (XS0.out.alloc _).cell
  go_wp2_with fail
  clear dXS0
  obtain ⟨w6, hw⟩ : ∃ x, x = w5.alloc (.cells #[(.slice g0a R.length g0c)] 54) := ⟨_, rfl⟩
  rw [← hw]
  have b : Below w5.heap.size w5 w6 := by rw [hw]; exact new1 _ _
  have x : Bx w6 w5.heap.size (.slice g0a R.length g0c) := by rw [hw]; exact Bx.new _ _ _
  have Zw6 : Hid (w5.heap.size ≤ w6.heap.size) := b.size
  replace B0 : Hid (Below w.heap.size w w6) := B0.out.trans (b.mono (by have := Zw1.out; have := Zw2.out; have := Zw3.out; have := Zw4.out; have := Zw5.out; omega))
  replace R0 : Hid (Rd w6 w.heap.size (.slice ao0 A0.length cap0) A0) := R0.out.below b (by have := Zw1.out; have := Zw2.out; have := Zw3.out; have := Zw4.out; have := Zw5.out; omega)
  replace Or0 : Hid (Rd w6 w2.heap.size (.slice r0a R.length r0c) R) := Or0.out.below b (by have := Zw3.out; have := Zw4.out; have := Zw5.out; omega)
  replace Ox0 : Hid (Own w6 w3.heap.size w4.heap.size (.slice x0a A0.length x0c) A0) := Ox0.out.below b (by have := Zw5.out; omega)
  replace Og0 : Hid (Own w6 w4.heap.size w5.heap.size (.slice g0a R.length g0c) R) := Og0.out.below b (Nat.le_refl _)
  replace XS0 : Hid (Bx w6 w2.heap.size (.slice r0a R.length r0c)) := XS0.out.kept b
  replace cXS0 : w6.cell? ⟨w2.heap.size, 0, none⟩ = some (.slice r0a R.length r0c) := XS0.out.cell
  have XG0 : Hid (Bx w6 w5.heap.size (.slice g0a R.length g0c)) := x
  have cXG0 : w6.cell? ⟨w5.heap.size, 0, none⟩ = some (.slice g0a R.length g0c) := XG0.out.cell
  have LXG0 : Hid (w5.heap.size < w6.heap.size) := XG0.out.lt
  clear b hw x
  refine (eqR_any ⟨_, rfl, (Og0.out.rd.ls (by have := Zw6.out; omega))⟩ ⟨_, rfl, (Or0.out.ls (by have := Zw3.out; have := Zw4.out; have := Zw5.out; have := Zw6.out; omega))⟩).mono ?_
  rintro e w7 ⟨rfl, b⟩
  have Zw7 : Hid (w6.heap.size ≤ w7.heap.size) := b.size
  replace B0 : Hid (Below w.heap.size w w7) := B0.out.trans (b.mono (by have := Zw1.out; have := Zw2.out; have := Zw3.out; have := Zw4.out; have := Zw5.out; have := Zw6.out; omega))
  replace R0 : Hid (Rd w7 w.heap.size (.slice ao0 A0.length cap0) A0) := R0.out.below b (by have := Zw1.out; have := Zw2.out; have := Zw3.out; have := Zw4.out; have := Zw5.out; have := Zw6.out; omega)
  replace Or0 : Hid (Rd w7 w2.heap.size (.slice r0a R.length r0c) R) := Or0.out.below b (by have := Zw3.out; have := Zw4.out; have := Zw5.out; have := Zw6.out; omega)
  replace Ox0 : Hid (Own w7 w3.heap.size w4.heap.size (.slice x0a A0.length x0c) A0) := Ox0.out.below b (by have := Zw5.out; have := Zw6.out; omega)
  replace Og0 : Hid (Own w7 w4.heap.size w5.heap.size (.slice g0a R.length g0c) R) := Og0.out.below b (by have := Zw6.out; omega)
  replace XS0 : Hid (Bx w7 w2.heap.size (.slice r0a R.length r0c)) := XS0.out.kept b
  replace cXS0 : w7.cell? ⟨w2.heap.size, 0, none⟩ = some (.slice r0a R.length r0c) := XS0.out.cell
  replace XG0 : Hid (Bx w7 w5.heap.size (.slice g0a R.length g0c)) := XG0.out.kept b
  replace cXG0 : w7.cell? ⟨w5.heap.size, 0, none⟩ = some (.slice g0a R.length g0c) := XG0.out.cell
  clear b
  go_wp2_with fail
  refine (to_any (R0.out.ls (by have := Zw1.out; have := Zw2.out; have := Zw3.out; have := Zw4.out; have := Zw5.out; have := Zw6.out; have := Zw7.out; omega)) (by omega)).mono ?_
  rintro e w8 ⟨y0, rfl, o, b⟩
  obtain ⟨y0a, y0c, rfl⟩ := o.shape
  have Zw8 : Hid (w7.heap.size ≤ w8.heap.size) := b.size
  replace B0 : Hid (Below w.heap.size w w8) := B0.out.trans (b.mono (by have := Zw1.out; have := Zw2.out; have := Zw3.out; have := Zw4.out; have := Zw5.out; have := Zw6.out; have := Zw7.out; omega))
  replace R0 : Hid (Rd w8 w.heap.size (.slice ao0 A0.length cap0) A0) := R0.out.below b (by have := Zw1.out; have := Zw2.out; have := Zw3.out; have := Zw4.out; have := Zw5.out; have := Zw6.out; have := Zw7.out; omega)
  replace Or0 : Hid (Rd w8 w2.heap.size (.slice r0a R.length r0c) R) := Or0.out.below b (by have := Zw3.out; have := Zw4.out; have := Zw5.out; have := Zw6.out; have := Zw7.out; omega)
  replace Ox0 : Hid (Own w8 w3.heap.size w4.heap.size (.slice x0a A0.length x0c) A0) := Ox0.out.below b (by have := Zw5.out; have := Zw6.out; have := Zw7.out; omega)
  replace Og0 : Hid (Own w8 w4.heap.size w5.heap.size (.slice g0a R.length g0c) R) := Og0.out.below b (by have := Zw6.out; have := Zw7.out; omega)
  replace XS0 : Hid (Bx w8 w2.heap.size (.slice r0a R.length r0c)) := XS0.out.kept b
  replace cXS0 : w8.cell? ⟨w2.heap.size, 0, none⟩ = some (.slice r0a R.length r0c) := XS0.out.cell
  replace XG0 : Hid (Bx w8 w5.heap.size (.slice g0a R.length g0c)) := XG0.out.kept b
  replace cXG0 : w8.cell? ⟨w5.heap.size, 0, none⟩ = some (.slice g0a R.length g0c) := XG0.out.cell
  have Oy0 : Hid (Own w8 w7.heap.size w8.heap.size (.slice y0a A0.length y0c) A0) := o
  clear o b
  go_wp2_with fail
  refine (eqS_any (Ox0.out.rd.ls (by have := Zw5.out; have := Zw6.out; have := Zw7.out; have := Zw8.out; omega)) (Oy0.out.rd.ls (Nat.le_refl _))).mono ?_
  rintro e w9 ⟨rfl, b⟩
  have Zw9 : Hid (w8.heap.size ≤ w9.heap.size) := b.size
  replace B0 : Hid (Below w.heap.size w w9) := B0.out.trans (b.mono (by have := Zw1.out; have := Zw2.out; have := Zw3.out; have := Zw4.out; have := Zw5.out; have := Zw6.out; have := Zw7.out; have := Zw8.out; omega))
  replace R0 : Hid (Rd w9 w.heap.size (.slice ao0 A0.length cap0) A0) := R0.out.below b (by have := Zw1.out; have := Zw2.out; have := Zw3.out; have := Zw4.out; have := Zw5.out; have := Zw6.out; have := Zw7.out; have := Zw8.out; omega)
  replace Or0 : Hid (Rd w9 w2.heap.size (.slice r0a R.length r0c) R) := Or0.out.below b (by have := Zw3.out; have := Zw4.out; have := Zw5.out; have := Zw6.out; have := Zw7.out; have := Zw8.out; omega)
  replace Ox0 : Hid (Own w9 w3.heap.size w4.heap.size (.slice x0a A0.length x0c) A0) := Ox0.out.below b (by have := Zw5.out; have := Zw6.out; have := Zw7.out; have := Zw8.out; omega)
  replace Og0 : Hid (Own w9 w4.heap.size w5.heap.size (.slice g0a R.length g0c) R) := Og0.out.below b (by have := Zw6.out; have := Zw7.out; have := Zw8.out; omega)
  replace Oy0 : Hid (Own w9 w7.heap.size w8.heap.size (.slice y0a A0.length y0c) A0) := Oy0.out.below b (Nat.le_refl _)
  replace XS0 : Hid (Bx w9 w2.heap.size (.slice r0a R.length r0c)) := XS0.out.kept b
  replace cXS0 : w9.cell? ⟨w2.heap.size, 0, none⟩ = some (.slice r0a R.length r0c) := XS0.out.cell
  replace XG0 : Hid (Bx w9 w5.heap.size (.slice g0a R.length g0c)) := XG0.out.kept b
  replace cXG0 : w9.cell? ⟨w5.heap.size, 0, none⟩ = some (.slice g0a R.length g0c) := XG0.out.cell
  clear b
  clear Oy0
  go_wp2_with fail
  refine (mark_any Ox0.out (by omega) (by omega) (by omega)).mono ?_
  rintro e w10 ⟨rfl, o, t⟩
  clear Ox0
  have Zw10 : Hid (w9.heap.size ≤ w10.heap.size) := t.size
  replace B0 : Hid (Below w.heap.size w w10) := B0.out.trans (t.below (by have := Zw1.out; have := Zw2.out; have := Zw3.out; omega) (by have := Zw1.out; have := Zw2.out; have := Zw3.out; have := Zw4.out; have := Zw5.out; have := Zw6.out; have := Zw7.out; have := Zw8.out; have := Zw9.out; omega))
  replace R0 : Hid (Rd w10 w.heap.size (.slice ao0 A0.length cap0) A0) := R0.out.turned t (by have := Zw1.out; have := Zw2.out; have := Zw3.out; omega) (by have := Zw1.out; have := Zw2.out; have := Zw3.out; have := Zw4.out; have := Zw5.out; have := Zw6.out; have := Zw7.out; have := Zw8.out; have := Zw9.out; omega)
  replace Or0 : Hid (Rd w10 w2.heap.size (.slice r0a R.length r0c) R) := Or0.out.turned t (by have := Zw3.out; omega) (by have := Zw3.out; have := Zw4.out; have := Zw5.out; have := Zw6.out; have := Zw7.out; have := Zw8.out; have := Zw9.out; omega)
  replace Og0 : Hid (Own w10 w4.heap.size w5.heap.size (.slice g0a R.length g0c) R) := Og0.out.turned t (.inr (Nat.le_refl _))
  replace XS0 : Hid (Bx w10 w2.heap.size (.slice r0a R.length r0c)) := XS0.out.turned t (by have := Zw1.out; have := Zw2.out; have := Zw3.out; have := Zw4.out; have := Zw5.out; have := Zw6.out; have := Zw7.out; have := Zw8.out; have := Zw9.out; have := LXS0.out; omega)
  replace cXS0 : w10.cell? ⟨w2.heap.size, 0, none⟩ = some (.slice r0a R.length r0c) := XS0.out.cell
  replace XG0 : Hid (Bx w10 w5.heap.size (.slice g0a R.length g0c)) := XG0.out.turned t (by have := Zw1.out; have := Zw2.out; have := Zw3.out; have := Zw4.out; have := Zw5.out; have := Zw6.out; have := Zw7.out; have := Zw8.out; have := Zw9.out; have := LXG0.out; omega)
  replace cXG0 : w10.cell? ⟨w5.heap.size, 0, none⟩ = some (.slice g0a R.length g0c) := XG0.out.cell
  have Ox0 : Hid (Own w10 w3.heap.size w4.heap.size (.slice x0a A0.length x0c) (mk (1) A0.length)) := o
  clear o t
  clear Ox0
  go_wp2_with fail
  refine (eqR_any ⟨_, rfl, (Og0.out.rd.ls (by have := Zw6.out; have := Zw7.out; have := Zw8.out; have := Zw9.out; have := Zw10.out; omega))⟩ ⟨_, rfl, (Or0.out.ls (by have := Zw3.out; have := Zw4.out; have := Zw5.out; have := Zw6.out; have := Zw7.out; have := Zw8.out; have := Zw9.out; have := Zw10.out; omega))⟩).mono ?_
  rintro e w11 ⟨rfl, b⟩
  have Zw11 : Hid (w10.heap.size ≤ w11.heap.size) := b.size
  replace B0 : Hid (Below w.heap.size w w11) := B0.out.trans (b.mono (by have := Zw1.out; have := Zw2.out; have := Zw3.out; have := Zw4.out; have := Zw5.out; have := Zw6.out; have := Zw7.out; have := Zw8.out; have := Zw9.out; have := Zw10.out; omega))
  replace R0 : Hid (Rd w11 w.heap.size (.slice ao0 A0.length cap0) A0) := R0.out.below b (by have := Zw1.out; have := Zw2.out; have := Zw3.out; have := Zw4.out; have := Zw5.out; have := Zw6.out; have := Zw7.out; have := Zw8.out; have := Zw9.out; have := Zw10.out; omega)
  replace Or0 : Hid (Rd w11 w2.heap.size (.slice r0a R.length r0c) R) := Or0.out.below b (by have := Zw3.out; have := Zw4.out; have := Zw5.out; have := Zw6.out; have := Zw7.out; have := Zw8.out; have := Zw9.out; have := Zw10.out; omega)
  replace Og0 : Hid (Own w11 w4.heap.size w5.heap.size (.slice g0a R.length g0c) R) := Og0.out.below b (by have := Zw6.out; have := Zw7.out; have := Zw8.out; have := Zw9.out; have := Zw10.out; omega)
  replace XS0 : Hid (Bx w11 w2.heap.size (.slice r0a R.length r0c)) := XS0.out.kept b
  replace cXS0 : w11.cell? ⟨w2.heap.size, 0, none⟩ = some (.slice r0a R.length r0c) := XS0.out.cell
  replace XG0 : Hid (Bx w11 w5.heap.size (.slice g0a R.length g0c)) := XG0.out.kept b
  replace cXG0 : w11.cell? ⟨w5.heap.size, 0, none⟩ = some (.slice g0a R.length g0c) := XG0.out.cell
  clear b
  go_wp2_with fail
  refine (markR_any ⟨_, rfl, Og0.out⟩ (by omega) (by omega) (by omega)).mono ?_
  rintro e w12 ⟨rfl, o, t⟩
  clear Og0
  have Zw12 : Hid (w11.heap.size ≤ w12.heap.size) := t.size
  replace B0 : Hid (Below w.heap.size w w12) := B0.out.trans (t.below (by have := Zw1.out; have := Zw2.out; have := Zw3.out; have := Zw4.out; omega) (by have := Zw1.out; have := Zw2.out; have := Zw3.out; have := Zw4.out; have := Zw5.out; have := Zw6.out; have := Zw7.out; have := Zw8.out; have := Zw9.out; have := Zw10.out; have := Zw11.out; omega))
  replace R0 : Hid (Rd w12 w.heap.size (.slice ao0 A0.length cap0) A0) := R0.out.turned t (by have := Zw1.out; have := Zw2.out; have := Zw3.out; have := Zw4.out; omega) (by have := Zw1.out; have := Zw2.out; have := Zw3.out; have := Zw4.out; have := Zw5.out; have := Zw6.out; have := Zw7.out; have := Zw8.out; have := Zw9.out; have := Zw10.out; have := Zw11.out; omega)
  replace Or0 : Hid (Rd w12 w2.heap.size (.slice r0a R.length r0c) R) := Or0.out.turned t (by have := Zw3.out; have := Zw4.out; omega) (by have := Zw3.out; have := Zw4.out; have := Zw5.out; have := Zw6.out; have := Zw7.out; have := Zw8.out; have := Zw9.out; have := Zw10.out; have := Zw11.out; omega)
  replace XS0 : Hid (Bx w12 w2.heap.size (.slice r0a R.length r0c)) := XS0.out.turned t (by have := Zw1.out; have := Zw2.out; have := Zw3.out; have := Zw4.out; have := Zw5.out; have := Zw6.out; have := Zw7.out; have := Zw8.out; have := Zw9.out; have := Zw10.out; have := Zw11.out; have := LXS0.out; omega)
  replace cXS0 : w12.cell? ⟨w2.heap.size, 0, none⟩ = some (.slice r0a R.length r0c) := XS0.out.cell
  replace XG0 : Hid (Bx w12 w5.heap.size (.slice g0a R.length g0c)) := XG0.out.turned t (by have := Zw1.out; have := Zw2.out; have := Zw3.out; have := Zw4.out; have := Zw5.out; have := Zw6.out; have := Zw7.out; have := Zw8.out; have := Zw9.out; have := Zw10.out; have := Zw11.out; have := LXG0.out; omega)
  replace cXG0 : w12.cell? ⟨w5.heap.size, 0, none⟩ = some (.slice g0a R.length g0c) := XG0.out.cell
  obtain ⟨_, ho, o⟩ := o
  obtain rfl := agg_inj ho
  have Og0 : Hid (Own w12 w4.heap.size w5.heap.size (.slice g0a R.length g0c) (mk (1) R.length)) := o
  clear o t
  go_wp2_with fail
  refine (heldR_any ⟨_, rfl, (Og0.out.rd.ls (by have := Zw6.out; have := Zw7.out; have := Zw8.out; have := Zw9.out; have := Zw10.out; have := Zw11.out; have := Zw12.out; omega))⟩ (by omega) (by omega) (by omega)).mono ?_
  rintro e w13 ⟨rfl, b⟩
  have Zw13 : Hid (w12.heap.size ≤ w13.heap.size) := b.size
  replace B0 : Hid (Below w.heap.size w w13) := B0.out.trans (b.mono (by have := Zw1.out; have := Zw2.out; have := Zw3.out; have := Zw4.out; have := Zw5.out; have := Zw6.out; have := Zw7.out; have := Zw8.out; have := Zw9.out; have := Zw10.out; have := Zw11.out; have := Zw12.out; omega))
  replace R0 : Hid (Rd w13 w.heap.size (.slice ao0 A0.length cap0) A0) := R0.out.below b (by have := Zw1.out; have := Zw2.out; have := Zw3.out; have := Zw4.out; have := Zw5.out; have := Zw6.out; have := Zw7.out; have := Zw8.out; have := Zw9.out; have := Zw10.out; have := Zw11.out; have := Zw12.out; omega)
  replace Or0 : Hid (Rd w13 w2.heap.size (.slice r0a R.length r0c) R) := Or0.out.below b (by have := Zw3.out; have := Zw4.out; have := Zw5.out; have := Zw6.out; have := Zw7.out; have := Zw8.out; have := Zw9.out; have := Zw10.out; have := Zw11.out; have := Zw12.out; omega)
  replace Og0 : Hid (Own w13 w4.heap.size w5.heap.size (.slice g0a R.length g0c) (mk (1) R.length)) := Og0.out.below b (by have := Zw6.out; have := Zw7.out; have := Zw8.out; have := Zw9.out; have := Zw10.out; have := Zw11.out; have := Zw12.out; omega)
  replace XS0 : Hid (Bx w13 w2.heap.size (.slice r0a R.length r0c)) := XS0.out.kept b
  replace cXS0 : w13.cell? ⟨w2.heap.size, 0, none⟩ = some (.slice r0a R.length r0c) := XS0.out.cell
  replace XG0 : Hid (Bx w13 w5.heap.size (.slice g0a R.length g0c)) := XG0.out.kept b
  replace cXG0 : w13.cell? ⟨w5.heap.size, 0, none⟩ = some (.slice g0a R.length g0c) := XG0.out.cell
  clear b
  go_wp2_with fail
  refine (to_any (R0.out.ls (by have := Zw1.out; have := Zw2.out; have := Zw3.out; have := Zw4.out; have := Zw5.out; have := Zw6.out; have := Zw7.out; have := Zw8.out; have := Zw9.out; have := Zw10.out; have := Zw11.out; have := Zw12.out; have := Zw13.out; omega)) (by omega)).mono ?_
  rintro e w14 ⟨t0, rfl, o, b⟩
  obtain ⟨t0a, t0c, rfl⟩ := o.shape
  have Zw14 : Hid (w13.heap.size ≤ w14.heap.size) := b.size
  replace B0 : Hid (Below w.heap.size w w14) := B0.out.trans (b.mono (by have := Zw1.out; have := Zw2.out; have := Zw3.out; have := Zw4.out; have := Zw5.out; have := Zw6.out; have := Zw7.out; have := Zw8.out; have := Zw9.out; have := Zw10.out; have := Zw11.out; have := Zw12.out; have := Zw13.out; omega))
  replace R0 : Hid (Rd w14 w.heap.size (.slice ao0 A0.length cap0) A0) := R0.out.below b (by have := Zw1.out; have := Zw2.out; have := Zw3.out; have := Zw4.out; have := Zw5.out; have := Zw6.out; have := Zw7.out; have := Zw8.out; have := Zw9.out; have := Zw10.out; have := Zw11.out; have := Zw12.out; have := Zw13.out; omega)
  replace Or0 : Hid (Rd w14 w2.heap.size (.slice r0a R.length r0c) R) := Or0.out.below b (by have := Zw3.out; have := Zw4.out; have := Zw5.out; have := Zw6.out; have := Zw7.out; have := Zw8.out; have := Zw9.out; have := Zw10.out; have := Zw11.out; have := Zw12.out; have := Zw13.out; omega)
  replace Og0 : Hid (Own w14 w4.heap.size w5.heap.size (.slice g0a R.length g0c) (mk (1) R.length)) := Og0.out.below b (by have := Zw6.out; have := Zw7.out; have := Zw8.out; have := Zw9.out; have := Zw10.out; have := Zw11.out; have := Zw12.out; have := Zw13.out; omega)
  replace XS0 : Hid (Bx w14 w2.heap.size (.slice r0a R.length r0c)) := XS0.out.kept b
  replace cXS0 : w14.cell? ⟨w2.heap.size, 0, none⟩ = some (.slice r0a R.length r0c) := XS0.out.cell
  replace XG0 : Hid (Bx w14 w5.heap.size (.slice g0a R.length g0c)) := XG0.out.kept b
  replace cXG0 : w14.cell? ⟨w5.heap.size, 0, none⟩ = some (.slice g0a R.length g0c) := XG0.out.cell
  have Ot0 : Hid (Own w14 w13.heap.size w14.heap.size (.slice t0a A0.length t0c) A0) := o
  clear o b
  go_wp2_with fail
  refine (HI.out w14 (.slice t0a A0.length t0c) (Ot0.out.rd.ls (Nat.le_refl _))).mono ?_
  rintro e w15 ⟨_, rfl, ⟨h0, rfl, o0⟩, b⟩
  obtain ⟨h0a, h0c, rfl⟩ := o0.shape
  have Zw15 : Hid (w14.heap.size ≤ w15.heap.size) := b.size
  replace B0 : Hid (Below w.heap.size w w15) := B0.out.trans (b.mono (by have := Zw1.out; have := Zw2.out; have := Zw3.out; have := Zw4.out; have := Zw5.out; have := Zw6.out; have := Zw7.out; have := Zw8.out; have := Zw9.out; have := Zw10.out; have := Zw11.out; have := Zw12.out; have := Zw13.out; have := Zw14.out; omega))
  replace R0 : Hid (Rd w15 w.heap.size (.slice ao0 A0.length cap0) A0) := R0.out.below b (by have := Zw1.out; have := Zw2.out; have := Zw3.out; have := Zw4.out; have := Zw5.out; have := Zw6.out; have := Zw7.out; have := Zw8.out; have := Zw9.out; have := Zw10.out; have := Zw11.out; have := Zw12.out; have := Zw13.out; have := Zw14.out; omega)
  replace Or0 : Hid (Rd w15 w2.heap.size (.slice r0a R.length r0c) R) := Or0.out.below b (by have := Zw3.out; have := Zw4.out; have := Zw5.out; have := Zw6.out; have := Zw7.out; have := Zw8.out; have := Zw9.out; have := Zw10.out; have := Zw11.out; have := Zw12.out; have := Zw13.out; have := Zw14.out; omega)
  replace Og0 : Hid (Own w15 w4.heap.size w5.heap.size (.slice g0a R.length g0c) (mk (1) R.length)) := Og0.out.below b (by have := Zw6.out; have := Zw7.out; have := Zw8.out; have := Zw9.out; have := Zw10.out; have := Zw11.out; have := Zw12.out; have := Zw13.out; have := Zw14.out; omega)
  replace Ot0 : Hid (Own w15 w13.heap.size w14.heap.size (.slice t0a A0.length t0c) A0) := Ot0.out.below b (Nat.le_refl _)
  replace XS0 : Hid (Bx w15 w2.heap.size (.slice r0a R.length r0c)) := XS0.out.kept b
  replace cXS0 : w15.cell? ⟨w2.heap.size, 0, none⟩ = some (.slice r0a R.length r0c) := XS0.out.cell
  replace XG0 : Hid (Bx w15 w5.heap.size (.slice g0a R.length g0c)) := XG0.out.kept b
  replace cXG0 : w15.cell? ⟨w5.heap.size, 0, none⟩ = some (.slice g0a R.length g0c) := XG0.out.cell
  have Oh0 : Hid (Own w15 w14.heap.size w15.heap.size (.slice h0a R.length h0c) R) := o0
  clear b o0
  clear Ot0
  have dXS0 : (w15.alloc (.cells #[(.slice h0a R.length h0c)] 54)).cell? ⟨w2.heap.size, 0, none⟩ = some (.slice r0a R.length r0c) := (XS0.out.alloc _).cell
  have dXG0 : (w15.alloc (.cells #[(.slice h0a R.length h0c)] 54)).cell? ⟨w5.heap.size, 0, none⟩ = some (.slice g0a R.length g0c) := (XG0.out.alloc _).cell
  go_wp2_with fail
  clear dXS0 dXG0
  obtain ⟨w16, hw⟩ : ∃ x, x = w15.alloc (.cells #[(.slice h0a R.length h0c)] 54) := ⟨_, rfl⟩
  rw [← hw]
  have b : Below w15.heap.size w15 w16 := by rw [hw]; exact new1 _ _
  have x : Bx w16 w15.heap.size (.slice h0a R.length h0c) := by rw [hw]; exact Bx.new _ _ _
  have Zw16 : Hid (w15.heap.size ≤ w16.heap.size) := b.size
  replace B0 : Hid (Below w.heap.size w w16) := B0.out.trans (b.mono (by have := Zw1.out; have := Zw2.out; have := Zw3.out; have := Zw4.out; have := Zw5.out; have := Zw6.out; have := Zw7.out; have := Zw8.out; have := Zw9.out; have := Zw10.out; have := Zw11.out; have := Zw12.out; have := Zw13.out; have := Zw14.out; have := Zw15.out; omega))
  replace R0 : Hid (Rd w16 w.heap.size (.slice ao0 A0.length cap0) A0) := R0.out.below b (by have := Zw1.out; have := Zw2.out; have := Zw3.out; have := Zw4.out; have := Zw5.out; have := Zw6.out; have := Zw7.out; have := Zw8.out; have := Zw9.out; have := Zw10.out; have := Zw11.out; have := Zw12.out; have := Zw13.out; have := Zw14.out; have := Zw15.out; omega)
  replace Or0 : Hid (Rd w16 w2.heap.size (.slice r0a R.length r0c) R) := Or0.out.below b (by have := Zw3.out; have := Zw4.out; have := Zw5.out; have := Zw6.out; have := Zw7.out; have := Zw8.out; have := Zw9.out; have := Zw10.out; have := Zw11.out; have := Zw12.out; have := Zw13.out; have := Zw14.out; have := Zw15.out; omega)
  replace Og0 : Hid (Own w16 w4.heap.size w5.heap.size (.slice g0a R.length g0c) (mk (1) R.length)) := Og0.out.below b (by have := Zw6.out; have := Zw7.out; have := Zw8.out; have := Zw9.out; have := Zw10.out; have := Zw11.out; have := Zw12.out; have := Zw13.out; have := Zw14.out; have := Zw15.out; omega)
  replace Oh0 : Hid (Own w16 w14.heap.size w15.heap.size (.slice h0a R.length h0c) R) := Oh0.out.below b (Nat.le_refl _)
  replace XS0 : Hid (Bx w16 w2.heap.size (.slice r0a R.length r0c)) := XS0.out.kept b
  replace cXS0 : w16.cell? ⟨w2.heap.size, 0, none⟩ = some (.slice r0a R.length r0c) := XS0.out.cell
  replace XG0 : Hid (Bx w16 w5.heap.size (.slice g0a R.length g0c)) := XG0.out.kept b
  replace cXG0 : w16.cell? ⟨w5.heap.size, 0, none⟩ = some (.slice g0a R.length g0c) := XG0.out.cell
  have XH0 : Hid (Bx w16 w15.heap.size (.slice h0a R.length h0c)) := x
  have cXH0 : w16.cell? ⟨w15.heap.size, 0, none⟩ = some (.slice h0a R.length h0c) := XH0.out.cell
  have LXH0 : Hid (w15.heap.size < w16.heap.size) := XH0.out.lt
  clear b hw x
  refine (eqR_any ⟨_, rfl, (Oh0.out.rd.ls (by have := Zw16.out; omega))⟩ ⟨_, rfl, (Or0.out.ls (by have := Zw3.out; have := Zw4.out; have := Zw5.out; have := Zw6.out; have := Zw7.out; have := Zw8.out; have := Zw9.out; have := Zw10.out; have := Zw11.out; have := Zw12.out; have := Zw13.out; have := Zw14.out; have := Zw15.out; have := Zw16.out; omega))⟩).mono ?_
  rintro e w17 ⟨rfl, b⟩
  have Zw17 : Hid (w16.heap.size ≤ w17.heap.size) := b.size
  replace B0 : Hid (Below w.heap.size w w17) := B0.out.trans (b.mono (by have := Zw1.out; have := Zw2.out; have := Zw3.out; have := Zw4.out; have := Zw5.out; have := Zw6.out; have := Zw7.out; have := Zw8.out; have := Zw9.out; have := Zw10.out; have := Zw11.out; have := Zw12.out; have := Zw13.out; have := Zw14.out; have := Zw15.out; have := Zw16.out; omega))
  replace R0 : Hid (Rd w17 w.heap.size (.slice ao0 A0.length cap0) A0) := R0.out.below b (by have := Zw1.out; have := Zw2.out; have := Zw3.out; have := Zw4.out; have := Zw5.out; have := Zw6.out; have := Zw7.out; have := Zw8.out; have := Zw9.out; have := Zw10.out; have := Zw11.out; have := Zw12.out; have := Zw13.out; have := Zw14.out; have := Zw15.out; have := Zw16.out; omega)
  replace Or0 : Hid (Rd w17 w2.heap.size (.slice r0a R.length r0c) R) := Or0.out.below b (by have := Zw3.out; have := Zw4.out; have := Zw5.out; have := Zw6.out; have := Zw7.out; have := Zw8.out; have := Zw9.out; have := Zw10.out; have := Zw11.out; have := Zw12.out; have := Zw13.out; have := Zw14.out; have := Zw15.out; have := Zw16.out; omega)
  replace Og0 : Hid (Own w17 w4.heap.size w5.heap.size (.slice g0a R.length g0c) (mk (1) R.length)) := Og0.out.below b (by have := Zw6.out; have := Zw7.out; have := Zw8.out; have := Zw9.out; have := Zw10.out; have := Zw11.out; have := Zw12.out; have := Zw13.out; have := Zw14.out; have := Zw15.out; have := Zw16.out; omega)
  replace Oh0 : Hid (Own w17 w14.heap.size w15.heap.size (.slice h0a R.length h0c) R) := Oh0.out.below b (by have := Zw16.out; omega)
  replace XS0 : Hid (Bx w17 w2.heap.size (.slice r0a R.length r0c)) := XS0.out.kept b
  replace cXS0 : w17.cell? ⟨w2.heap.size, 0, none⟩ = some (.slice r0a R.length r0c) := XS0.out.cell
  replace XG0 : Hid (Bx w17 w5.heap.size (.slice g0a R.length g0c)) := XG0.out.kept b
  replace cXG0 : w17.cell? ⟨w5.heap.size, 0, none⟩ = some (.slice g0a R.length g0c) := XG0.out.cell
  replace XH0 : Hid (Bx w17 w15.heap.size (.slice h0a R.length h0c)) := XH0.out.kept b
  replace cXH0 : w17.cell? ⟨w15.heap.size, 0, none⟩ = some (.slice h0a R.length h0c) := XH0.out.cell
  clear b
  clear Oh0
  clear cXH0 XH0 LXH0
  go_wp2_with fail
  refine (heldR_any ⟨_, rfl, (Og0.out.rd.ls (by have := Zw6.out; have := Zw7.out; have := Zw8.out; have := Zw9.out; have := Zw10.out; have := Zw11.out; have := Zw12.out; have := Zw13.out; have := Zw14.out; have := Zw15.out; have := Zw16.out; have := Zw17.out; omega))⟩ (by omega) (by omega) (by omega)).mono ?_
  rintro e w18 ⟨rfl, b⟩
  have Zw18 : Hid (w17.heap.size ≤ w18.heap.size) := b.size
  replace B0 : Hid (Below w.heap.size w w18) := B0.out.trans (b.mono (by have := Zw1.out; have := Zw2.out; have := Zw3.out; have := Zw4.out; have := Zw5.out; have := Zw6.out; have := Zw7.out; have := Zw8.out; have := Zw9.out; have := Zw10.out; have := Zw11.out; have := Zw12.out; have := Zw13.out; have := Zw14.out; have := Zw15.out; have := Zw16.out; have := Zw17.out; omega))
  replace R0 : Hid (Rd w18 w.heap.size (.slice ao0 A0.length cap0) A0) := R0.out.below b (by have := Zw1.out; have := Zw2.out; have := Zw3.out; have := Zw4.out; have := Zw5.out; have := Zw6.out; have := Zw7.out; have := Zw8.out; have := Zw9.out; have := Zw10.out; have := Zw11.out; have := Zw12.out; have := Zw13.out; have := Zw14.out; have := Zw15.out; have := Zw16.out; have := Zw17.out; omega)
  replace Or0 : Hid (Rd w18 w2.heap.size (.slice r0a R.length r0c) R) := Or0.out.below b (by have := Zw3.out; have := Zw4.out; have := Zw5.out; have := Zw6.out; have := Zw7.out; have := Zw8.out; have := Zw9.out; have := Zw10.out; have := Zw11.out; have := Zw12.out; have := Zw13.out; have := Zw14.out; have := Zw15.out; have := Zw16.out; have := Zw17.out; omega)
  replace Og0 : Hid (Own w18 w4.heap.size w5.heap.size (.slice g0a R.length g0c) (mk (1) R.length)) := Og0.out.below b (by have := Zw6.out; have := Zw7.out; have := Zw8.out; have := Zw9.out; have := Zw10.out; have := Zw11.out; have := Zw12.out; have := Zw13.out; have := Zw14.out; have := Zw15.out; have := Zw16.out; have := Zw17.out; omega)
  replace XS0 : Hid (Bx w18 w2.heap.size (.slice r0a R.length r0c)) := XS0.out.kept b
  replace cXS0 : w18.cell? ⟨w2.heap.size, 0, none⟩ = some (.slice r0a R.length r0c) := XS0.out.cell
  replace XG0 : Hid (Bx w18 w5.heap.size (.slice g0a R.length g0c)) := XG0.out.kept b
  replace cXG0 : w18.cell? ⟨w5.heap.size, 0, none⟩ = some (.slice g0a R.length g0c) := XG0.out.cell
  clear b
  go_wp2_with fail
  go_ret
  exact ⟨rfl, B0.out⟩
end Go.Proofs.Ythldlhpdnocmcaa.fnExactRealOfRootsW
