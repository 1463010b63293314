/- The law FnExactSquareFree: its walk, over what both sides answer. -/
import Derived.Test.YtbbdhbamooaloaaWs
import Derived.Test.YtbbdhbamooaloaaSquareFreeF
import Derived.Test.YtbbdhbamooaloaaWw
import Derived.Deep.RegionHeld3
import Derived.Deep.DeepCutAuto
namespace Go.Proofs.Ytbbdhbamooaloaa.fnExactSquareFreeW
open Go.RowKit Go.Proofs.Ytbbdhbamooaloaa.wh

set_option maxRecDepth 100000 in
set_option maxHeartbeats 4000000 in
theorem walk (v0 : Value) (w : World) (h0 : ∃ L, Wh w v0 L) :
    Calls Try.prog 3 #[v0] w fun e w' => e = .returned (.bool true) ∧ Below w.heap.size w w' := by
  obtain ⟨A0, s0, rfl, h0⟩ := h0
  obtain ⟨R, hR⟩ : ∃ r : List (List Int), r = fSquareFree.R A0 := ⟨_, rfl⟩
  obtain ⟨ok, hok⟩ : ∃ r : Bool, r = fSquareFree.ok A0 := ⟨_, rfl⟩
  have HS : Hid (∀ (w : World) (v0 : Value), Ls w v0 A0 → Calls Try.prog 8 #[.agg #[v0]] w (AnsWs R ok w)) := fun w v0 h0 => by rw [hR, hok]; exact fSquareFree.spec_any ⟨_, rfl, h0⟩ 
  have HI : Hid (∀ (w : World) (v0 : Value), Ls w v0 A0 → Calls Try.prog 10 #[.agg #[v0]] w (AnsWs R ok w)) := fun w v0 h0 => by rw [hR, hok]; exact fSquareFree.impl_any ⟨_, rfl, h0⟩ 
  have hlen : tot R ≤ 1048576 := by rw [hR]; have := fSquareFree.len A0; omega
  clear hR hok
  have R0 : Hid (Rd w w.heap.size s0 A0) := h0
  clear h0
  have B0 : Hid (Below w.heap.size w w) := Below.refl _ _
  by_cases hs0 : (A0.length : Int) ≤ 1048576
  case neg =>
    clear HS HI hlen
    go_enter Try.func3, Try.ntmps3
    go_wp2_with fail
    obtain ⟨w1, hw⟩ : ∃ x, x = (w.alloc (.cells #[s0] 24)) := ⟨_, rfl⟩
    rw [← hw]
    have b : Below w.heap.size w w1 := by rw [hw]; exact new1 _ _ 
    have Zw1 : Hid (w.heap.size ≤ w1.heap.size) := b.size
    replace B0 : Hid (Below w.heap.size w w1) := B0.out.trans (b.mono (Nat.le_refl _))
    replace R0 : Hid (Rd w1 w.heap.size s0 A0) := R0.out.below b (Nat.le_refl _)
    have XP0 : Hid (Bx w1 w.heap.size s0) := by rw [hw]; exact Bx.new _ _ _
    have cXP0 : w1.cell? ⟨w.heap.size, 0, none⟩ = some s0 := XP0.out.cell
    have LXP0 : Hid (w.heap.size < w1.heap.size) := XP0.out.lt
    clear b hw
    refine (sz_no ⟨_, rfl, (R0.out.ls (by have := Zw1.out; omega))⟩ (by omega) (by omega) (by omega)).mono ?_
    rintro e w2 ⟨rfl, b⟩
    have Zw2 : Hid (w1.heap.size ≤ w2.heap.size) := b.size
    replace B0 : Hid (Below w.heap.size w w2) := B0.out.trans (b.mono (by have := Zw1.out; omega))
    replace R0 : Hid (Rd w2 w.heap.size s0 A0) := R0.out.below b (by have := Zw1.out; omega)
    replace XP0 : Hid (Bx w2 w.heap.size s0) := XP0.out.kept b
    replace cXP0 : w2.cell? ⟨w.heap.size, 0, none⟩ = some s0 := XP0.out.cell
    clear b
    go_wp2_with fail
    go_ret
    exact ⟨rfl, B0.out⟩
  go_enter Try.func3, Try.ntmps3
  go_wp2_with fail
  obtain ⟨w1, hw⟩ : ∃ x, x = (w.alloc (.cells #[s0] 24)) := ⟨_, rfl⟩
  rw [← hw]
  have b : Below w.heap.size w w1 := by rw [hw]; exact new1 _ _ 
  have Zw1 : Hid (w.heap.size ≤ w1.heap.size) := b.size
  replace B0 : Hid (Below w.heap.size w w1) := B0.out.trans (b.mono (Nat.le_refl _))
  replace R0 : Hid (Rd w1 w.heap.size s0 A0) := R0.out.below b (Nat.le_refl _)
  have XP0 : Hid (Bx w1 w.heap.size s0) := by rw [hw]; exact Bx.new _ _ _
  have cXP0 : w1.cell? ⟨w.heap.size, 0, none⟩ = some s0 := XP0.out.cell
  have LXP0 : Hid (w.heap.size < w1.heap.size) := XP0.out.lt
  clear b hw
  refine (sz_yes ⟨_, rfl, (R0.out.ls (by have := Zw1.out; omega))⟩ (by omega) (by omega)).mono ?_
  rintro e w2 ⟨rfl, b⟩
  have Zw2 : Hid (w1.heap.size ≤ w2.heap.size) := b.size
  replace B0 : Hid (Below w.heap.size w w2) := B0.out.trans (b.mono (by have := Zw1.out; omega))
  replace R0 : Hid (Rd w2 w.heap.size s0 A0) := R0.out.below b (by have := Zw1.out; omega)
  replace XP0 : Hid (Bx w2 w.heap.size s0) := XP0.out.kept b
  replace cXP0 : w2.cell? ⟨w.heap.size, 0, none⟩ = some s0 := XP0.out.cell
  clear b
  go_wp2_with fail
  refine (toW_any ⟨_, rfl, (R0.out.ls (by have := Zw1.out; have := Zw2.out; omega))⟩ (by omega)).mono ?_
  rintro e w3 ⟨_, rfl, ⟨s_0, rfl, o⟩, b⟩
  obtain ⟨s_0a, s_0c, rfl⟩ := o.shape
  have Zw3 : Hid (w2.heap.size ≤ w3.heap.size) := b.size
  replace B0 : Hid (Below w.heap.size w w3) := B0.out.trans (b.mono (by have := Zw1.out; have := Zw2.out; omega))
  replace R0 : Hid (Rd w3 w.heap.size s0 A0) := R0.out.below b (by have := Zw1.out; have := Zw2.out; omega)
  replace XP0 : Hid (Bx w3 w.heap.size s0) := XP0.out.kept b
  replace cXP0 : w3.cell? ⟨w.heap.size, 0, none⟩ = some s0 := XP0.out.cell
  have Os_0 : Hid (wh.Own w3 w2.heap.size w3.heap.size (.slice s_0a A0.length s_0c) A0) := o
  clear o b
  go_wp2_with fail
  refine (HS.out w3 (.slice s_0a A0.length s_0c) (Os_0.out.rd.ls (Nat.le_refl _))).mono ?_
  rintro e w4 ⟨r0, rfl, o0, b⟩
  obtain ⟨r0a, r0c, rfl⟩ := o0.shape
  have Zw4 : Hid (w3.heap.size ≤ w4.heap.size) := b.size
  replace B0 : Hid (Below w.heap.size w w4) := B0.out.trans (b.mono (by have := Zw1.out; have := Zw2.out; have := Zw3.out; omega))
  replace R0 : Hid (Rd w4 w.heap.size s0 A0) := R0.out.below b (by have := Zw1.out; have := Zw2.out; have := Zw3.out; omega)
  replace Os_0 : Hid (wh.Own w4 w2.heap.size w3.heap.size (.slice s_0a A0.length s_0c) A0) := Os_0.out.below b (Nat.le_refl _)
  replace XP0 : Hid (Bx w4 w.heap.size s0) := XP0.out.kept b
  replace cXP0 : w4.cell? ⟨w.heap.size, 0, none⟩ = some s0 := XP0.out.cell
  have Or0 : Hid (OwWs w4 w3.heap.size w4.heap.size (.slice r0a R.length r0c) R) := o0
  clear b o0
  clear Os_0
  go_wp2_with fail
  refine (toW_any ⟨_, rfl, (R0.out.ls (by have := Zw1.out; have := Zw2.out; have := Zw3.out; have := Zw4.out; omega))⟩ (by omega)).mono ?_
  rintro e w5 ⟨_, rfl, ⟨x0, rfl, o⟩, b⟩
  obtain ⟨x0a, x0c, rfl⟩ := o.shape
  have Zw5 : Hid (w4.heap.size ≤ w5.heap.size) := b.size
  replace B0 : Hid (Below w.heap.size w w5) := B0.out.trans (b.mono (by have := Zw1.out; have := Zw2.out; have := Zw3.out; have := Zw4.out; omega))
  replace R0 : Hid (Rd w5 w.heap.size s0 A0) := R0.out.below b (by have := Zw1.out; have := Zw2.out; have := Zw3.out; have := Zw4.out; omega)
  replace Or0 : Hid (OwWs w5 w3.heap.size w4.heap.size (.slice r0a R.length r0c) R) := Or0.out.below b (Nat.le_refl _)
  replace XP0 : Hid (Bx w5 w.heap.size s0) := XP0.out.kept b
  replace cXP0 : w5.cell? ⟨w.heap.size, 0, none⟩ = some s0 := XP0.out.cell
  have Ox0 : Hid (wh.Own w5 w4.heap.size w5.heap.size (.slice x0a A0.length x0c) A0) := o
  clear o b
  have dXP0 : (w5.alloc (.cells #[(.slice x0a A0.length x0c)] 29)).cell? ⟨w.heap.size, 0, none⟩ = some s0 := (XP0.out.alloc _).cell
  go_wp2_with fail
  clear dXP0
  obtain ⟨w6, hw⟩ : ∃ x, x = w5.alloc (.cells #[(.slice x0a A0.length x0c)] 29) := ⟨_, rfl⟩
  rw [← hw]
  have b : Below w5.heap.size w5 w6 := by rw [hw]; exact new1 _ _
  have x : Bx w6 w5.heap.size (.slice x0a A0.length x0c) := by rw [hw]; exact Bx.new _ _ _
  have Zw6 : Hid (w5.heap.size ≤ w6.heap.size) := b.size
  replace B0 : Hid (Below w.heap.size w w6) := B0.out.trans (b.mono (by have := Zw1.out; have := Zw2.out; have := Zw3.out; have := Zw4.out; have := Zw5.out; omega))
  replace R0 : Hid (Rd w6 w.heap.size s0 A0) := R0.out.below b (by have := Zw1.out; have := Zw2.out; have := Zw3.out; have := Zw4.out; have := Zw5.out; omega)
  replace Or0 : Hid (OwWs w6 w3.heap.size w4.heap.size (.slice r0a R.length r0c) R) := Or0.out.below b (by have := Zw5.out; omega)
  replace Ox0 : Hid (wh.Own w6 w4.heap.size w5.heap.size (.slice x0a A0.length x0c) A0) := Ox0.out.below b (Nat.le_refl _)
  replace XP0 : Hid (Bx w6 w.heap.size s0) := XP0.out.kept b
  replace cXP0 : w6.cell? ⟨w.heap.size, 0, none⟩ = some s0 := XP0.out.cell
  have XX0 : Hid (Bx w6 w5.heap.size (.slice x0a A0.length x0c)) := x
  have cXX0 : w6.cell? ⟨w5.heap.size, 0, none⟩ = some (.slice x0a A0.length x0c) := XX0.out.cell
  have LXX0 : Hid (w5.heap.size < w6.heap.size) := XX0.out.lt
  clear b hw x
  refine (HI.out w6 (.slice x0a A0.length x0c) (Ox0.out.rd.ls (by have := Zw6.out; omega))).mono ?_
  rintro e w7 ⟨g0, rfl, o0, b⟩
  obtain ⟨g0a, g0c, rfl⟩ := o0.shape
  have Zw7 : Hid (w6.heap.size ≤ w7.heap.size) := b.size
  replace B0 : Hid (Below w.heap.size w w7) := B0.out.trans (b.mono (by have := Zw1.out; have := Zw2.out; have := Zw3.out; have := Zw4.out; have := Zw5.out; have := Zw6.out; omega))
  replace R0 : Hid (Rd w7 w.heap.size s0 A0) := R0.out.below b (by have := Zw1.out; have := Zw2.out; have := Zw3.out; have := Zw4.out; have := Zw5.out; have := Zw6.out; omega)
  replace Or0 : Hid (OwWs w7 w3.heap.size w4.heap.size (.slice r0a R.length r0c) R) := Or0.out.below b (by have := Zw5.out; have := Zw6.out; omega)
  replace Ox0 : Hid (wh.Own w7 w4.heap.size w5.heap.size (.slice x0a A0.length x0c) A0) := Ox0.out.below b (by have := Zw6.out; omega)
  replace XP0 : Hid (Bx w7 w.heap.size s0) := XP0.out.kept b
  replace cXP0 : w7.cell? ⟨w.heap.size, 0, none⟩ = some s0 := XP0.out.cell
  replace XX0 : Hid (Bx w7 w5.heap.size (.slice x0a A0.length x0c)) := XX0.out.kept b
  replace cXX0 : w7.cell? ⟨w5.heap.size, 0, none⟩ = some (.slice x0a A0.length x0c) := XX0.out.cell
  have Og0 : Hid (OwWs w7 w6.heap.size w7.heap.size (.slice g0a R.length g0c) R) := o0
  clear b o0
  go_wp2_with fail
  refine (eqWs_any (Og0.out.rd.up (Nat.le_refl _)) (Or0.out.rd.up (by have := Zw5.out; have := Zw6.out; have := Zw7.out; omega))).mono ?_
  rintro e w8 ⟨rfl, b⟩
  have Zw8 : Hid (w7.heap.size ≤ w8.heap.size) := b.size
  replace B0 : Hid (Below w.heap.size w w8) := B0.out.trans (b.mono (by have := Zw1.out; have := Zw2.out; have := Zw3.out; have := Zw4.out; have := Zw5.out; have := Zw6.out; have := Zw7.out; omega))
  replace R0 : Hid (Rd w8 w.heap.size s0 A0) := R0.out.below b (by have := Zw1.out; have := Zw2.out; have := Zw3.out; have := Zw4.out; have := Zw5.out; have := Zw6.out; have := Zw7.out; omega)
  replace Or0 : Hid (OwWs w8 w3.heap.size w4.heap.size (.slice r0a R.length r0c) R) := Or0.out.below b (by have := Zw5.out; have := Zw6.out; have := Zw7.out; omega)
  replace Ox0 : Hid (wh.Own w8 w4.heap.size w5.heap.size (.slice x0a A0.length x0c) A0) := Ox0.out.below b (by have := Zw6.out; have := Zw7.out; omega)
  replace Og0 : Hid (OwWs w8 w6.heap.size w7.heap.size (.slice g0a R.length g0c) R) := Og0.out.below b (Nat.le_refl _)
  replace XP0 : Hid (Bx w8 w.heap.size s0) := XP0.out.kept b
  replace cXP0 : w8.cell? ⟨w.heap.size, 0, none⟩ = some s0 := XP0.out.cell
  replace XX0 : Hid (Bx w8 w5.heap.size (.slice x0a A0.length x0c)) := XX0.out.kept b
  replace cXX0 : w8.cell? ⟨w5.heap.size, 0, none⟩ = some (.slice x0a A0.length x0c) := XX0.out.cell
  clear b
  go_wp2_with fail
  have bd : Hid (Below w8.heap.size w8 w8.drew) := (Below.refl _ _).drew
  go_region_held3 (fun w' => w'.cell? ⟨w5.heap.size, 0, none⟩ = some (.slice x0a A0.length x0c) ∧ w'.cell? ⟨w.heap.size, 0, none⟩ = some s0 ∧ Hid (Below w8.heap.size w8 w'))
    (first | exact ⟨(XX0.out.kept bd.out).cell, (XP0.out.kept bd.out).cell, bd⟩ | exact ⟨(XX0.out.kept by1.out).cell, (XP0.out.kept by1.out).cell, by1⟩ | exact ⟨(XX0.out.kept by2.out).cell, (XP0.out.kept by2.out).cell, by2⟩)
    (first
      | (go_at_call 9; refine (toW_any ⟨_, rfl, ((R0.out.ls (by have := Zw1.out; have := Zw2.out; have := Zw3.out; have := Zw4.out; have := Zw5.out; have := Zw6.out; have := Zw7.out; have := Zw8.out; omega)).below bd.out)⟩ (by omega)).mono ?_; rintro e wy ⟨_, rfl, ⟨y, rfl, oy⟩, b⟩; have by1 : Hid (Below w8.heap.size w8 wy) := bd.out.trans b; have oy1 : Hid (Ls wy y A0) := oy.ls (Nat.le_refl _); clear oy b)
      | (go_at_call 12; refine (eqW_any ⟨_, rfl, ((Ox0.out.rd.ls (by have := Zw6.out; have := Zw7.out; have := Zw8.out; omega)).below by1.out)⟩ ⟨_, rfl, oy1.out⟩).mono ?_; rintro e w9 ⟨rfl, b⟩; have by2 : Hid (Below w8.heap.size w8 w9) := by1.out.trans (b.mono by1.out.size); clear b))
  have b := by2.out
  have Zw9 : Hid (w8.heap.size ≤ w9.heap.size) := b.size
  replace B0 : Hid (Below w.heap.size w w9) := B0.out.trans (b.mono (by have := Zw1.out; have := Zw2.out; have := Zw3.out; have := Zw4.out; have := Zw5.out; have := Zw6.out; have := Zw7.out; have := Zw8.out; omega))
  replace R0 : Hid (Rd w9 w.heap.size s0 A0) := R0.out.below b (by have := Zw1.out; have := Zw2.out; have := Zw3.out; have := Zw4.out; have := Zw5.out; have := Zw6.out; have := Zw7.out; have := Zw8.out; omega)
  replace Or0 : Hid (OwWs w9 w3.heap.size w4.heap.size (.slice r0a R.length r0c) R) := Or0.out.below b (by have := Zw5.out; have := Zw6.out; have := Zw7.out; have := Zw8.out; omega)
  replace Ox0 : Hid (wh.Own w9 w4.heap.size w5.heap.size (.slice x0a A0.length x0c) A0) := Ox0.out.below b (by have := Zw6.out; have := Zw7.out; have := Zw8.out; omega)
  replace Og0 : Hid (OwWs w9 w6.heap.size w7.heap.size (.slice g0a R.length g0c) R) := Og0.out.below b (by have := Zw8.out; omega)
  replace XP0 : Hid (Bx w9 w.heap.size s0) := XP0.out.kept b
  replace cXP0 : w9.cell? ⟨w.heap.size, 0, none⟩ = some s0 := XP0.out.cell
  replace XX0 : Hid (Bx w9 w5.heap.size (.slice x0a A0.length x0c)) := XX0.out.kept b
  replace cXX0 : w9.cell? ⟨w5.heap.size, 0, none⟩ = some (.slice x0a A0.length x0c) := XX0.out.cell
  clear b bd by1 by2 oy1
  go_wp2_with fail
  refine (markW_any ⟨_, rfl, Ox0.out⟩ (by omega) (by omega) (by omega)).mono ?_
  rintro e w10 ⟨rfl, o, t⟩
  clear Ox0
  have Zw10 : Hid (w9.heap.size ≤ w10.heap.size) := t.size
  replace B0 : Hid (Below w.heap.size w w10) := B0.out.trans (t.below (by have := Zw1.out; have := Zw2.out; have := Zw3.out; have := Zw4.out; omega) (by have := Zw1.out; have := Zw2.out; have := Zw3.out; have := Zw4.out; have := Zw5.out; have := Zw6.out; have := Zw7.out; have := Zw8.out; have := Zw9.out; omega))
  replace R0 : Hid (Rd w10 w.heap.size s0 A0) := R0.out.turned t (by have := Zw1.out; have := Zw2.out; have := Zw3.out; have := Zw4.out; omega) (by have := Zw1.out; have := Zw2.out; have := Zw3.out; have := Zw4.out; have := Zw5.out; have := Zw6.out; have := Zw7.out; have := Zw8.out; have := Zw9.out; omega)
  replace Or0 : Hid (OwWs w10 w3.heap.size w4.heap.size (.slice r0a R.length r0c) R) := Or0.out.turned t (.inl (Nat.le_refl _))
  replace Og0 : Hid (OwWs w10 w6.heap.size w7.heap.size (.slice g0a R.length g0c) R) := Og0.out.turned t (.inr (by have := Zw6.out; omega))
  replace XP0 : Hid (Bx w10 w.heap.size s0) := XP0.out.turned t (by have := Zw1.out; have := Zw2.out; have := Zw3.out; have := Zw4.out; have := Zw5.out; have := Zw6.out; have := Zw7.out; have := Zw8.out; have := Zw9.out; have := LXP0.out; omega)
  replace cXP0 : w10.cell? ⟨w.heap.size, 0, none⟩ = some s0 := XP0.out.cell
  replace XX0 : Hid (Bx w10 w5.heap.size (.slice x0a A0.length x0c)) := XX0.out.turned t (by have := Zw1.out; have := Zw2.out; have := Zw3.out; have := Zw4.out; have := Zw5.out; have := Zw6.out; have := Zw7.out; have := Zw8.out; have := Zw9.out; have := LXX0.out; omega)
  replace cXX0 : w10.cell? ⟨w5.heap.size, 0, none⟩ = some (.slice x0a A0.length x0c) := XX0.out.cell
  obtain ⟨_, ho, o⟩ := o
  obtain rfl := agg_inj ho
  have Ox0 : Hid (wh.Own w10 w4.heap.size w5.heap.size (.slice x0a A0.length x0c) (mk (1) A0.length)) := o
  clear o t
  clear Ox0
  clear cXX0 XX0 LXX0
  go_wp2_with fail
  refine (eqWs_any (Og0.out.rd.up (by have := Zw8.out; have := Zw9.out; have := Zw10.out; omega)) (Or0.out.rd.up (by have := Zw5.out; have := Zw6.out; have := Zw7.out; have := Zw8.out; have := Zw9.out; have := Zw10.out; omega))).mono ?_
  rintro e w11 ⟨rfl, b⟩
  have Zw11 : Hid (w10.heap.size ≤ w11.heap.size) := b.size
  replace B0 : Hid (Below w.heap.size w w11) := B0.out.trans (b.mono (by have := Zw1.out; have := Zw2.out; have := Zw3.out; have := Zw4.out; have := Zw5.out; have := Zw6.out; have := Zw7.out; have := Zw8.out; have := Zw9.out; have := Zw10.out; omega))
  replace R0 : Hid (Rd w11 w.heap.size s0 A0) := R0.out.below b (by have := Zw1.out; have := Zw2.out; have := Zw3.out; have := Zw4.out; have := Zw5.out; have := Zw6.out; have := Zw7.out; have := Zw8.out; have := Zw9.out; have := Zw10.out; omega)
  replace Or0 : Hid (OwWs w11 w3.heap.size w4.heap.size (.slice r0a R.length r0c) R) := Or0.out.below b (by have := Zw5.out; have := Zw6.out; have := Zw7.out; have := Zw8.out; have := Zw9.out; have := Zw10.out; omega)
  replace Og0 : Hid (OwWs w11 w6.heap.size w7.heap.size (.slice g0a R.length g0c) R) := Og0.out.below b (by have := Zw8.out; have := Zw9.out; have := Zw10.out; omega)
  replace XP0 : Hid (Bx w11 w.heap.size s0) := XP0.out.kept b
  replace cXP0 : w11.cell? ⟨w.heap.size, 0, none⟩ = some s0 := XP0.out.cell
  clear b
  go_wp2_with fail
  refine (markWs_any Og0.out (by omega) (by omega) (by omega)).mono ?_
  rintro e w12 ⟨rfl, o, t⟩
  clear Og0
  have Zw12 : Hid (w11.heap.size ≤ w12.heap.size) := t.size
  replace B0 : Hid (Below w.heap.size w w12) := B0.out.trans (t.below (by have := Zw1.out; have := Zw2.out; have := Zw3.out; have := Zw4.out; have := Zw5.out; have := Zw6.out; omega) (by have := Zw1.out; have := Zw2.out; have := Zw3.out; have := Zw4.out; have := Zw5.out; have := Zw6.out; have := Zw7.out; have := Zw8.out; have := Zw9.out; have := Zw10.out; have := Zw11.out; omega))
  replace R0 : Hid (Rd w12 w.heap.size s0 A0) := R0.out.turned t (by have := Zw1.out; have := Zw2.out; have := Zw3.out; have := Zw4.out; have := Zw5.out; have := Zw6.out; omega) (by have := Zw1.out; have := Zw2.out; have := Zw3.out; have := Zw4.out; have := Zw5.out; have := Zw6.out; have := Zw7.out; have := Zw8.out; have := Zw9.out; have := Zw10.out; have := Zw11.out; omega)
  replace Or0 : Hid (OwWs w12 w3.heap.size w4.heap.size (.slice r0a R.length r0c) R) := Or0.out.turned t (.inl (by have := Zw5.out; have := Zw6.out; omega))
  replace XP0 : Hid (Bx w12 w.heap.size s0) := XP0.out.turned t (by have := Zw1.out; have := Zw2.out; have := Zw3.out; have := Zw4.out; have := Zw5.out; have := Zw6.out; have := Zw7.out; have := Zw8.out; have := Zw9.out; have := Zw10.out; have := Zw11.out; have := LXP0.out; omega)
  replace cXP0 : w12.cell? ⟨w.heap.size, 0, none⟩ = some s0 := XP0.out.cell
  have Og0 : Hid (OwWs w12 w6.heap.size w7.heap.size (.slice g0a R.length g0c) (mks (1) R)) := o
  clear o t
  go_wp2_with fail
  refine (heldWs_any (Og0.out.rd.up (by have := Zw8.out; have := Zw9.out; have := Zw10.out; have := Zw11.out; have := Zw12.out; omega)) (by omega) (by omega) (by omega)).mono ?_
  rintro e w13 ⟨rfl, b⟩
  have Zw13 : Hid (w12.heap.size ≤ w13.heap.size) := b.size
  replace B0 : Hid (Below w.heap.size w w13) := B0.out.trans (b.mono (by have := Zw1.out; have := Zw2.out; have := Zw3.out; have := Zw4.out; have := Zw5.out; have := Zw6.out; have := Zw7.out; have := Zw8.out; have := Zw9.out; have := Zw10.out; have := Zw11.out; have := Zw12.out; omega))
  replace R0 : Hid (Rd w13 w.heap.size s0 A0) := R0.out.below b (by have := Zw1.out; have := Zw2.out; have := Zw3.out; have := Zw4.out; have := Zw5.out; have := Zw6.out; have := Zw7.out; have := Zw8.out; have := Zw9.out; have := Zw10.out; have := Zw11.out; have := Zw12.out; omega)
  replace Or0 : Hid (OwWs w13 w3.heap.size w4.heap.size (.slice r0a R.length r0c) R) := Or0.out.below b (by have := Zw5.out; have := Zw6.out; have := Zw7.out; have := Zw8.out; have := Zw9.out; have := Zw10.out; have := Zw11.out; have := Zw12.out; omega)
  replace Og0 : Hid (OwWs w13 w6.heap.size w7.heap.size (.slice g0a R.length g0c) (mks (1) R)) := Og0.out.below b (by have := Zw8.out; have := Zw9.out; have := Zw10.out; have := Zw11.out; have := Zw12.out; omega)
  replace XP0 : Hid (Bx w13 w.heap.size s0) := XP0.out.kept b
  replace cXP0 : w13.cell? ⟨w.heap.size, 0, none⟩ = some s0 := XP0.out.cell
  clear b
  go_wp2_with fail
  refine (toW_any ⟨_, rfl, (R0.out.ls (by have := Zw1.out; have := Zw2.out; have := Zw3.out; have := Zw4.out; have := Zw5.out; have := Zw6.out; have := Zw7.out; have := Zw8.out; have := Zw9.out; have := Zw10.out; have := Zw11.out; have := Zw12.out; have := Zw13.out; omega))⟩ (by omega)).mono ?_
  rintro e w14 ⟨_, rfl, ⟨t0, rfl, o⟩, b⟩
  obtain ⟨t0a, t0c, rfl⟩ := o.shape
  have Zw14 : Hid (w13.heap.size ≤ w14.heap.size) := b.size
  replace B0 : Hid (Below w.heap.size w w14) := B0.out.trans (b.mono (by have := Zw1.out; have := Zw2.out; have := Zw3.out; have := Zw4.out; have := Zw5.out; have := Zw6.out; have := Zw7.out; have := Zw8.out; have := Zw9.out; have := Zw10.out; have := Zw11.out; have := Zw12.out; have := Zw13.out; omega))
  replace R0 : Hid (Rd w14 w.heap.size s0 A0) := R0.out.below b (by have := Zw1.out; have := Zw2.out; have := Zw3.out; have := Zw4.out; have := Zw5.out; have := Zw6.out; have := Zw7.out; have := Zw8.out; have := Zw9.out; have := Zw10.out; have := Zw11.out; have := Zw12.out; have := Zw13.out; omega)
  replace Or0 : Hid (OwWs w14 w3.heap.size w4.heap.size (.slice r0a R.length r0c) R) := Or0.out.below b (by have := Zw5.out; have := Zw6.out; have := Zw7.out; have := Zw8.out; have := Zw9.out; have := Zw10.out; have := Zw11.out; have := Zw12.out; have := Zw13.out; omega)
  replace Og0 : Hid (OwWs w14 w6.heap.size w7.heap.size (.slice g0a R.length g0c) (mks (1) R)) := Og0.out.below b (by have := Zw8.out; have := Zw9.out; have := Zw10.out; have := Zw11.out; have := Zw12.out; have := Zw13.out; omega)
  replace XP0 : Hid (Bx w14 w.heap.size s0) := XP0.out.kept b
  replace cXP0 : w14.cell? ⟨w.heap.size, 0, none⟩ = some s0 := XP0.out.cell
  have Ot0 : Hid (wh.Own w14 w13.heap.size w14.heap.size (.slice t0a A0.length t0c) A0) := o
  clear o b
  go_wp2_with fail
  refine (HI.out w14 (.slice t0a A0.length t0c) (Ot0.out.rd.ls (Nat.le_refl _))).mono ?_
  rintro e w15 ⟨h0, rfl, o0, b⟩
  obtain ⟨h0a, h0c, rfl⟩ := o0.shape
  have Zw15 : Hid (w14.heap.size ≤ w15.heap.size) := b.size
  replace B0 : Hid (Below w.heap.size w w15) := B0.out.trans (b.mono (by have := Zw1.out; have := Zw2.out; have := Zw3.out; have := Zw4.out; have := Zw5.out; have := Zw6.out; have := Zw7.out; have := Zw8.out; have := Zw9.out; have := Zw10.out; have := Zw11.out; have := Zw12.out; have := Zw13.out; have := Zw14.out; omega))
  replace R0 : Hid (Rd w15 w.heap.size s0 A0) := R0.out.below b (by have := Zw1.out; have := Zw2.out; have := Zw3.out; have := Zw4.out; have := Zw5.out; have := Zw6.out; have := Zw7.out; have := Zw8.out; have := Zw9.out; have := Zw10.out; have := Zw11.out; have := Zw12.out; have := Zw13.out; have := Zw14.out; omega)
  replace Or0 : Hid (OwWs w15 w3.heap.size w4.heap.size (.slice r0a R.length r0c) R) := Or0.out.below b (by have := Zw5.out; have := Zw6.out; have := Zw7.out; have := Zw8.out; have := Zw9.out; have := Zw10.out; have := Zw11.out; have := Zw12.out; have := Zw13.out; have := Zw14.out; omega)
  replace Og0 : Hid (OwWs w15 w6.heap.size w7.heap.size (.slice g0a R.length g0c) (mks (1) R)) := Og0.out.below b (by have := Zw8.out; have := Zw9.out; have := Zw10.out; have := Zw11.out; have := Zw12.out; have := Zw13.out; have := Zw14.out; omega)
  replace Ot0 : Hid (wh.Own w15 w13.heap.size w14.heap.size (.slice t0a A0.length t0c) A0) := Ot0.out.below b (Nat.le_refl _)
  replace XP0 : Hid (Bx w15 w.heap.size s0) := XP0.out.kept b
  replace cXP0 : w15.cell? ⟨w.heap.size, 0, none⟩ = some s0 := XP0.out.cell
  have Oh0 : Hid (OwWs w15 w14.heap.size w15.heap.size (.slice h0a R.length h0c) R) := o0
  clear b o0
  clear Ot0
  go_wp2_with fail
  refine (eqWs_any (Oh0.out.rd.up (Nat.le_refl _)) (Or0.out.rd.up (by have := Zw5.out; have := Zw6.out; have := Zw7.out; have := Zw8.out; have := Zw9.out; have := Zw10.out; have := Zw11.out; have := Zw12.out; have := Zw13.out; have := Zw14.out; have := Zw15.out; omega))).mono ?_
  rintro e w16 ⟨rfl, b⟩
  have Zw16 : Hid (w15.heap.size ≤ w16.heap.size) := b.size
  replace B0 : Hid (Below w.heap.size w w16) := B0.out.trans (b.mono (by have := Zw1.out; have := Zw2.out; have := Zw3.out; have := Zw4.out; have := Zw5.out; have := Zw6.out; have := Zw7.out; have := Zw8.out; have := Zw9.out; have := Zw10.out; have := Zw11.out; have := Zw12.out; have := Zw13.out; have := Zw14.out; have := Zw15.out; omega))
  replace R0 : Hid (Rd w16 w.heap.size s0 A0) := R0.out.below b (by have := Zw1.out; have := Zw2.out; have := Zw3.out; have := Zw4.out; have := Zw5.out; have := Zw6.out; have := Zw7.out; have := Zw8.out; have := Zw9.out; have := Zw10.out; have := Zw11.out; have := Zw12.out; have := Zw13.out; have := Zw14.out; have := Zw15.out; omega)
  replace Or0 : Hid (OwWs w16 w3.heap.size w4.heap.size (.slice r0a R.length r0c) R) := Or0.out.below b (by have := Zw5.out; have := Zw6.out; have := Zw7.out; have := Zw8.out; have := Zw9.out; have := Zw10.out; have := Zw11.out; have := Zw12.out; have := Zw13.out; have := Zw14.out; have := Zw15.out; omega)
  replace Og0 : Hid (OwWs w16 w6.heap.size w7.heap.size (.slice g0a R.length g0c) (mks (1) R)) := Og0.out.below b (by have := Zw8.out; have := Zw9.out; have := Zw10.out; have := Zw11.out; have := Zw12.out; have := Zw13.out; have := Zw14.out; have := Zw15.out; omega)
  replace Oh0 : Hid (OwWs w16 w14.heap.size w15.heap.size (.slice h0a R.length h0c) R) := Oh0.out.below b (Nat.le_refl _)
  replace XP0 : Hid (Bx w16 w.heap.size s0) := XP0.out.kept b
  replace cXP0 : w16.cell? ⟨w.heap.size, 0, none⟩ = some s0 := XP0.out.cell
  clear b
  clear Oh0
  go_wp2_with fail
  refine (heldWs_any (Og0.out.rd.up (by have := Zw8.out; have := Zw9.out; have := Zw10.out; have := Zw11.out; have := Zw12.out; have := Zw13.out; have := Zw14.out; have := Zw15.out; have := Zw16.out; omega)) (by omega) (by omega) (by omega)).mono ?_
  rintro e w17 ⟨rfl, b⟩
  have Zw17 : Hid (w16.heap.size ≤ w17.heap.size) := b.size
  replace B0 : Hid (Below w.heap.size w w17) := B0.out.trans (b.mono (by have := Zw1.out; have := Zw2.out; have := Zw3.out; have := Zw4.out; have := Zw5.out; have := Zw6.out; have := Zw7.out; have := Zw8.out; have := Zw9.out; have := Zw10.out; have := Zw11.out; have := Zw12.out; have := Zw13.out; have := Zw14.out; have := Zw15.out; have := Zw16.out; omega))
  replace R0 : Hid (Rd w17 w.heap.size s0 A0) := R0.out.below b (by have := Zw1.out; have := Zw2.out; have := Zw3.out; have := Zw4.out; have := Zw5.out; have := Zw6.out; have := Zw7.out; have := Zw8.out; have := Zw9.out; have := Zw10.out; have := Zw11.out; have := Zw12.out; have := Zw13.out; have := Zw14.out; have := Zw15.out; have := Zw16.out; omega)
  replace Or0 : Hid (OwWs w17 w3.heap.size w4.heap.size (.slice r0a R.length r0c) R) := Or0.out.below b (by have := Zw5.out; have := Zw6.out; have := Zw7.out; have := Zw8.out; have := Zw9.out; have := Zw10.out; have := Zw11.out; have := Zw12.out; have := Zw13.out; have := Zw14.out; have := Zw15.out; have := Zw16.out; omega)
  replace Og0 : Hid (OwWs w17 w6.heap.size w7.heap.size (.slice g0a R.length g0c) (mks (1) R)) := Og0.out.below b (by have := Zw8.out; have := Zw9.out; have := Zw10.out; have := Zw11.out; have := Zw12.out; have := Zw13.out; have := Zw14.out; have := Zw15.out; have := Zw16.out; omega)
  replace XP0 : Hid (Bx w17 w.heap.size s0) := XP0.out.kept b
  replace cXP0 : w17.cell? ⟨w.heap.size, 0, none⟩ = some s0 := XP0.out.cell
  clear b
  go_wp2_with fail
  go_ret
  exact ⟨rfl, B0.out⟩
end Go.Proofs.Ytbbdhbamooaloaa.fnExactSquareFreeW
