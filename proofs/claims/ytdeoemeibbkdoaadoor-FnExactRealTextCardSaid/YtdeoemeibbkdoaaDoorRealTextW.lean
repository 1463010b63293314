/- The law FnExactRealText: its walk, over what both sides answer. -/
import Derived.Test.YtdeoemeibbkdoaaDoorRtF
import Derived.Test.YtdeoemeibbkdoaaDoorWr
import Derived.Deep.RegionHeld3
import Derived.Deep.DeepCutAuto
namespace Go.Proofs.YtdeoemeibbkdoaaDoor.fnExactRealTextW
open Go.RowKit Go.Lib Go.Proofs.YtdeoemeibbkdoaaDoor.wh Go.Proofs.YtdeoemeibbkdoaaDoor.dec

set_option maxRecDepth 100000 in
set_option maxHeartbeats 4000000 in
theorem walk (v0 : Value) (w : World) (h0 : ∃ L, Wh w v0 L) (ht : TabOk w) :
    Calls Tryd.prog 3 #[v0] w fun e w' => e = .returned (.bool true) ∧ Below w.heap.size w w' := by
  obtain ⟨A0, s0, rfl, h0⟩ := h0
  obtain ⟨z, hz⟩ : ∃ r : ByteArray, r = fRealText.z A0 := ⟨_, rfl⟩
  obtain ⟨ok, hok⟩ : ∃ r : Bool, r = fRealText.ok A0 := ⟨_, rfl⟩
  have HS : Hid (∀ (w : World) (v0 : Value), Ls w v0 A0 → Calls Tryd.prog 9 #[.agg #[v0]] w (fun e w' => e = .returned (.tuple #[.string z, .bool ok]) ∧ Below w.heap.size w w')) := fun w v0 h0 => by rw [hz, hok]; exact fRealText.spec_any ⟨_, rfl, h0⟩ 
  have HI : Hid (∀ (w : World) (v0 : Value), Ls w v0 A0 → TabOk w → Calls Tryd.prog 11 #[.agg #[v0]] w (fun e w' => e = .returned (.tuple #[.string z, .bool ok]) ∧ Below w.heap.size w w')) := fun w v0 h0 ht => by rw [hz, hok]; exact fRealText.impl_any ⟨_, rfl, h0⟩ ht 
  have HT : Hid (TabOk w) := ht
  clear ht
  clear hz hok
  have R0 : Hid (Rd w w.heap.size s0 A0) := h0
  clear h0
  have B0 : Hid (Below w.heap.size w w) := Below.refl _ _
  by_cases hs0 : (A0.length : Int) ≤ 1048576
  case neg =>
    clear HS HI
    go_enter Tryd.func3, Tryd.ntmps3
    go_wp2_with fail
    obtain ⟨w1, hw⟩ : ∃ x, x = (w.alloc (.cells #[s0] 24)) := ⟨_, rfl⟩
    rw [← hw]
    have b : Below w.heap.size w w1 := by rw [hw]; exact new1 _ _ 
    have Zw1 : Hid (w.heap.size ≤ w1.heap.size) := b.size
    replace B0 : Hid (Below w.heap.size w w1) := B0.out.trans (b.mono (Nat.le_refl _))
    replace R0 : Hid (Rd w1 w.heap.size s0 A0) := R0.out.below b (Nat.le_refl _)
    have XP0 : Hid (Bx w1 w.heap.size s0) := by rw [hw]; exact Bx.new _ _ _
    have cXP0 : w1.cell? ⟨w.heap.size, 0, none⟩ = some s0 := XP0.out.cell
    have LXP0 : Hid (w.heap.size < w1.heap.size) := XP0.out.lt
    clear b hw
    refine (szR_no ⟨_, rfl, (R0.out.ls (by have := Zw1.out; omega))⟩ (by omega) (by omega) (by omega)).mono ?_
    rintro e w2 ⟨rfl, b⟩
    have Zw2 : Hid (w1.heap.size ≤ w2.heap.size) := b.size
    replace B0 : Hid (Below w.heap.size w w2) := B0.out.trans (b.mono (by have := Zw1.out; omega))
    replace R0 : Hid (Rd w2 w.heap.size s0 A0) := R0.out.below b (by have := Zw1.out; omega)
    replace XP0 : Hid (Bx w2 w.heap.size s0) := XP0.out.kept b
    replace cXP0 : w2.cell? ⟨w.heap.size, 0, none⟩ = some s0 := XP0.out.cell
    clear b
    go_wp2_with fail
    go_ret
    exact ⟨rfl, B0.out⟩
  go_enter Tryd.func3, Tryd.ntmps3
  go_wp2_with fail
  obtain ⟨w1, hw⟩ : ∃ x, x = (w.alloc (.cells #[s0] 24)) := ⟨_, rfl⟩
  rw [← hw]
  have b : Below w.heap.size w w1 := by rw [hw]; exact new1 _ _ 
  have Zw1 : Hid (w.heap.size ≤ w1.heap.size) := b.size
  replace B0 : Hid (Below w.heap.size w w1) := B0.out.trans (b.mono (Nat.le_refl _))
  replace R0 : Hid (Rd w1 w.heap.size s0 A0) := R0.out.below b (Nat.le_refl _)
  have XP0 : Hid (Bx w1 w.heap.size s0) := by rw [hw]; exact Bx.new _ _ _
  have cXP0 : w1.cell? ⟨w.heap.size, 0, none⟩ = some s0 := XP0.out.cell
  have LXP0 : Hid (w.heap.size < w1.heap.size) := XP0.out.lt
  clear b hw
  refine (szR_yes ⟨_, rfl, (R0.out.ls (by have := Zw1.out; omega))⟩ (by omega) (by omega)).mono ?_
  rintro e w2 ⟨rfl, b⟩
  have Zw2 : Hid (w1.heap.size ≤ w2.heap.size) := b.size
  replace B0 : Hid (Below w.heap.size w w2) := B0.out.trans (b.mono (by have := Zw1.out; omega))
  replace R0 : Hid (Rd w2 w.heap.size s0 A0) := R0.out.below b (by have := Zw1.out; omega)
  replace XP0 : Hid (Bx w2 w.heap.size s0) := XP0.out.kept b
  replace cXP0 : w2.cell? ⟨w.heap.size, 0, none⟩ = some s0 := XP0.out.cell
  clear b
  go_wp2_with fail
  refine (toR_any ⟨_, rfl, (R0.out.ls (by have := Zw1.out; have := Zw2.out; omega))⟩ (by omega)).mono ?_
  rintro e w3 ⟨_, rfl, ⟨s_0, rfl, o⟩, b⟩
  obtain ⟨s_0a, s_0c, rfl⟩ := o.shape
  have Zw3 : Hid (w2.heap.size ≤ w3.heap.size) := b.size
  replace B0 : Hid (Below w.heap.size w w3) := B0.out.trans (b.mono (by have := Zw1.out; have := Zw2.out; omega))
  replace R0 : Hid (Rd w3 w.heap.size s0 A0) := R0.out.below b (by have := Zw1.out; have := Zw2.out; omega)
  replace XP0 : Hid (Bx w3 w.heap.size s0) := XP0.out.kept b
  replace cXP0 : w3.cell? ⟨w.heap.size, 0, none⟩ = some s0 := XP0.out.cell
  have Os_0 : Hid (Own w3 w2.heap.size w3.heap.size (.slice s_0a A0.length s_0c) A0) := o
  clear o b
  go_wp2_with fail
  refine (HS.out w3 (.slice s_0a A0.length s_0c) (Os_0.out.rd.ls (Nat.le_refl _))).mono ?_
  rintro e w4 ⟨rfl, b⟩
  have Zw4 : Hid (w3.heap.size ≤ w4.heap.size) := b.size
  replace B0 : Hid (Below w.heap.size w w4) := B0.out.trans (b.mono (by have := Zw1.out; have := Zw2.out; have := Zw3.out; omega))
  replace R0 : Hid (Rd w4 w.heap.size s0 A0) := R0.out.below b (by have := Zw1.out; have := Zw2.out; have := Zw3.out; omega)
  replace Os_0 : Hid (Own w4 w2.heap.size w3.heap.size (.slice s_0a A0.length s_0c) A0) := Os_0.out.below b (Nat.le_refl _)
  replace XP0 : Hid (Bx w4 w.heap.size s0) := XP0.out.kept b
  replace cXP0 : w4.cell? ⟨w.heap.size, 0, none⟩ = some s0 := XP0.out.cell
  clear b
  clear Os_0
  go_wp2_with fail
  refine (toR_any ⟨_, rfl, (R0.out.ls (by have := Zw1.out; have := Zw2.out; have := Zw3.out; have := Zw4.out; omega))⟩ (by omega)).mono ?_
  rintro e w5 ⟨_, rfl, ⟨x0, rfl, o⟩, b⟩
  obtain ⟨x0a, x0c, rfl⟩ := o.shape
  have Zw5 : Hid (w4.heap.size ≤ w5.heap.size) := b.size
  replace B0 : Hid (Below w.heap.size w w5) := B0.out.trans (b.mono (by have := Zw1.out; have := Zw2.out; have := Zw3.out; have := Zw4.out; omega))
  replace R0 : Hid (Rd w5 w.heap.size s0 A0) := R0.out.below b (by have := Zw1.out; have := Zw2.out; have := Zw3.out; have := Zw4.out; omega)
  replace XP0 : Hid (Bx w5 w.heap.size s0) := XP0.out.kept b
  replace cXP0 : w5.cell? ⟨w.heap.size, 0, none⟩ = some s0 := XP0.out.cell
  have Ox0 : Hid (Own w5 w4.heap.size w5.heap.size (.slice x0a A0.length x0c) A0) := o
  clear o b
  have dXP0 : (w5.alloc (.cells #[(.slice x0a A0.length x0c)] 28)).cell? ⟨w.heap.size, 0, none⟩ = some s0 := (XP0.out.alloc _).cell
  go_wp2_with fail
  clear dXP0
  obtain ⟨w6, hw⟩ : ∃ x, x = w5.alloc (.cells #[(.slice x0a A0.length x0c)] 28) := ⟨_, rfl⟩
  rw [← hw]
  have b : Below w5.heap.size w5 w6 := by rw [hw]; exact new1 _ _
  have x : Bx w6 w5.heap.size (.slice x0a A0.length x0c) := by rw [hw]; exact Bx.new _ _ _
  have Zw6 : Hid (w5.heap.size ≤ w6.heap.size) := b.size
  replace B0 : Hid (Below w.heap.size w w6) := B0.out.trans (b.mono (by have := Zw1.out; have := Zw2.out; have := Zw3.out; have := Zw4.out; have := Zw5.out; omega))
  replace R0 : Hid (Rd w6 w.heap.size s0 A0) := R0.out.below b (by have := Zw1.out; have := Zw2.out; have := Zw3.out; have := Zw4.out; have := Zw5.out; omega)
  replace Ox0 : Hid (Own w6 w4.heap.size w5.heap.size (.slice x0a A0.length x0c) A0) := Ox0.out.below b (Nat.le_refl _)
  replace XP0 : Hid (Bx w6 w.heap.size s0) := XP0.out.kept b
  replace cXP0 : w6.cell? ⟨w.heap.size, 0, none⟩ = some s0 := XP0.out.cell
  have XX0 : Hid (Bx w6 w5.heap.size (.slice x0a A0.length x0c)) := x
  have cXX0 : w6.cell? ⟨w5.heap.size, 0, none⟩ = some (.slice x0a A0.length x0c) := XX0.out.cell
  have LXX0 : Hid (w5.heap.size < w6.heap.size) := XX0.out.lt
  clear b hw x
  refine (HI.out w6 (.slice x0a A0.length x0c) (Ox0.out.rd.ls (by have := Zw6.out; omega)) (tab_below HT.out B0.out)).mono ?_
  rintro e w7 ⟨rfl, b⟩
  have Zw7 : Hid (w6.heap.size ≤ w7.heap.size) := b.size
  replace B0 : Hid (Below w.heap.size w w7) := B0.out.trans (b.mono (by have := Zw1.out; have := Zw2.out; have := Zw3.out; have := Zw4.out; have := Zw5.out; have := Zw6.out; omega))
  replace R0 : Hid (Rd w7 w.heap.size s0 A0) := R0.out.below b (by have := Zw1.out; have := Zw2.out; have := Zw3.out; have := Zw4.out; have := Zw5.out; have := Zw6.out; omega)
  replace Ox0 : Hid (Own w7 w4.heap.size w5.heap.size (.slice x0a A0.length x0c) A0) := Ox0.out.below b (by have := Zw6.out; omega)
  replace XP0 : Hid (Bx w7 w.heap.size s0) := XP0.out.kept b
  replace cXP0 : w7.cell? ⟨w.heap.size, 0, none⟩ = some s0 := XP0.out.cell
  replace XX0 : Hid (Bx w7 w5.heap.size (.slice x0a A0.length x0c)) := XX0.out.kept b
  replace cXX0 : w7.cell? ⟨w5.heap.size, 0, none⟩ = some (.slice x0a A0.length x0c) := XX0.out.cell
  clear b
  go_wp2_with fail
  have bd : Hid (Below w7.heap.size w7 w7.drew) := (Below.refl _ _).drew
  go_region_held3 (fun w' => w'.cell? ⟨w5.heap.size, 0, none⟩ = some (.slice x0a A0.length x0c) ∧ w'.cell? ⟨w.heap.size, 0, none⟩ = some s0 ∧ Hid (Below w7.heap.size w7 w'))
    (first | exact ⟨(XX0.out.kept bd.out).cell, (XP0.out.kept bd.out).cell, bd⟩ | exact ⟨(XX0.out.kept by1.out).cell, (XP0.out.kept by1.out).cell, by1⟩ | exact ⟨(XX0.out.kept by2.out).cell, (XP0.out.kept by2.out).cell, by2⟩)
    (first
      | (go_at_call 10; refine (toR_any ⟨_, rfl, ((R0.out.ls (by have := Zw1.out; have := Zw2.out; have := Zw3.out; have := Zw4.out; have := Zw5.out; have := Zw6.out; have := Zw7.out; omega)).below bd.out)⟩ (by omega)).mono ?_; rintro e wy ⟨_, rfl, ⟨y, rfl, oy⟩, b⟩; have by1 : Hid (Below w7.heap.size w7 wy) := bd.out.trans b; have oy1 : Hid (Ls wy y A0) := oy.ls (Nat.le_refl _); clear oy b)
      | (go_at_call 12; refine (eqR_any ⟨_, rfl, ((Ox0.out.rd.ls (by have := Zw6.out; have := Zw7.out; omega)).below by1.out)⟩ ⟨_, rfl, oy1.out⟩).mono ?_; rintro e w8 ⟨rfl, b⟩; have by2 : Hid (Below w7.heap.size w7 w8) := by1.out.trans (b.mono by1.out.size); clear b))
  have b := by2.out
  have Zw8 : Hid (w7.heap.size ≤ w8.heap.size) := b.size
  replace B0 : Hid (Below w.heap.size w w8) := B0.out.trans (b.mono (by have := Zw1.out; have := Zw2.out; have := Zw3.out; have := Zw4.out; have := Zw5.out; have := Zw6.out; have := Zw7.out; omega))
  replace R0 : Hid (Rd w8 w.heap.size s0 A0) := R0.out.below b (by have := Zw1.out; have := Zw2.out; have := Zw3.out; have := Zw4.out; have := Zw5.out; have := Zw6.out; have := Zw7.out; omega)
  replace Ox0 : Hid (Own w8 w4.heap.size w5.heap.size (.slice x0a A0.length x0c) A0) := Ox0.out.below b (by have := Zw6.out; have := Zw7.out; omega)
  replace XP0 : Hid (Bx w8 w.heap.size s0) := XP0.out.kept b
  replace cXP0 : w8.cell? ⟨w.heap.size, 0, none⟩ = some s0 := XP0.out.cell
  replace XX0 : Hid (Bx w8 w5.heap.size (.slice x0a A0.length x0c)) := XX0.out.kept b
  replace cXX0 : w8.cell? ⟨w5.heap.size, 0, none⟩ = some (.slice x0a A0.length x0c) := XX0.out.cell
  clear b bd by1 by2 oy1
  go_wp2_with fail
  go_ret
  exact ⟨rfl, B0.out⟩
end Go.Proofs.YtdeoemeibbkdoaaDoor.fnExactRealTextW
