/- The law FnExactResultantOf: its walk, over what both sides answer. -/
import Derived.Test.YtbbdhbamooaloabResultantOfF
import Derived.Test.YtbbdhbamooaloabWw
import Derived.Deep.RegionHeld3
import Derived.Deep.DeepCutAuto
namespace Go.Proofs.Ytbbdhbamooaloab.fnExactResultantOfW
open Go.RowKit Go.Proofs.Ytbbdhbamooaloab.wh

set_option maxRecDepth 100000 in
set_option maxHeartbeats 4000000 in
theorem walk (v0 : Value) (v1 : Value) (w : World) (h0 : ∃ L, Wh w v0 L) (h1 : ∃ L, Wh w v1 L) :
    Calls Try.prog 4 #[v0, v1] w fun e w' => e = .returned (.bool true) ∧ Below w.heap.size w w' := by
  obtain ⟨A0, s0, rfl, h0⟩ := h0
  obtain ⟨A1, s1, rfl, h1⟩ := h1
  obtain ⟨z, hz⟩ : ∃ r : Int, r = fResultantOf.z A0 A1 := ⟨_, rfl⟩
  obtain ⟨ok, hok⟩ : ∃ r : Bool, r = fResultantOf.ok A0 A1 := ⟨_, rfl⟩
  have HS : Hid (∀ (w : World) (v0 : Value) (v1 : Value), Ls w v0 A0 → Ls w v1 A1 → Calls Try.prog 13 #[.agg #[v0], .agg #[v1]] w (fun e w' => e = .returned (.tuple #[.int .i64 z, .bool ok]) ∧ Below w.heap.size w w')) := fun w v0 v1 h0 h1 => by rw [hz, hok]; exact fResultantOf.spec_any ⟨_, rfl, h0⟩ ⟨_, rfl, h1⟩ 
  have HI : Hid (∀ (w : World) (v0 : Value) (v1 : Value), Ls w v0 A0 → Ls w v1 A1 → Calls Try.prog 15 #[.agg #[v0], .agg #[v1]] w (fun e w' => e = .returned (.tuple #[.int .i64 z, .bool ok]) ∧ Below w.heap.size w w')) := fun w v0 v1 h0 h1 => by rw [hz, hok]; exact fResultantOf.impl_any ⟨_, rfl, h0⟩ ⟨_, rfl, h1⟩ 
  clear hz hok
  have R0 : Hid (Rd w w.heap.size s0 A0) := h0
  have R1 : Hid (Rd w w.heap.size s1 A1) := h1
  clear h0 h1
  have B0 : Hid (Below w.heap.size w w) := Below.refl _ _
  by_cases hs0 : (A0.length : Int) ≤ 1048576
  case neg =>
    clear HS HI
    go_enter Try.func4, Try.ntmps4
    go_wp2_with fail
    obtain ⟨w1, hw⟩ : ∃ x, x = ((w.alloc (.cells #[s0] 33)).alloc (.cells #[s1] 33)) := ⟨_, rfl⟩
    rw [← hw]
    have b : Below w.heap.size w w1 := by rw [hw]; exact new2 _ _ _ 
    have Zw1 : Hid (w.heap.size ≤ w1.heap.size) := b.size
    replace B0 : Hid (Below w.heap.size w w1) := B0.out.trans (b.mono (Nat.le_refl _))
    replace R0 : Hid (Rd w1 w.heap.size s0 A0) := R0.out.below b (Nat.le_refl _)
    replace R1 : Hid (Rd w1 w.heap.size s1 A1) := R1.out.below b (Nat.le_refl _)
    have XP0 : Hid (Bx w1 w.heap.size s0) := by rw [hw]; exact Bx.alloc (Bx.new _ _ _) _
    have cXP0 : w1.cell? ⟨w.heap.size, 0, none⟩ = some s0 := XP0.out.cell
    have LXP0 : Hid (w.heap.size < w1.heap.size) := XP0.out.lt
    have XP1 : Hid (Bx w1 (w.heap.size + 1) s1) := by rw [hw]; exact Bx.new2 _ _ _ _ 
    have cXP1 : w1.cell? ⟨(w.heap.size + 1), 0, none⟩ = some s1 := XP1.out.cell
    have LXP1 : Hid ((w.heap.size + 1) < w1.heap.size) := XP1.out.lt
    clear b hw
    refine (sz_no ⟨_, rfl, (R0.out.ls (by have := Zw1.out; omega))⟩ (by omega) (by omega) (by omega)).mono ?_
    rintro e w2 ⟨rfl, b⟩
    have Zw2 : Hid (w1.heap.size ≤ w2.heap.size) := b.size
    replace B0 : Hid (Below w.heap.size w w2) := B0.out.trans (b.mono (by have := Zw1.out; omega))
    replace R0 : Hid (Rd w2 w.heap.size s0 A0) := R0.out.below b (by have := Zw1.out; omega)
    replace R1 : Hid (Rd w2 w.heap.size s1 A1) := R1.out.below b (by have := Zw1.out; omega)
    replace XP0 : Hid (Bx w2 w.heap.size s0) := XP0.out.kept b
    replace cXP0 : w2.cell? ⟨w.heap.size, 0, none⟩ = some s0 := XP0.out.cell
    replace XP1 : Hid (Bx w2 (w.heap.size + 1) s1) := XP1.out.kept b
    replace cXP1 : w2.cell? ⟨(w.heap.size + 1), 0, none⟩ = some s1 := XP1.out.cell
    clear b
    go_wp2_with fail
    go_ret
    exact ⟨rfl, B0.out⟩
  by_cases hs1 : (A1.length : Int) ≤ 1048576 - (A0.length : Int)
  case neg =>
    clear HS HI
    go_enter Try.func4, Try.ntmps4
    go_wp2_with fail
    obtain ⟨w1, hw⟩ : ∃ x, x = ((w.alloc (.cells #[s0] 33)).alloc (.cells #[s1] 33)) := ⟨_, rfl⟩
    rw [← hw]
    have b : Below w.heap.size w w1 := by rw [hw]; exact new2 _ _ _ 
    have Zw1 : Hid (w.heap.size ≤ w1.heap.size) := b.size
    replace B0 : Hid (Below w.heap.size w w1) := B0.out.trans (b.mono (Nat.le_refl _))
    replace R0 : Hid (Rd w1 w.heap.size s0 A0) := R0.out.below b (Nat.le_refl _)
    replace R1 : Hid (Rd w1 w.heap.size s1 A1) := R1.out.below b (Nat.le_refl _)
    have XP0 : Hid (Bx w1 w.heap.size s0) := by rw [hw]; exact Bx.alloc (Bx.new _ _ _) _
    have cXP0 : w1.cell? ⟨w.heap.size, 0, none⟩ = some s0 := XP0.out.cell
    have LXP0 : Hid (w.heap.size < w1.heap.size) := XP0.out.lt
    have XP1 : Hid (Bx w1 (w.heap.size + 1) s1) := by rw [hw]; exact Bx.new2 _ _ _ _ 
    have cXP1 : w1.cell? ⟨(w.heap.size + 1), 0, none⟩ = some s1 := XP1.out.cell
    have LXP1 : Hid ((w.heap.size + 1) < w1.heap.size) := XP1.out.lt
    clear b hw
    refine (sz_yes ⟨_, rfl, (R0.out.ls (by have := Zw1.out; omega))⟩ (by omega) (by omega)).mono ?_
    rintro e w2 ⟨rfl, b⟩
    have Zw2 : Hid (w1.heap.size ≤ w2.heap.size) := b.size
    replace B0 : Hid (Below w.heap.size w w2) := B0.out.trans (b.mono (by have := Zw1.out; omega))
    replace R0 : Hid (Rd w2 w.heap.size s0 A0) := R0.out.below b (by have := Zw1.out; omega)
    replace R1 : Hid (Rd w2 w.heap.size s1 A1) := R1.out.below b (by have := Zw1.out; omega)
    replace XP0 : Hid (Bx w2 w.heap.size s0) := XP0.out.kept b
    replace cXP0 : w2.cell? ⟨w.heap.size, 0, none⟩ = some s0 := XP0.out.cell
    replace XP1 : Hid (Bx w2 (w.heap.size + 1) s1) := XP1.out.kept b
    replace cXP1 : w2.cell? ⟨(w.heap.size + 1), 0, none⟩ = some s1 := XP1.out.cell
    clear b
    go_wp2_with fail
    refine (sz_no ⟨_, rfl, (R1.out.ls (by have := Zw1.out; have := Zw2.out; omega))⟩ (by omega) (by omega) (by omega)).mono ?_
    rintro e w3 ⟨rfl, b⟩
    have Zw3 : Hid (w2.heap.size ≤ w3.heap.size) := b.size
    replace B0 : Hid (Below w.heap.size w w3) := B0.out.trans (b.mono (by have := Zw1.out; have := Zw2.out; omega))
    replace R0 : Hid (Rd w3 w.heap.size s0 A0) := R0.out.below b (by have := Zw1.out; have := Zw2.out; omega)
    replace R1 : Hid (Rd w3 w.heap.size s1 A1) := R1.out.below b (by have := Zw1.out; have := Zw2.out; omega)
    replace XP0 : Hid (Bx w3 w.heap.size s0) := XP0.out.kept b
    replace cXP0 : w3.cell? ⟨w.heap.size, 0, none⟩ = some s0 := XP0.out.cell
    replace XP1 : Hid (Bx w3 (w.heap.size + 1) s1) := XP1.out.kept b
    replace cXP1 : w3.cell? ⟨(w.heap.size + 1), 0, none⟩ = some s1 := XP1.out.cell
    clear b
    go_wp2_with fail
    go_ret
    exact ⟨rfl, B0.out⟩
  go_enter Try.func4, Try.ntmps4
  go_wp2_with fail
  obtain ⟨w1, hw⟩ : ∃ x, x = ((w.alloc (.cells #[s0] 33)).alloc (.cells #[s1] 33)) := ⟨_, rfl⟩
  rw [← hw]
  have b : Below w.heap.size w w1 := by rw [hw]; exact new2 _ _ _ 
  have Zw1 : Hid (w.heap.size ≤ w1.heap.size) := b.size
  replace B0 : Hid (Below w.heap.size w w1) := B0.out.trans (b.mono (Nat.le_refl _))
  replace R0 : Hid (Rd w1 w.heap.size s0 A0) := R0.out.below b (Nat.le_refl _)
  replace R1 : Hid (Rd w1 w.heap.size s1 A1) := R1.out.below b (Nat.le_refl _)
  have XP0 : Hid (Bx w1 w.heap.size s0) := by rw [hw]; exact Bx.alloc (Bx.new _ _ _) _
  have cXP0 : w1.cell? ⟨w.heap.size, 0, none⟩ = some s0 := XP0.out.cell
  have LXP0 : Hid (w.heap.size < w1.heap.size) := XP0.out.lt
  have XP1 : Hid (Bx w1 (w.heap.size + 1) s1) := by rw [hw]; exact Bx.new2 _ _ _ _ 
  have cXP1 : w1.cell? ⟨(w.heap.size + 1), 0, none⟩ = some s1 := XP1.out.cell
  have LXP1 : Hid ((w.heap.size + 1) < w1.heap.size) := XP1.out.lt
  clear b hw
  refine (sz_yes ⟨_, rfl, (R0.out.ls (by have := Zw1.out; omega))⟩ (by omega) (by omega)).mono ?_
  rintro e w2 ⟨rfl, b⟩
  have Zw2 : Hid (w1.heap.size ≤ w2.heap.size) := b.size
  replace B0 : Hid (Below w.heap.size w w2) := B0.out.trans (b.mono (by have := Zw1.out; omega))
  replace R0 : Hid (Rd w2 w.heap.size s0 A0) := R0.out.below b (by have := Zw1.out; omega)
  replace R1 : Hid (Rd w2 w.heap.size s1 A1) := R1.out.below b (by have := Zw1.out; omega)
  replace XP0 : Hid (Bx w2 w.heap.size s0) := XP0.out.kept b
  replace cXP0 : w2.cell? ⟨w.heap.size, 0, none⟩ = some s0 := XP0.out.cell
  replace XP1 : Hid (Bx w2 (w.heap.size + 1) s1) := XP1.out.kept b
  replace cXP1 : w2.cell? ⟨(w.heap.size + 1), 0, none⟩ = some s1 := XP1.out.cell
  clear b
  go_wp2_with fail
  refine (sz_yes ⟨_, rfl, (R1.out.ls (by have := Zw1.out; have := Zw2.out; omega))⟩ (by omega) (by omega)).mono ?_
  rintro e w3 ⟨rfl, b⟩
  have Zw3 : Hid (w2.heap.size ≤ w3.heap.size) := b.size
  replace B0 : Hid (Below w.heap.size w w3) := B0.out.trans (b.mono (by have := Zw1.out; have := Zw2.out; omega))
  replace R0 : Hid (Rd w3 w.heap.size s0 A0) := R0.out.below b (by have := Zw1.out; have := Zw2.out; omega)
  replace R1 : Hid (Rd w3 w.heap.size s1 A1) := R1.out.below b (by have := Zw1.out; have := Zw2.out; omega)
  replace XP0 : Hid (Bx w3 w.heap.size s0) := XP0.out.kept b
  replace cXP0 : w3.cell? ⟨w.heap.size, 0, none⟩ = some s0 := XP0.out.cell
  replace XP1 : Hid (Bx w3 (w.heap.size + 1) s1) := XP1.out.kept b
  replace cXP1 : w3.cell? ⟨(w.heap.size + 1), 0, none⟩ = some s1 := XP1.out.cell
  clear b
  go_wp2_with fail
  have bd : Hid (Below w3.heap.size w3 w3.drew) := (Below.refl _ _).drew
  go_region_held3 (fun w' => w'.cell? ⟨w.heap.size, 0, none⟩ = some s0 ∧ w'.cell? ⟨(w.heap.size + 1), 0, none⟩ = some s1 ∧ Hid (Below w3.heap.size w3 w'))
    (first | exact ⟨(XP0.out.kept bd.out).cell, (XP1.out.kept bd.out).cell, bd⟩ | exact ⟨(XP0.out.kept bt0.out).cell, (XP1.out.kept bt0.out).cell, bt0⟩ | exact ⟨(XP0.out.kept bt1.out).cell, (XP1.out.kept bt1.out).cell, bt1⟩ | exact ⟨(XP0.out.kept bs.out).cell, (XP1.out.kept bs.out).cell, bs⟩)
    (first
      | (go_at_call_of 14 (Value.agg #[s0]); refine (toW_any ⟨_, rfl, ((R0.out.ls (by have := Zw1.out; have := Zw2.out; have := Zw3.out; omega)).below bd.out)⟩ (by omega)).mono ?_; rintro e wt0 ⟨_, rfl, ⟨t0, rfl, ot⟩, b⟩; obtain ⟨t0a, t0c, rfl⟩ := ot.shape; have bt0 : Hid (Below w3.heap.size w3 wt0) := viaD bd.out b; have Ot0 : Hid (Ls wt0 (.slice t0a A0.length t0c) A0) := ot.ls (Nat.le_refl _); clear b ot)
      | (go_at_call_of 14 (Value.agg #[s1]); refine (toW_any ⟨_, rfl, ((R1.out.ls (by have := Zw1.out; have := Zw2.out; have := Zw3.out; omega)).below bt0.out)⟩ (by omega)).mono ?_; rintro e wt1 ⟨_, rfl, ⟨t1, rfl, ot⟩, b⟩; obtain ⟨t1a, t1c, rfl⟩ := ot.shape; have bt1 : Hid (Below w3.heap.size w3 wt1) := viaD bt0.out b; have Ot1 : Hid (Ls wt1 (.slice t1a A1.length t1c) A1) := ot.ls (Nat.le_refl _); have Ot0_1 : Hid (Ls wt1 (.slice t0a A0.length t0c) A0) := Ot0.out.below b; clear b ot)
      | (go_at_call 13; refine (HS.out _ _ _ Ot0_1.out Ot1.out).mono ?_; rintro e w4 ⟨rfl, b⟩; have bs : Hid (Below w3.heap.size w3 w4) := viaD bt1.out b; clear b))
  have b := bs.out
  have Zw4 : Hid (w3.heap.size ≤ w4.heap.size) := b.size
  replace B0 : Hid (Below w.heap.size w w4) := B0.out.trans (b.mono (by have := Zw1.out; have := Zw2.out; have := Zw3.out; omega))
  replace R0 : Hid (Rd w4 w.heap.size s0 A0) := R0.out.below b (by have := Zw1.out; have := Zw2.out; have := Zw3.out; omega)
  replace R1 : Hid (Rd w4 w.heap.size s1 A1) := R1.out.below b (by have := Zw1.out; have := Zw2.out; have := Zw3.out; omega)
  replace XP0 : Hid (Bx w4 w.heap.size s0) := XP0.out.kept b
  replace cXP0 : w4.cell? ⟨w.heap.size, 0, none⟩ = some s0 := XP0.out.cell
  replace XP1 : Hid (Bx w4 (w.heap.size + 1) s1) := XP1.out.kept b
  replace cXP1 : w4.cell? ⟨(w.heap.size + 1), 0, none⟩ = some s1 := XP1.out.cell
  clear b bd bs bt0 Ot0 bt1 Ot1 Ot0_1
  go_wp2_with fail
  refine (toW_any ⟨_, rfl, (R0.out.ls (by have := Zw1.out; have := Zw2.out; have := Zw3.out; have := Zw4.out; omega))⟩ (by omega)).mono ?_
  rintro e w5 ⟨_, rfl, ⟨x0, rfl, o⟩, b⟩
  obtain ⟨x0a, x0c, rfl⟩ := o.shape
  have Zw5 : Hid (w4.heap.size ≤ w5.heap.size) := b.size
  replace B0 : Hid (Below w.heap.size w w5) := B0.out.trans (b.mono (by have := Zw1.out; have := Zw2.out; have := Zw3.out; have := Zw4.out; omega))
  replace R0 : Hid (Rd w5 w.heap.size s0 A0) := R0.out.below b (by have := Zw1.out; have := Zw2.out; have := Zw3.out; have := Zw4.out; omega)
  replace R1 : Hid (Rd w5 w.heap.size s1 A1) := R1.out.below b (by have := Zw1.out; have := Zw2.out; have := Zw3.out; have := Zw4.out; omega)
  replace XP0 : Hid (Bx w5 w.heap.size s0) := XP0.out.kept b
  replace cXP0 : w5.cell? ⟨w.heap.size, 0, none⟩ = some s0 := XP0.out.cell
  replace XP1 : Hid (Bx w5 (w.heap.size + 1) s1) := XP1.out.kept b
  replace cXP1 : w5.cell? ⟨(w.heap.size + 1), 0, none⟩ = some s1 := XP1.out.cell
  have Ox0 : Hid (wh.Own w5 w4.heap.size w5.heap.size (.slice x0a A0.length x0c) A0) := o
  clear o b
  have dXP0 : (w5.alloc (.cells #[(.slice x0a A0.length x0c)] 37)).cell? ⟨w.heap.size, 0, none⟩ = some s0 := (XP0.out.alloc _).cell
  have dXP1 : (w5.alloc (.cells #[(.slice x0a A0.length x0c)] 37)).cell? ⟨(w.heap.size + 1), 0, none⟩ = some s1 := (XP1.out.alloc _).cell
  go_wp2_with fail
  clear dXP0 dXP1
  obtain ⟨w6, hw⟩ : ∃ x, x = w5.alloc (.cells #[(.slice x0a A0.length x0c)] 37) := ⟨_, rfl⟩
  rw [← hw]
  have b : Below w5.heap.size w5 w6 := by rw [hw]; exact new1 _ _
  have x : Bx w6 w5.heap.size (.slice x0a A0.length x0c) := by rw [hw]; exact Bx.new _ _ _
  have Zw6 : Hid (w5.heap.size ≤ w6.heap.size) := b.size
  replace B0 : Hid (Below w.heap.size w w6) := B0.out.trans (b.mono (by have := Zw1.out; have := Zw2.out; have := Zw3.out; have := Zw4.out; have := Zw5.out; omega))
  replace R0 : Hid (Rd w6 w.heap.size s0 A0) := R0.out.below b (by have := Zw1.out; have := Zw2.out; have := Zw3.out; have := Zw4.out; have := Zw5.out; omega)
  replace R1 : Hid (Rd w6 w.heap.size s1 A1) := R1.out.below b (by have := Zw1.out; have := Zw2.out; have := Zw3.out; have := Zw4.out; have := Zw5.out; omega)
  replace Ox0 : Hid (wh.Own w6 w4.heap.size w5.heap.size (.slice x0a A0.length x0c) A0) := Ox0.out.below b (Nat.le_refl _)
  replace XP0 : Hid (Bx w6 w.heap.size s0) := XP0.out.kept b
  replace cXP0 : w6.cell? ⟨w.heap.size, 0, none⟩ = some s0 := XP0.out.cell
  replace XP1 : Hid (Bx w6 (w.heap.size + 1) s1) := XP1.out.kept b
  replace cXP1 : w6.cell? ⟨(w.heap.size + 1), 0, none⟩ = some s1 := XP1.out.cell
  have XX0 : Hid (Bx w6 w5.heap.size (.slice x0a A0.length x0c)) := x
  have cXX0 : w6.cell? ⟨w5.heap.size, 0, none⟩ = some (.slice x0a A0.length x0c) := XX0.out.cell
  have LXX0 : Hid (w5.heap.size < w6.heap.size) := XX0.out.lt
  clear b hw x
  refine (toW_any ⟨_, rfl, (R1.out.ls (by have := Zw1.out; have := Zw2.out; have := Zw3.out; have := Zw4.out; have := Zw5.out; have := Zw6.out; omega))⟩ (by omega)).mono ?_
  rintro e w7 ⟨_, rfl, ⟨x1, rfl, o⟩, b⟩
  obtain ⟨x1a, x1c, rfl⟩ := o.shape
  have Zw7 : Hid (w6.heap.size ≤ w7.heap.size) := b.size
  replace B0 : Hid (Below w.heap.size w w7) := B0.out.trans (b.mono (by have := Zw1.out; have := Zw2.out; have := Zw3.out; have := Zw4.out; have := Zw5.out; have := Zw6.out; omega))
  replace R0 : Hid (Rd w7 w.heap.size s0 A0) := R0.out.below b (by have := Zw1.out; have := Zw2.out; have := Zw3.out; have := Zw4.out; have := Zw5.out; have := Zw6.out; omega)
  replace R1 : Hid (Rd w7 w.heap.size s1 A1) := R1.out.below b (by have := Zw1.out; have := Zw2.out; have := Zw3.out; have := Zw4.out; have := Zw5.out; have := Zw6.out; omega)
  replace Ox0 : Hid (wh.Own w7 w4.heap.size w5.heap.size (.slice x0a A0.length x0c) A0) := Ox0.out.below b (by have := Zw6.out; omega)
  replace XP0 : Hid (Bx w7 w.heap.size s0) := XP0.out.kept b
  replace cXP0 : w7.cell? ⟨w.heap.size, 0, none⟩ = some s0 := XP0.out.cell
  replace XP1 : Hid (Bx w7 (w.heap.size + 1) s1) := XP1.out.kept b
  replace cXP1 : w7.cell? ⟨(w.heap.size + 1), 0, none⟩ = some s1 := XP1.out.cell
  replace XX0 : Hid (Bx w7 w5.heap.size (.slice x0a A0.length x0c)) := XX0.out.kept b
  replace cXX0 : w7.cell? ⟨w5.heap.size, 0, none⟩ = some (.slice x0a A0.length x0c) := XX0.out.cell
  have Ox1 : Hid (wh.Own w7 w6.heap.size w7.heap.size (.slice x1a A1.length x1c) A1) := o
  clear o b
  have dXP0 : (w7.alloc (.cells #[(.slice x1a A1.length x1c)] 37)).cell? ⟨w.heap.size, 0, none⟩ = some s0 := (XP0.out.alloc _).cell
  have dXP1 : (w7.alloc (.cells #[(.slice x1a A1.length x1c)] 37)).cell? ⟨(w.heap.size + 1), 0, none⟩ = some s1 := (XP1.out.alloc _).cell
  have dXX0 : (w7.alloc (.cells #[(.slice x1a A1.length x1c)] 37)).cell? ⟨w5.heap.size, 0, none⟩ = some (.slice x0a A0.length x0c) := (XX0.out.alloc _).cell
  go_wp2_with fail
  clear dXP0 dXP1 dXX0
  obtain ⟨w8, hw⟩ : ∃ x, x = w7.alloc (.cells #[(.slice x1a A1.length x1c)] 37) := ⟨_, rfl⟩
  rw [← hw]
  have b : Below w7.heap.size w7 w8 := by rw [hw]; exact new1 _ _
  have x : Bx w8 w7.heap.size (.slice x1a A1.length x1c) := by rw [hw]; exact Bx.new _ _ _
  have Zw8 : Hid (w7.heap.size ≤ w8.heap.size) := b.size
  replace B0 : Hid (Below w.heap.size w w8) := B0.out.trans (b.mono (by have := Zw1.out; have := Zw2.out; have := Zw3.out; have := Zw4.out; have := Zw5.out; have := Zw6.out; have := Zw7.out; omega))
  replace R0 : Hid (Rd w8 w.heap.size s0 A0) := R0.out.below b (by have := Zw1.out; have := Zw2.out; have := Zw3.out; have := Zw4.out; have := Zw5.out; have := Zw6.out; have := Zw7.out; omega)
  replace R1 : Hid (Rd w8 w.heap.size s1 A1) := R1.out.below b (by have := Zw1.out; have := Zw2.out; have := Zw3.out; have := Zw4.out; have := Zw5.out; have := Zw6.out; have := Zw7.out; omega)
  replace Ox0 : Hid (wh.Own w8 w4.heap.size w5.heap.size (.slice x0a A0.length x0c) A0) := Ox0.out.below b (by have := Zw6.out; have := Zw7.out; omega)
  replace Ox1 : Hid (wh.Own w8 w6.heap.size w7.heap.size (.slice x1a A1.length x1c) A1) := Ox1.out.below b (Nat.le_refl _)
  replace XP0 : Hid (Bx w8 w.heap.size s0) := XP0.out.kept b
  replace cXP0 : w8.cell? ⟨w.heap.size, 0, none⟩ = some s0 := XP0.out.cell
  replace XP1 : Hid (Bx w8 (w.heap.size + 1) s1) := XP1.out.kept b
  replace cXP1 : w8.cell? ⟨(w.heap.size + 1), 0, none⟩ = some s1 := XP1.out.cell
  replace XX0 : Hid (Bx w8 w5.heap.size (.slice x0a A0.length x0c)) := XX0.out.kept b
  replace cXX0 : w8.cell? ⟨w5.heap.size, 0, none⟩ = some (.slice x0a A0.length x0c) := XX0.out.cell
  have XX1 : Hid (Bx w8 w7.heap.size (.slice x1a A1.length x1c)) := x
  have cXX1 : w8.cell? ⟨w7.heap.size, 0, none⟩ = some (.slice x1a A1.length x1c) := XX1.out.cell
  have LXX1 : Hid (w7.heap.size < w8.heap.size) := XX1.out.lt
  clear b hw x
  refine (HI.out w8 (.slice x0a A0.length x0c) (.slice x1a A1.length x1c) (Ox0.out.rd.ls (by have := Zw6.out; have := Zw7.out; have := Zw8.out; omega)) (Ox1.out.rd.ls (by have := Zw8.out; omega))).mono ?_
  rintro e w9 ⟨rfl, b⟩
  have Zw9 : Hid (w8.heap.size ≤ w9.heap.size) := b.size
  replace B0 : Hid (Below w.heap.size w w9) := B0.out.trans (b.mono (by have := Zw1.out; have := Zw2.out; have := Zw3.out; have := Zw4.out; have := Zw5.out; have := Zw6.out; have := Zw7.out; have := Zw8.out; omega))
  replace R0 : Hid (Rd w9 w.heap.size s0 A0) := R0.out.below b (by have := Zw1.out; have := Zw2.out; have := Zw3.out; have := Zw4.out; have := Zw5.out; have := Zw6.out; have := Zw7.out; have := Zw8.out; omega)
  replace R1 : Hid (Rd w9 w.heap.size s1 A1) := R1.out.below b (by have := Zw1.out; have := Zw2.out; have := Zw3.out; have := Zw4.out; have := Zw5.out; have := Zw6.out; have := Zw7.out; have := Zw8.out; omega)
  replace Ox0 : Hid (wh.Own w9 w4.heap.size w5.heap.size (.slice x0a A0.length x0c) A0) := Ox0.out.below b (by have := Zw6.out; have := Zw7.out; have := Zw8.out; omega)
  replace Ox1 : Hid (wh.Own w9 w6.heap.size w7.heap.size (.slice x1a A1.length x1c) A1) := Ox1.out.below b (by have := Zw8.out; omega)
  replace XP0 : Hid (Bx w9 w.heap.size s0) := XP0.out.kept b
  replace cXP0 : w9.cell? ⟨w.heap.size, 0, none⟩ = some s0 := XP0.out.cell
  replace XP1 : Hid (Bx w9 (w.heap.size + 1) s1) := XP1.out.kept b
  replace cXP1 : w9.cell? ⟨(w.heap.size + 1), 0, none⟩ = some s1 := XP1.out.cell
  replace XX0 : Hid (Bx w9 w5.heap.size (.slice x0a A0.length x0c)) := XX0.out.kept b
  replace cXX0 : w9.cell? ⟨w5.heap.size, 0, none⟩ = some (.slice x0a A0.length x0c) := XX0.out.cell
  replace XX1 : Hid (Bx w9 w7.heap.size (.slice x1a A1.length x1c)) := XX1.out.kept b
  replace cXX1 : w9.cell? ⟨w7.heap.size, 0, none⟩ = some (.slice x1a A1.length x1c) := XX1.out.cell
  clear b
  go_wp2_with fail
  have bd : Hid (Below w9.heap.size w9 w9.drew) := (Below.refl _ _).drew
  go_region_held3 (fun w' => w'.cell? ⟨w5.heap.size, 0, none⟩ = some (.slice x0a A0.length x0c) ∧ w'.cell? ⟨w.heap.size, 0, none⟩ = some s0 ∧ Hid (Below w9.heap.size w9 w'))
    (first | exact ⟨(XX0.out.kept bd.out).cell, (XP0.out.kept bd.out).cell, bd⟩ | exact ⟨(XX0.out.kept by1.out).cell, (XP0.out.kept by1.out).cell, by1⟩ | exact ⟨(XX0.out.kept by2.out).cell, (XP0.out.kept by2.out).cell, by2⟩)
    (first
      | (go_at_call 14; refine (toW_any ⟨_, rfl, ((R0.out.ls (by have := Zw1.out; have := Zw2.out; have := Zw3.out; have := Zw4.out; have := Zw5.out; have := Zw6.out; have := Zw7.out; have := Zw8.out; have := Zw9.out; omega)).below bd.out)⟩ (by omega)).mono ?_; rintro e wy ⟨_, rfl, ⟨y, rfl, oy⟩, b⟩; have by1 : Hid (Below w9.heap.size w9 wy) := bd.out.trans b; have oy1 : Hid (Ls wy y A0) := oy.ls (Nat.le_refl _); clear oy b)
      | (go_at_call 16; refine (eqW_any ⟨_, rfl, ((Ox0.out.rd.ls (by have := Zw6.out; have := Zw7.out; have := Zw8.out; have := Zw9.out; omega)).below by1.out)⟩ ⟨_, rfl, oy1.out⟩).mono ?_; rintro e w10 ⟨rfl, b⟩; have by2 : Hid (Below w9.heap.size w9 w10) := by1.out.trans (b.mono by1.out.size); clear b))
  have b := by2.out
  have Zw10 : Hid (w9.heap.size ≤ w10.heap.size) := b.size
  replace B0 : Hid (Below w.heap.size w w10) := B0.out.trans (b.mono (by have := Zw1.out; have := Zw2.out; have := Zw3.out; have := Zw4.out; have := Zw5.out; have := Zw6.out; have := Zw7.out; have := Zw8.out; have := Zw9.out; omega))
  replace R0 : Hid (Rd w10 w.heap.size s0 A0) := R0.out.below b (by have := Zw1.out; have := Zw2.out; have := Zw3.out; have := Zw4.out; have := Zw5.out; have := Zw6.out; have := Zw7.out; have := Zw8.out; have := Zw9.out; omega)
  replace R1 : Hid (Rd w10 w.heap.size s1 A1) := R1.out.below b (by have := Zw1.out; have := Zw2.out; have := Zw3.out; have := Zw4.out; have := Zw5.out; have := Zw6.out; have := Zw7.out; have := Zw8.out; have := Zw9.out; omega)
  replace Ox0 : Hid (wh.Own w10 w4.heap.size w5.heap.size (.slice x0a A0.length x0c) A0) := Ox0.out.below b (by have := Zw6.out; have := Zw7.out; have := Zw8.out; have := Zw9.out; omega)
  replace Ox1 : Hid (wh.Own w10 w6.heap.size w7.heap.size (.slice x1a A1.length x1c) A1) := Ox1.out.below b (by have := Zw8.out; have := Zw9.out; omega)
  replace XP0 : Hid (Bx w10 w.heap.size s0) := XP0.out.kept b
  replace cXP0 : w10.cell? ⟨w.heap.size, 0, none⟩ = some s0 := XP0.out.cell
  replace XP1 : Hid (Bx w10 (w.heap.size + 1) s1) := XP1.out.kept b
  replace cXP1 : w10.cell? ⟨(w.heap.size + 1), 0, none⟩ = some s1 := XP1.out.cell
  replace XX0 : Hid (Bx w10 w5.heap.size (.slice x0a A0.length x0c)) := XX0.out.kept b
  replace cXX0 : w10.cell? ⟨w5.heap.size, 0, none⟩ = some (.slice x0a A0.length x0c) := XX0.out.cell
  replace XX1 : Hid (Bx w10 w7.heap.size (.slice x1a A1.length x1c)) := XX1.out.kept b
  replace cXX1 : w10.cell? ⟨w7.heap.size, 0, none⟩ = some (.slice x1a A1.length x1c) := XX1.out.cell
  clear b bd by1 by2 oy1
  go_wp2_with fail
  have bd : Hid (Below w10.heap.size w10 w10.drew) := (Below.refl _ _).drew
  go_region_held3 (fun w' => w'.cell? ⟨w7.heap.size, 0, none⟩ = some (.slice x1a A1.length x1c) ∧ w'.cell? ⟨(w.heap.size + 1), 0, none⟩ = some s1 ∧ Hid (Below w10.heap.size w10 w'))
    (first | exact ⟨(XX1.out.kept bd.out).cell, (XP1.out.kept bd.out).cell, bd⟩ | exact ⟨(XX1.out.kept by1.out).cell, (XP1.out.kept by1.out).cell, by1⟩ | exact ⟨(XX1.out.kept by2.out).cell, (XP1.out.kept by2.out).cell, by2⟩)
    (first
      | (go_at_call 14; refine (toW_any ⟨_, rfl, ((R1.out.ls (by have := Zw1.out; have := Zw2.out; have := Zw3.out; have := Zw4.out; have := Zw5.out; have := Zw6.out; have := Zw7.out; have := Zw8.out; have := Zw9.out; have := Zw10.out; omega)).below bd.out)⟩ (by omega)).mono ?_; rintro e wy ⟨_, rfl, ⟨y, rfl, oy⟩, b⟩; have by1 : Hid (Below w10.heap.size w10 wy) := bd.out.trans b; have oy1 : Hid (Ls wy y A1) := oy.ls (Nat.le_refl _); clear oy b)
      | (go_at_call 16; refine (eqW_any ⟨_, rfl, ((Ox1.out.rd.ls (by have := Zw8.out; have := Zw9.out; have := Zw10.out; omega)).below by1.out)⟩ ⟨_, rfl, oy1.out⟩).mono ?_; rintro e w11 ⟨rfl, b⟩; have by2 : Hid (Below w10.heap.size w10 w11) := by1.out.trans (b.mono by1.out.size); clear b))
  have b := by2.out
  have Zw11 : Hid (w10.heap.size ≤ w11.heap.size) := b.size
  replace B0 : Hid (Below w.heap.size w w11) := B0.out.trans (b.mono (by have := Zw1.out; have := Zw2.out; have := Zw3.out; have := Zw4.out; have := Zw5.out; have := Zw6.out; have := Zw7.out; have := Zw8.out; have := Zw9.out; have := Zw10.out; omega))
  replace R0 : Hid (Rd w11 w.heap.size s0 A0) := R0.out.below b (by have := Zw1.out; have := Zw2.out; have := Zw3.out; have := Zw4.out; have := Zw5.out; have := Zw6.out; have := Zw7.out; have := Zw8.out; have := Zw9.out; have := Zw10.out; omega)
  replace R1 : Hid (Rd w11 w.heap.size s1 A1) := R1.out.below b (by have := Zw1.out; have := Zw2.out; have := Zw3.out; have := Zw4.out; have := Zw5.out; have := Zw6.out; have := Zw7.out; have := Zw8.out; have := Zw9.out; have := Zw10.out; omega)
  replace Ox0 : Hid (wh.Own w11 w4.heap.size w5.heap.size (.slice x0a A0.length x0c) A0) := Ox0.out.below b (by have := Zw6.out; have := Zw7.out; have := Zw8.out; have := Zw9.out; have := Zw10.out; omega)
  replace Ox1 : Hid (wh.Own w11 w6.heap.size w7.heap.size (.slice x1a A1.length x1c) A1) := Ox1.out.below b (by have := Zw8.out; have := Zw9.out; have := Zw10.out; omega)
  replace XP0 : Hid (Bx w11 w.heap.size s0) := XP0.out.kept b
  replace cXP0 : w11.cell? ⟨w.heap.size, 0, none⟩ = some s0 := XP0.out.cell
  replace XP1 : Hid (Bx w11 (w.heap.size + 1) s1) := XP1.out.kept b
  replace cXP1 : w11.cell? ⟨(w.heap.size + 1), 0, none⟩ = some s1 := XP1.out.cell
  replace XX0 : Hid (Bx w11 w5.heap.size (.slice x0a A0.length x0c)) := XX0.out.kept b
  replace cXX0 : w11.cell? ⟨w5.heap.size, 0, none⟩ = some (.slice x0a A0.length x0c) := XX0.out.cell
  replace XX1 : Hid (Bx w11 w7.heap.size (.slice x1a A1.length x1c)) := XX1.out.kept b
  replace cXX1 : w11.cell? ⟨w7.heap.size, 0, none⟩ = some (.slice x1a A1.length x1c) := XX1.out.cell
  clear b bd by1 by2 oy1
  go_wp2_with fail
  go_ret
  exact ⟨rfl, B0.out⟩
end Go.Proofs.Ytbbdhbamooaloab.fnExactResultantOfW
