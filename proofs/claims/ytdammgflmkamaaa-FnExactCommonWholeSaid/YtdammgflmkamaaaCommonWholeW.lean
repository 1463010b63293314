/- The law FnExactCommonWhole: its walk, over what both sides answer. -/
import Derived.Test.YtdammgflmkamaaaCommonWholeF
import Derived.Test.YtdammgflmkamaaaWw
import Derived.Deep.RegionHeld3
import Derived.Deep.DeepCutAuto
namespace Go.Proofs.Ytdammgflmkamaaa.fnExactCommonWholeW
open Go.RowKit Go.Proofs.Ytdammgflmkamaaa.wh

set_option maxRecDepth 100000 in
set_option maxHeartbeats 4000000 in
theorem walk (v0 : Value) (v1 : Value) (w : World) (h0 : ∃ L, Wh w v0 L) (h1 : ∃ L, Wh w v1 L) :
    Calls Try.prog 5 #[v0, v1] w fun e w' => e = .returned (.bool true) ∧ Below w.heap.size w w' := by
  obtain ⟨A0, s0, rfl, h0⟩ := h0
  obtain ⟨A1, s1, rfl, h1⟩ := h1
  obtain ⟨R, hR⟩ : ∃ r : List Int, r = fCommonWhole.R A0 A1 := ⟨_, rfl⟩
  obtain ⟨ok, hok⟩ : ∃ r : Bool, r = fCommonWhole.ok A0 A1 := ⟨_, rfl⟩
  have HS : Hid (∀ (w : World) (v0 : Value) (v1 : Value), Ls w v0 A0 → Ls w v1 A1 → Calls Try.prog 16 #[.agg #[v0], .agg #[v1]] w (AnsI R ok w)) := fun w v0 v1 h0 h1 => by rw [hR, hok]; exact fCommonWhole.spec_any ⟨_, rfl, h0⟩ ⟨_, rfl, h1⟩ 
  have HI : Hid (∀ (w : World) (v0 : Value) (v1 : Value), Ls w v0 A0 → Ls w v1 A1 → Calls Try.prog 17 #[.agg #[v0], .agg #[v1]] w (AnsI R ok w)) := fun w v0 v1 h0 h1 => by rw [hR, hok]; exact fCommonWhole.impl_any ⟨_, rfl, h0⟩ ⟨_, rfl, h1⟩ 
  have hlen : (R.length : Int) ≤ 1000 := by rw [hR]; have := fCommonWhole.len A0 A1; omega
  clear hR hok
  have R0 : Hid (Rd w w.heap.size s0 A0) := h0
  have R1 : Hid (Rd w w.heap.size s1 A1) := h1
  clear h0 h1
  have B0 : Hid (Below w.heap.size w w) := Below.refl _ _
  by_cases hs0 : (A0.length : Int) ≤ 1048576
  case neg =>
    clear HS HI hlen
    go_enter Try.func5, Try.ntmps5
    go_wp2_with fail
    obtain ⟨w1, hw⟩ : ∃ x, x = ((w.alloc (.cells #[s0] 24)).alloc (.cells #[s1] 24)) := ⟨_, rfl⟩
    rw [← hw]
    have b : Below w.heap.size w w1 := by rw [hw]; exact new2 _ _ _ 
    have Zw1 : Hid (w.heap.size ≤ w1.heap.size) := b.size
    replace B0 : Hid (Below w.heap.size w w1) := B0.out.trans (b.mono (Nat.le_refl _))
    replace R0 : Hid (Rd w1 w.heap.size s0 A0) := R0.out.below b (Nat.le_refl _)
    replace R1 : Hid (Rd w1 w.heap.size s1 A1) := R1.out.below b (Nat.le_refl _)
    have XP0 : Hid (Bx w1 w.heap.size s0) := by rw [hw]; exact Bx.alloc (Bx.new _ _ _) _
    have cXP0 : w1.cell? ⟨w.heap.size, 0, none⟩ = some s0 := XP0.out.cell
    have LXP0 : Hid (w.heap.size < w1.heap.size) := XP0.out.lt
    have XP1 : Hid (Bx w1 (w.heap.size + 1) s1) := by rw [hw]; exact Bx.new2 _ _ _ _ 
    have cXP1 : w1.cell? ⟨(w.heap.size + 1), 0, none⟩ = some s1 := XP1.out.cell
    have LXP1 : Hid ((w.heap.size + 1) < w1.heap.size) := XP1.out.lt
    clear b hw
    refine (sz_no ⟨_, rfl, (R0.out.ls (by have := Zw1.out; omega))⟩ (by omega) (by omega) (by omega)).mono ?_
    rintro e w2 ⟨rfl, b⟩
    have Zw2 : Hid (w1.heap.size ≤ w2.heap.size) := b.size
    replace B0 : Hid (Below w.heap.size w w2) := B0.out.trans (b.mono (by have := Zw1.out; omega))
    replace R0 : Hid (Rd w2 w.heap.size s0 A0) := R0.out.below b (by have := Zw1.out; omega)
    replace R1 : Hid (Rd w2 w.heap.size s1 A1) := R1.out.below b (by have := Zw1.out; omega)
    replace XP0 : Hid (Bx w2 w.heap.size s0) := XP0.out.kept b
    replace cXP0 : w2.cell? ⟨w.heap.size, 0, none⟩ = some s0 := XP0.out.cell
    replace XP1 : Hid (Bx w2 (w.heap.size + 1) s1) := XP1.out.kept b
    replace cXP1 : w2.cell? ⟨(w.heap.size + 1), 0, none⟩ = some s1 := XP1.out.cell
    clear b
    go_wp2_with fail
    go_ret
    exact ⟨rfl, B0.out⟩
  by_cases hs1 : (A1.length : Int) ≤ 1048576 - (A0.length : Int)
  case neg =>
    clear HS HI hlen
    go_enter Try.func5, Try.ntmps5
    go_wp2_with fail
    obtain ⟨w1, hw⟩ : ∃ x, x = ((w.alloc (.cells #[s0] 24)).alloc (.cells #[s1] 24)) := ⟨_, rfl⟩
    rw [← hw]
    have b : Below w.heap.size w w1 := by rw [hw]; exact new2 _ _ _ 
    have Zw1 : Hid (w.heap.size ≤ w1.heap.size) := b.size
    replace B0 : Hid (Below w.heap.size w w1) := B0.out.trans (b.mono (Nat.le_refl _))
    replace R0 : Hid (Rd w1 w.heap.size s0 A0) := R0.out.below b (Nat.le_refl _)
    replace R1 : Hid (Rd w1 w.heap.size s1 A1) := R1.out.below b (Nat.le_refl _)
    have XP0 : Hid (Bx w1 w.heap.size s0) := by rw [hw]; exact Bx.alloc (Bx.new _ _ _) _
    have cXP0 : w1.cell? ⟨w.heap.size, 0, none⟩ = some s0 := XP0.out.cell
    have LXP0 : Hid (w.heap.size < w1.heap.size) := XP0.out.lt
    have XP1 : Hid (Bx w1 (w.heap.size + 1) s1) := by rw [hw]; exact Bx.new2 _ _ _ _ 
    have cXP1 : w1.cell? ⟨(w.heap.size + 1), 0, none⟩ = some s1 := XP1.out.cell
    have LXP1 : Hid ((w.heap.size + 1) < w1.heap.size) := XP1.out.lt
    clear b hw
    refine (sz_yes ⟨_, rfl, (R0.out.ls (by have := Zw1.out; omega))⟩ (by omega) (by omega)).mono ?_
    rintro e w2 ⟨rfl, b⟩
    have Zw2 : Hid (w1.heap.size ≤ w2.heap.size) := b.size
    replace B0 : Hid (Below w.heap.size w w2) := B0.out.trans (b.mono (by have := Zw1.out; omega))
    replace R0 : Hid (Rd w2 w.heap.size s0 A0) := R0.out.below b (by have := Zw1.out; omega)
    replace R1 : Hid (Rd w2 w.heap.size s1 A1) := R1.out.below b (by have := Zw1.out; omega)
    replace XP0 : Hid (Bx w2 w.heap.size s0) := XP0.out.kept b
    replace cXP0 : w2.cell? ⟨w.heap.size, 0, none⟩ = some s0 := XP0.out.cell
    replace XP1 : Hid (Bx w2 (w.heap.size + 1) s1) := XP1.out.kept b
    replace cXP1 : w2.cell? ⟨(w.heap.size + 1), 0, none⟩ = some s1 := XP1.out.cell
    clear b
    go_wp2_with fail
    refine (sz_no ⟨_, rfl, (R1.out.ls (by have := Zw1.out; have := Zw2.out; omega))⟩ (by omega) (by omega) (by omega)).mono ?_
    rintro e w3 ⟨rfl, b⟩
    have Zw3 : Hid (w2.heap.size ≤ w3.heap.size) := b.size
    replace B0 : Hid (Below w.heap.size w w3) := B0.out.trans (b.mono (by have := Zw1.out; have := Zw2.out; omega))
    replace R0 : Hid (Rd w3 w.heap.size s0 A0) := R0.out.below b (by have := Zw1.out; have := Zw2.out; omega)
    replace R1 : Hid (Rd w3 w.heap.size s1 A1) := R1.out.below b (by have := Zw1.out; have := Zw2.out; omega)
    replace XP0 : Hid (Bx w3 w.heap.size s0) := XP0.out.kept b
    replace cXP0 : w3.cell? ⟨w.heap.size, 0, none⟩ = some s0 := XP0.out.cell
    replace XP1 : Hid (Bx w3 (w.heap.size + 1) s1) := XP1.out.kept b
    replace cXP1 : w3.cell? ⟨(w.heap.size + 1), 0, none⟩ = some s1 := XP1.out.cell
    clear b
    go_wp2_with fail
    go_ret
    exact ⟨rfl, B0.out⟩
  go_enter Try.func5, Try.ntmps5
  go_wp2_with fail
  obtain ⟨w1, hw⟩ : ∃ x, x = ((w.alloc (.cells #[s0] 24)).alloc (.cells #[s1] 24)) := ⟨_, rfl⟩
  rw [← hw]
  have b : Below w.heap.size w w1 := by rw [hw]; exact new2 _ _ _ 
  have Zw1 : Hid (w.heap.size ≤ w1.heap.size) := b.size
  replace B0 : Hid (Below w.heap.size w w1) := B0.out.trans (b.mono (Nat.le_refl _))
  replace R0 : Hid (Rd w1 w.heap.size s0 A0) := R0.out.below b (Nat.le_refl _)
  replace R1 : Hid (Rd w1 w.heap.size s1 A1) := R1.out.below b (Nat.le_refl _)
  have XP0 : Hid (Bx w1 w.heap.size s0) := by rw [hw]; exact Bx.alloc (Bx.new _ _ _) _
  have cXP0 : w1.cell? ⟨w.heap.size, 0, none⟩ = some s0 := XP0.out.cell
  have LXP0 : Hid (w.heap.size < w1.heap.size) := XP0.out.lt
  have XP1 : Hid (Bx w1 (w.heap.size + 1) s1) := by rw [hw]; exact Bx.new2 _ _ _ _ 
  have cXP1 : w1.cell? ⟨(w.heap.size + 1), 0, none⟩ = some s1 := XP1.out.cell
  have LXP1 : Hid ((w.heap.size + 1) < w1.heap.size) := XP1.out.lt
  clear b hw
  refine (sz_yes ⟨_, rfl, (R0.out.ls (by have := Zw1.out; omega))⟩ (by omega) (by omega)).mono ?_
  rintro e w2 ⟨rfl, b⟩
  have Zw2 : Hid (w1.heap.size ≤ w2.heap.size) := b.size
  replace B0 : Hid (Below w.heap.size w w2) := B0.out.trans (b.mono (by have := Zw1.out; omega))
  replace R0 : Hid (Rd w2 w.heap.size s0 A0) := R0.out.below b (by have := Zw1.out; omega)
  replace R1 : Hid (Rd w2 w.heap.size s1 A1) := R1.out.below b (by have := Zw1.out; omega)
  replace XP0 : Hid (Bx w2 w.heap.size s0) := XP0.out.kept b
  replace cXP0 : w2.cell? ⟨w.heap.size, 0, none⟩ = some s0 := XP0.out.cell
  replace XP1 : Hid (Bx w2 (w.heap.size + 1) s1) := XP1.out.kept b
  replace cXP1 : w2.cell? ⟨(w.heap.size + 1), 0, none⟩ = some s1 := XP1.out.cell
  clear b
  go_wp2_with fail
  refine (sz_yes ⟨_, rfl, (R1.out.ls (by have := Zw1.out; have := Zw2.out; omega))⟩ (by omega) (by omega)).mono ?_
  rintro e w3 ⟨rfl, b⟩
  have Zw3 : Hid (w2.heap.size ≤ w3.heap.size) := b.size
  replace B0 : Hid (Below w.heap.size w w3) := B0.out.trans (b.mono (by have := Zw1.out; have := Zw2.out; omega))
  replace R0 : Hid (Rd w3 w.heap.size s0 A0) := R0.out.below b (by have := Zw1.out; have := Zw2.out; omega)
  replace R1 : Hid (Rd w3 w.heap.size s1 A1) := R1.out.below b (by have := Zw1.out; have := Zw2.out; omega)
  replace XP0 : Hid (Bx w3 w.heap.size s0) := XP0.out.kept b
  replace cXP0 : w3.cell? ⟨w.heap.size, 0, none⟩ = some s0 := XP0.out.cell
  replace XP1 : Hid (Bx w3 (w.heap.size + 1) s1) := XP1.out.kept b
  replace cXP1 : w3.cell? ⟨(w.heap.size + 1), 0, none⟩ = some s1 := XP1.out.cell
  clear b
  go_wp2_with fail
  have bd : Hid (Below w3.heap.size w3 w3.drew) := (Below.refl _ _).drew
  go_upto_region 8 with fail
  go_cut [6, 7] (fun sx sy wx => ∃ (bF : Nat) (ra : Option Addr) (rc : Nat), sx = .pointer (some ⟨bF, 0, none⟩) ∧ sy = .bool ok ∧ Hid (Fin w3 wx bF (.slice ra R.length rc) R))
  case first =>
    go_region_held3 (fun w' => w'.cell? ⟨w.heap.size, 0, none⟩ = some s0 ∧ w'.cell? ⟨(w.heap.size + 1), 0, none⟩ = some s1 ∧ Hid (Below w3.heap.size w3 w'))
      (first | exact ⟨(XP0.out.kept bd.out).cell, (XP1.out.kept bd.out).cell, bd⟩ | exact ⟨((XP0.out.kept bd.out).alloc _).cell, ((XP1.out.kept bd.out).alloc _).cell, bd.out.alloc bd.out.size _⟩ | exact ⟨(XP0.out.kept bt0.out).cell, (XP1.out.kept bt0.out).cell, bt0⟩ | exact ⟨((XP0.out.kept bt0.out).alloc _).cell, ((XP1.out.kept bt0.out).alloc _).cell, bt0.out.alloc bt0.out.size _⟩ | exact ⟨(XP0.out.kept bt1.out).cell, (XP1.out.kept bt1.out).cell, bt1⟩ | exact ⟨((XP0.out.kept bt1.out).alloc _).cell, ((XP1.out.kept bt1.out).alloc _).cell, bt1.out.alloc bt1.out.size _⟩ | exact ⟨(XP0.out.kept bs.out).cell, (XP1.out.kept bs.out).cell, bs⟩ | exact ⟨((XP0.out.kept bs.out).alloc _).cell, ((XP1.out.kept bs.out).alloc _).cell, bs.out.alloc bs.out.size _⟩ | exact ⟨((XP0.out.kept bs.out).other (by have := LXP0.out; have := LXP1.out; have := Zw1.out; have := Zw2.out; have := Zw3.out; have := bt0.out.size; have := bt1.out.size; first | omega | (dsimp only; omega) | (simp; done) | (simp; omega)) _).cell, ((XP1.out.kept bs.out).other (by have := LXP0.out; have := LXP1.out; have := Zw1.out; have := Zw2.out; have := Zw3.out; have := bt0.out.size; have := bt1.out.size; first | omega | (dsimp only; omega) | (simp; done) | (simp; omega)) _).cell, bs.out.setCell (by have := LXP0.out; have := LXP1.out; have := Zw1.out; have := Zw2.out; have := Zw3.out; have := bt0.out.size; have := bt1.out.size; first | omega | (dsimp only; omega) | (simp; done) | (simp; omega)) _⟩)
      (first
        | (go_at_call_of 9 (Value.agg #[s0]); first | (refine (toW_any ⟨_, rfl, ((R0.out.ls (by have := Zw1.out; have := Zw2.out; have := Zw3.out; omega)).below bd.out)⟩ (by omega)).mono ?_; rintro e wt0 ⟨_, rfl, ⟨t0, rfl, ot⟩, b⟩; obtain ⟨t0a, t0c, rfl⟩ := ot.shape; have bt0 : Hid (Below w3.heap.size w3 wt0) := viaD bd.out b; have Ot0 : Hid (Ls wt0 (.slice t0a A0.length t0c) A0) := ot.ls (Nat.le_refl _); clear b ot) | (refine (toW_any ⟨_, rfl, ((R0.out.ls (by have := Zw1.out; have := Zw2.out; have := Zw3.out; omega)).below (bd.out.alloc bd.out.size _))⟩ (by omega)).mono ?_; rintro e wt0 ⟨_, rfl, ⟨t0, rfl, ot⟩, b⟩; obtain ⟨t0a, t0c, rfl⟩ := ot.shape; have bt0 : Hid (Below w3.heap.size w3 wt0) := viaA bd.out b; have Ot0 : Hid (Ls wt0 (.slice t0a A0.length t0c) A0) := ot.ls (Nat.le_refl _); have BX0 : Hid (Bx wt0 w3.heap.size (.slice none 0 0)) := (show Bx wt0 w3.drew.heap.size (.slice none 0 0) from (Bx.new _ _ _).kept b); clear b ot))
        | (go_at_call_of 9 (Value.agg #[s1]); first | (refine (toW_any ⟨_, rfl, ((R1.out.ls (by have := Zw1.out; have := Zw2.out; have := Zw3.out; omega)).below bt0.out)⟩ (by omega)).mono ?_; rintro e wt1 ⟨_, rfl, ⟨t1, rfl, ot⟩, b⟩; obtain ⟨t1a, t1c, rfl⟩ := ot.shape; have bt1 : Hid (Below w3.heap.size w3 wt1) := viaD bt0.out b; have Ot1 : Hid (Ls wt1 (.slice t1a A1.length t1c) A1) := ot.ls (Nat.le_refl _); have Ot0_1 : Hid (Ls wt1 (.slice t0a A0.length t0c) A0) := (Ot0.out).below b; first | (have BX1 := BX0.out.kept b; have HBX : Hid (Bx wt1 _ (.slice none 0 0)) := BX1; clear BX1; have BX1 := HBX; clear HBX) | skip; clear b ot) | (refine (toW_any ⟨_, rfl, ((R1.out.ls (by have := Zw1.out; have := Zw2.out; have := Zw3.out; omega)).below (bt0.out.alloc bt0.out.size _))⟩ (by omega)).mono ?_; rintro e wt1 ⟨_, rfl, ⟨t1, rfl, ot⟩, b⟩; obtain ⟨t1a, t1c, rfl⟩ := ot.shape; have bt1 : Hid (Below w3.heap.size w3 wt1) := viaA bt0.out b; have Ot1 : Hid (Ls wt1 (.slice t1a A1.length t1c) A1) := ot.ls (Nat.le_refl _); have Ot0_1 : Hid (Ls wt1 (.slice t0a A0.length t0c) A0) := (Ot0.out.below (new1 _ _)).below b; have BX1 : Hid (Bx wt1 wt0.heap.size (.slice none 0 0)) := (show Bx wt1 wt0.heap.size (.slice none 0 0) from (Bx.new _ _ _).kept b); clear b ot))
        | (go_at_call 16; first | (refine (HS.out _ _ _ (Ot0_1.out) (Ot1.out)).mono ?_; rintro e w4 ⟨_, rfl, ⟨r0, rfl, o0⟩, b⟩; obtain ⟨r0a, r0c, rfl⟩ := o0.shape; have bs : Hid (Below w3.heap.size w3 w4) := viaD bt1.out b; have Oo : Hid (Own w4 _ w4.heap.size (.slice r0a R.length r0c) R) := o0; first | (have HX2 : Hid (Bx w4 _ (.slice none 0 0)) := BX1.out.kept b; have cB := HX2.out.cell; have fB := HX2.out.free; have Hlt : Hid (_ < wt1.heap.size) := BX1.out.lt; skip) | skip; clear b o0) | (refine (HS.out _ _ _ (Ot0_1.out.below (new1 _ _)) (Ot1.out.below (new1 _ _))).mono ?_; rintro e w4 ⟨_, rfl, ⟨r0, rfl, o0⟩, b⟩; obtain ⟨r0a, r0c, rfl⟩ := o0.shape; have bs : Hid (Below w3.heap.size w3 w4) := viaA bt1.out b; have Oo : Hid (Own w4 _ w4.heap.size (.slice r0a R.length r0c) R) := o0; have HX2 : Hid (Bx w4 wt1.heap.size (.slice none 0 0)) := (Bx.new _ _ _).kept b; have cB := HX2.out.cell; have fB := HX2.out.free; have Hlt : Hid (wt1.heap.size < (wt1.alloc (.cells #[.slice none 0 0] 26)).heap.size) := (by show _ < _; simp); clear b o0)))
    all_goals (go_wp2_with fail; go_meet; first | exact ⟨_, _, _, rfl, rfl, finSet HX2.out Oo.out Hlt.out bs.out (by have := LXP0.out; have := LXP1.out; have := Zw1.out; have := Zw2.out; have := Zw3.out; have := bt0.out.size; have := bt1.out.size; first | omega | (dsimp only; omega) | (simp; done) | (simp; omega))⟩ | exact ⟨_, _, _, rfl, rfl, finNew Oo.out bs.out⟩)
  case rest =>
  obtain ⟨rF, rra, rrc, rfl, rfl, hF⟩ := hcut
  obtain ⟨hF1, hF2, hF3, b⟩ := hF.out
  generalize hwc : wc = w4 at *
  clear hwc hF
  have Zw4 : Hid (w3.heap.size ≤ w4.heap.size) := b.size
  replace B0 : Hid (Below w.heap.size w w4) := B0.out.trans (b.mono (by have := Zw1.out; have := Zw2.out; have := Zw3.out; omega))
  replace R0 : Hid (Rd w4 w.heap.size s0 A0) := R0.out.below b (by have := Zw1.out; have := Zw2.out; have := Zw3.out; omega)
  replace R1 : Hid (Rd w4 w.heap.size s1 A1) := R1.out.below b (by have := Zw1.out; have := Zw2.out; have := Zw3.out; omega)
  replace XP0 : Hid (Bx w4 w.heap.size s0) := XP0.out.kept b
  replace cXP0 : w4.cell? ⟨w.heap.size, 0, none⟩ = some s0 := XP0.out.cell
  replace XP1 : Hid (Bx w4 (w.heap.size + 1) s1) := XP1.out.kept b
  replace cXP1 : w4.cell? ⟨(w.heap.size + 1), 0, none⟩ = some s1 := XP1.out.cell
  have Or0 : Hid (Rd w4 w4.heap.size (.slice rra R.length rrc) R) := hF3
  have XS0 : Hid (Bx w4 rF (.slice rra R.length rrc)) := hF2
  have cXS0 : w4.cell? ⟨rF, 0, none⟩ = some (.slice rra R.length rrc) := XS0.out.cell
  have LXS0 : Hid (rF < w4.heap.size) := XS0.out.lt
  have GXS0 : Hid (w3.heap.size ≤ rF) := hF1
  clear hF1 hF2 hF3 b bd
  go_wp2_with fail
  refine (toW_any ⟨_, rfl, (R0.out.ls (by have := Zw1.out; have := Zw2.out; have := Zw3.out; have := Zw4.out; omega))⟩ (by omega)).mono ?_
  rintro e w5 ⟨_, rfl, ⟨x0, rfl, o⟩, b⟩
  obtain ⟨x0a, x0c, rfl⟩ := o.shape
  have Zw5 : Hid (w4.heap.size ≤ w5.heap.size) := b.size
  replace B0 : Hid (Below w.heap.size w w5) := B0.out.trans (b.mono (by have := Zw1.out; have := Zw2.out; have := Zw3.out; have := Zw4.out; omega))
  replace R0 : Hid (Rd w5 w.heap.size s0 A0) := R0.out.below b (by have := Zw1.out; have := Zw2.out; have := Zw3.out; have := Zw4.out; omega)
  replace R1 : Hid (Rd w5 w.heap.size s1 A1) := R1.out.below b (by have := Zw1.out; have := Zw2.out; have := Zw3.out; have := Zw4.out; omega)
  replace Or0 : Hid (Rd w5 w4.heap.size (.slice rra R.length rrc) R) := Or0.out.below b (Nat.le_refl _)
  replace XP0 : Hid (Bx w5 w.heap.size s0) := XP0.out.kept b
  replace cXP0 : w5.cell? ⟨w.heap.size, 0, none⟩ = some s0 := XP0.out.cell
  replace XP1 : Hid (Bx w5 (w.heap.size + 1) s1) := XP1.out.kept b
  replace cXP1 : w5.cell? ⟨(w.heap.size + 1), 0, none⟩ = some s1 := XP1.out.cell
  replace XS0 : Hid (Bx w5 rF (.slice rra R.length rrc)) := XS0.out.kept b
  replace cXS0 : w5.cell? ⟨rF, 0, none⟩ = some (.slice rra R.length rrc) := XS0.out.cell
  have Ox0 : Hid (Own w5 w4.heap.size w5.heap.size (.slice x0a A0.length x0c) A0) := o
  clear o b
  have dXP0 : (w5.alloc (.cells #[(.slice x0a A0.length x0c)] 26)).cell? ⟨w.heap.size, 0, none⟩ = some s0 := (XP0.out.alloc _).cell
  have dXP1 : (w5.alloc (.cells #[(.slice x0a A0.length x0c)] 26)).cell? ⟨(w.heap.size + 1), 0, none⟩ = some s1 := (XP1.out.alloc _).cell
  have dXS0 : (w5.alloc (.cells #[(.slice x0a A0.length x0c)] 26)).cell? ⟨rF, 0, none⟩ = some (.slice rra R.length rrc) := (XS0.out.alloc _).cell
  go_wp2_with fail
  clear dXP0 dXP1 dXS0
  obtain ⟨w6, hw⟩ : ∃ x, x = w5.alloc (.cells #[(.slice x0a A0.length x0c)] 26) := ⟨_, rfl⟩
  rw [← hw]
  have b : Below w5.heap.size w5 w6 := by rw [hw]; exact new1 _ _
  have x : Bx w6 w5.heap.size (.slice x0a A0.length x0c) := by rw [hw]; exact Bx.new _ _ _
  have Zw6 : Hid (w5.heap.size ≤ w6.heap.size) := b.size
  replace B0 : Hid (Below w.heap.size w w6) := B0.out.trans (b.mono (by have := Zw1.out; have := Zw2.out; have := Zw3.out; have := Zw4.out; have := Zw5.out; omega))
  replace R0 : Hid (Rd w6 w.heap.size s0 A0) := R0.out.below b (by have := Zw1.out; have := Zw2.out; have := Zw3.out; have := Zw4.out; have := Zw5.out; omega)
  replace R1 : Hid (Rd w6 w.heap.size s1 A1) := R1.out.below b (by have := Zw1.out; have := Zw2.out; have := Zw3.out; have := Zw4.out; have := Zw5.out; omega)
  replace Or0 : Hid (Rd w6 w4.heap.size (.slice rra R.length rrc) R) := Or0.out.below b (by have := Zw5.out; omega)
  replace Ox0 : Hid (Own w6 w4.heap.size w5.heap.size (.slice x0a A0.length x0c) A0) := Ox0.out.below b (Nat.le_refl _)
  replace XP0 : Hid (Bx w6 w.heap.size s0) := XP0.out.kept b
  replace cXP0 : w6.cell? ⟨w.heap.size, 0, none⟩ = some s0 := XP0.out.cell
  replace XP1 : Hid (Bx w6 (w.heap.size + 1) s1) := XP1.out.kept b
  replace cXP1 : w6.cell? ⟨(w.heap.size + 1), 0, none⟩ = some s1 := XP1.out.cell
  replace XS0 : Hid (Bx w6 rF (.slice rra R.length rrc)) := XS0.out.kept b
  replace cXS0 : w6.cell? ⟨rF, 0, none⟩ = some (.slice rra R.length rrc) := XS0.out.cell
  have XX0 : Hid (Bx w6 w5.heap.size (.slice x0a A0.length x0c)) := x
  have cXX0 : w6.cell? ⟨w5.heap.size, 0, none⟩ = some (.slice x0a A0.length x0c) := XX0.out.cell
  have LXX0 : Hid (w5.heap.size < w6.heap.size) := XX0.out.lt
  clear b hw x
  refine (toW_any ⟨_, rfl, (R1.out.ls (by have := Zw1.out; have := Zw2.out; have := Zw3.out; have := Zw4.out; have := Zw5.out; have := Zw6.out; omega))⟩ (by omega)).mono ?_
  rintro e w7 ⟨_, rfl, ⟨x1, rfl, o⟩, b⟩
  obtain ⟨x1a, x1c, rfl⟩ := o.shape
  have Zw7 : Hid (w6.heap.size ≤ w7.heap.size) := b.size
  replace B0 : Hid (Below w.heap.size w w7) := B0.out.trans (b.mono (by have := Zw1.out; have := Zw2.out; have := Zw3.out; have := Zw4.out; have := Zw5.out; have := Zw6.out; omega))
  replace R0 : Hid (Rd w7 w.heap.size s0 A0) := R0.out.below b (by have := Zw1.out; have := Zw2.out; have := Zw3.out; have := Zw4.out; have := Zw5.out; have := Zw6.out; omega)
  replace R1 : Hid (Rd w7 w.heap.size s1 A1) := R1.out.below b (by have := Zw1.out; have := Zw2.out; have := Zw3.out; have := Zw4.out; have := Zw5.out; have := Zw6.out; omega)
  replace Or0 : Hid (Rd w7 w4.heap.size (.slice rra R.length rrc) R) := Or0.out.below b (by have := Zw5.out; have := Zw6.out; omega)
  replace Ox0 : Hid (Own w7 w4.heap.size w5.heap.size (.slice x0a A0.length x0c) A0) := Ox0.out.below b (by have := Zw6.out; omega)
  replace XP0 : Hid (Bx w7 w.heap.size s0) := XP0.out.kept b
  replace cXP0 : w7.cell? ⟨w.heap.size, 0, none⟩ = some s0 := XP0.out.cell
  replace XP1 : Hid (Bx w7 (w.heap.size + 1) s1) := XP1.out.kept b
  replace cXP1 : w7.cell? ⟨(w.heap.size + 1), 0, none⟩ = some s1 := XP1.out.cell
  replace XS0 : Hid (Bx w7 rF (.slice rra R.length rrc)) := XS0.out.kept b
  replace cXS0 : w7.cell? ⟨rF, 0, none⟩ = some (.slice rra R.length rrc) := XS0.out.cell
  replace XX0 : Hid (Bx w7 w5.heap.size (.slice x0a A0.length x0c)) := XX0.out.kept b
  replace cXX0 : w7.cell? ⟨w5.heap.size, 0, none⟩ = some (.slice x0a A0.length x0c) := XX0.out.cell
  have Ox1 : Hid (Own w7 w6.heap.size w7.heap.size (.slice x1a A1.length x1c) A1) := o
  clear o b
  have dXP0 : (w7.alloc (.cells #[(.slice x1a A1.length x1c)] 26)).cell? ⟨w.heap.size, 0, none⟩ = some s0 := (XP0.out.alloc _).cell
  have dXP1 : (w7.alloc (.cells #[(.slice x1a A1.length x1c)] 26)).cell? ⟨(w.heap.size + 1), 0, none⟩ = some s1 := (XP1.out.alloc _).cell
  have dXS0 : (w7.alloc (.cells #[(.slice x1a A1.length x1c)] 26)).cell? ⟨rF, 0, none⟩ = some (.slice rra R.length rrc) := (XS0.out.alloc _).cell
  have dXX0 : (w7.alloc (.cells #[(.slice x1a A1.length x1c)] 26)).cell? ⟨w5.heap.size, 0, none⟩ = some (.slice x0a A0.length x0c) := (XX0.out.alloc _).cell
  go_wp2_with fail
  clear dXP0 dXP1 dXS0 dXX0
  obtain ⟨w8, hw⟩ : ∃ x, x = w7.alloc (.cells #[(.slice x1a A1.length x1c)] 26) := ⟨_, rfl⟩
  rw [← hw]
  have b : Below w7.heap.size w7 w8 := by rw [hw]; exact new1 _ _
  have x : Bx w8 w7.heap.size (.slice x1a A1.length x1c) := by rw [hw]; exact Bx.new _ _ _
  have Zw8 : Hid (w7.heap.size ≤ w8.heap.size) := b.size
  replace B0 : Hid (Below w.heap.size w w8) := B0.out.trans (b.mono (by have := Zw1.out; have := Zw2.out; have := Zw3.out; have := Zw4.out; have := Zw5.out; have := Zw6.out; have := Zw7.out; omega))
  replace R0 : Hid (Rd w8 w.heap.size s0 A0) := R0.out.below b (by have := Zw1.out; have := Zw2.out; have := Zw3.out; have := Zw4.out; have := Zw5.out; have := Zw6.out; have := Zw7.out; omega)
  replace R1 : Hid (Rd w8 w.heap.size s1 A1) := R1.out.below b (by have := Zw1.out; have := Zw2.out; have := Zw3.out; have := Zw4.out; have := Zw5.out; have := Zw6.out; have := Zw7.out; omega)
  replace Or0 : Hid (Rd w8 w4.heap.size (.slice rra R.length rrc) R) := Or0.out.below b (by have := Zw5.out; have := Zw6.out; have := Zw7.out; omega)
  replace Ox0 : Hid (Own w8 w4.heap.size w5.heap.size (.slice x0a A0.length x0c) A0) := Ox0.out.below b (by have := Zw6.out; have := Zw7.out; omega)
  replace Ox1 : Hid (Own w8 w6.heap.size w7.heap.size (.slice x1a A1.length x1c) A1) := Ox1.out.below b (Nat.le_refl _)
  replace XP0 : Hid (Bx w8 w.heap.size s0) := XP0.out.kept b
  replace cXP0 : w8.cell? ⟨w.heap.size, 0, none⟩ = some s0 := XP0.out.cell
  replace XP1 : Hid (Bx w8 (w.heap.size + 1) s1) := XP1.out.kept b
  replace cXP1 : w8.cell? ⟨(w.heap.size + 1), 0, none⟩ = some s1 := XP1.out.cell
  replace XS0 : Hid (Bx w8 rF (.slice rra R.length rrc)) := XS0.out.kept b
  replace cXS0 : w8.cell? ⟨rF, 0, none⟩ = some (.slice rra R.length rrc) := XS0.out.cell
  replace XX0 : Hid (Bx w8 w5.heap.size (.slice x0a A0.length x0c)) := XX0.out.kept b
  replace cXX0 : w8.cell? ⟨w5.heap.size, 0, none⟩ = some (.slice x0a A0.length x0c) := XX0.out.cell
  have XX1 : Hid (Bx w8 w7.heap.size (.slice x1a A1.length x1c)) := x
  have cXX1 : w8.cell? ⟨w7.heap.size, 0, none⟩ = some (.slice x1a A1.length x1c) := XX1.out.cell
  have LXX1 : Hid (w7.heap.size < w8.heap.size) := XX1.out.lt
  clear b hw x
  refine (HI.out w8 (.slice x0a A0.length x0c) (.slice x1a A1.length x1c) (Ox0.out.rd.ls (by have := Zw6.out; have := Zw7.out; have := Zw8.out; omega)) (Ox1.out.rd.ls (by have := Zw8.out; omega))).mono ?_
  rintro e w9 ⟨_, rfl, ⟨g0, rfl, o0⟩, b⟩
  obtain ⟨g0a, g0c, rfl⟩ := o0.shape
  have Zw9 : Hid (w8.heap.size ≤ w9.heap.size) := b.size
  replace B0 : Hid (Below w.heap.size w w9) := B0.out.trans (b.mono (by have := Zw1.out; have := Zw2.out; have := Zw3.out; have := Zw4.out; have := Zw5.out; have := Zw6.out; have := Zw7.out; have := Zw8.out; omega))
  replace R0 : Hid (Rd w9 w.heap.size s0 A0) := R0.out.below b (by have := Zw1.out; have := Zw2.out; have := Zw3.out; have := Zw4.out; have := Zw5.out; have := Zw6.out; have := Zw7.out; have := Zw8.out; omega)
  replace R1 : Hid (Rd w9 w.heap.size s1 A1) := R1.out.below b (by have := Zw1.out; have := Zw2.out; have := Zw3.out; have := Zw4.out; have := Zw5.out; have := Zw6.out; have := Zw7.out; have := Zw8.out; omega)
  replace Or0 : Hid (Rd w9 w4.heap.size (.slice rra R.length rrc) R) := Or0.out.below b (by have := Zw5.out; have := Zw6.out; have := Zw7.out; have := Zw8.out; omega)
  replace Ox0 : Hid (Own w9 w4.heap.size w5.heap.size (.slice x0a A0.length x0c) A0) := Ox0.out.below b (by have := Zw6.out; have := Zw7.out; have := Zw8.out; omega)
  replace Ox1 : Hid (Own w9 w6.heap.size w7.heap.size (.slice x1a A1.length x1c) A1) := Ox1.out.below b (by have := Zw8.out; omega)
  replace XP0 : Hid (Bx w9 w.heap.size s0) := XP0.out.kept b
  replace cXP0 : w9.cell? ⟨w.heap.size, 0, none⟩ = some s0 := XP0.out.cell
  replace XP1 : Hid (Bx w9 (w.heap.size + 1) s1) := XP1.out.kept b
  replace cXP1 : w9.cell? ⟨(w.heap.size + 1), 0, none⟩ = some s1 := XP1.out.cell
  replace XS0 : Hid (Bx w9 rF (.slice rra R.length rrc)) := XS0.out.kept b
  replace cXS0 : w9.cell? ⟨rF, 0, none⟩ = some (.slice rra R.length rrc) := XS0.out.cell
  replace XX0 : Hid (Bx w9 w5.heap.size (.slice x0a A0.length x0c)) := XX0.out.kept b
  replace cXX0 : w9.cell? ⟨w5.heap.size, 0, none⟩ = some (.slice x0a A0.length x0c) := XX0.out.cell
  replace XX1 : Hid (Bx w9 w7.heap.size (.slice x1a A1.length x1c)) := XX1.out.kept b
  replace cXX1 : w9.cell? ⟨w7.heap.size, 0, none⟩ = some (.slice x1a A1.length x1c) := XX1.out.cell
  have Og0 : Hid (Own w9 w8.heap.size w9.heap.size (.slice g0a R.length g0c) R) := o0
  clear b o0
  have dXP0 : (w9.alloc (.cells #[(.slice g0a R.length g0c)] 26)).cell? ⟨w.heap.size, 0, none⟩ = some s0 := (XP0.out.alloc _).cell
  have dXP1 : (w9.alloc (.cells #[(.slice g0a R.length g0c)] 26)).cell? ⟨(w.heap.size + 1), 0, none⟩ = some s1 := (XP1.out.alloc _).cell
  have dXS0 : (w9.alloc (.cells #[(.slice g0a R.length g0c)] 26)).cell? ⟨rF, 0, none⟩ = some (.slice rra R.length rrc) := (XS0.out.alloc _).cell
  have dXX0 : (w9.alloc (.cells #[(.slice g0a R.length g0c)] 26)).cell? ⟨w5.heap.size, 0, none⟩ = some (.slice x0a A0.length x0c) := (XX0.out.alloc _).cell
  have dXX1 : (w9.alloc (.cells #[(.slice g0a R.length g0c)] 26)).cell? ⟨w7.heap.size, 0, none⟩ = some (.slice x1a A1.length x1c) := (XX1.out.alloc _).cell
  go_wp2_with fail
  clear dXP0 dXP1 dXS0 dXX0 dXX1
  obtain ⟨w10, hw⟩ : ∃ x, x = w9.alloc (.cells #[(.slice g0a R.length g0c)] 26) := ⟨_, rfl⟩
  rw [← hw]
  have b : Below w9.heap.size w9 w10 := by rw [hw]; exact new1 _ _
  have x : Bx w10 w9.heap.size (.slice g0a R.length g0c) := by rw [hw]; exact Bx.new _ _ _
  have Zw10 : Hid (w9.heap.size ≤ w10.heap.size) := b.size
  replace B0 : Hid (Below w.heap.size w w10) := B0.out.trans (b.mono (by have := Zw1.out; have := Zw2.out; have := Zw3.out; have := Zw4.out; have := Zw5.out; have := Zw6.out; have := Zw7.out; have := Zw8.out; have := Zw9.out; omega))
  replace R0 : Hid (Rd w10 w.heap.size s0 A0) := R0.out.below b (by have := Zw1.out; have := Zw2.out; have := Zw3.out; have := Zw4.out; have := Zw5.out; have := Zw6.out; have := Zw7.out; have := Zw8.out; have := Zw9.out; omega)
  replace R1 : Hid (Rd w10 w.heap.size s1 A1) := R1.out.below b (by have := Zw1.out; have := Zw2.out; have := Zw3.out; have := Zw4.out; have := Zw5.out; have := Zw6.out; have := Zw7.out; have := Zw8.out; have := Zw9.out; omega)
  replace Or0 : Hid (Rd w10 w4.heap.size (.slice rra R.length rrc) R) := Or0.out.below b (by have := Zw5.out; have := Zw6.out; have := Zw7.out; have := Zw8.out; have := Zw9.out; omega)
  replace Ox0 : Hid (Own w10 w4.heap.size w5.heap.size (.slice x0a A0.length x0c) A0) := Ox0.out.below b (by have := Zw6.out; have := Zw7.out; have := Zw8.out; have := Zw9.out; omega)
  replace Ox1 : Hid (Own w10 w6.heap.size w7.heap.size (.slice x1a A1.length x1c) A1) := Ox1.out.below b (by have := Zw8.out; have := Zw9.out; omega)
  replace Og0 : Hid (Own w10 w8.heap.size w9.heap.size (.slice g0a R.length g0c) R) := Og0.out.below b (Nat.le_refl _)
  replace XP0 : Hid (Bx w10 w.heap.size s0) := XP0.out.kept b
  replace cXP0 : w10.cell? ⟨w.heap.size, 0, none⟩ = some s0 := XP0.out.cell
  replace XP1 : Hid (Bx w10 (w.heap.size + 1) s1) := XP1.out.kept b
  replace cXP1 : w10.cell? ⟨(w.heap.size + 1), 0, none⟩ = some s1 := XP1.out.cell
  replace XS0 : Hid (Bx w10 rF (.slice rra R.length rrc)) := XS0.out.kept b
  replace cXS0 : w10.cell? ⟨rF, 0, none⟩ = some (.slice rra R.length rrc) := XS0.out.cell
  replace XX0 : Hid (Bx w10 w5.heap.size (.slice x0a A0.length x0c)) := XX0.out.kept b
  replace cXX0 : w10.cell? ⟨w5.heap.size, 0, none⟩ = some (.slice x0a A0.length x0c) := XX0.out.cell
  replace XX1 : Hid (Bx w10 w7.heap.size (.slice x1a A1.length x1c)) := XX1.out.kept b
  replace cXX1 : w10.cell? ⟨w7.heap.size, 0, none⟩ = some (.slice x1a A1.length x1c) := XX1.out.cell
  have XG0 : Hid (Bx w10 w9.heap.size (.slice g0a R.length g0c)) := x
  have cXG0 : w10.cell? ⟨w9.heap.size, 0, none⟩ = some (.slice g0a R.length g0c) := XG0.out.cell
  have LXG0 : Hid (w9.heap.size < w10.heap.size) := XG0.out.lt
  clear b hw x
  refine (eqW_any ⟨_, rfl, (Og0.out.rd.ls (by have := Zw10.out; omega))⟩ ⟨_, rfl, (Or0.out.ls (by have := Zw5.out; have := Zw6.out; have := Zw7.out; have := Zw8.out; have := Zw9.out; have := Zw10.out; omega))⟩).mono ?_
  rintro e w11 ⟨rfl, b⟩
  have Zw11 : Hid (w10.heap.size ≤ w11.heap.size) := b.size
  replace B0 : Hid (Below w.heap.size w w11) := B0.out.trans (b.mono (by have := Zw1.out; have := Zw2.out; have := Zw3.out; have := Zw4.out; have := Zw5.out; have := Zw6.out; have := Zw7.out; have := Zw8.out; have := Zw9.out; have := Zw10.out; omega))
  replace R0 : Hid (Rd w11 w.heap.size s0 A0) := R0.out.below b (by have := Zw1.out; have := Zw2.out; have := Zw3.out; have := Zw4.out; have := Zw5.out; have := Zw6.out; have := Zw7.out; have := Zw8.out; have := Zw9.out; have := Zw10.out; omega)
  replace R1 : Hid (Rd w11 w.heap.size s1 A1) := R1.out.below b (by have := Zw1.out; have := Zw2.out; have := Zw3.out; have := Zw4.out; have := Zw5.out; have := Zw6.out; have := Zw7.out; have := Zw8.out; have := Zw9.out; have := Zw10.out; omega)
  replace Or0 : Hid (Rd w11 w4.heap.size (.slice rra R.length rrc) R) := Or0.out.below b (by have := Zw5.out; have := Zw6.out; have := Zw7.out; have := Zw8.out; have := Zw9.out; have := Zw10.out; omega)
  replace Ox0 : Hid (Own w11 w4.heap.size w5.heap.size (.slice x0a A0.length x0c) A0) := Ox0.out.below b (by have := Zw6.out; have := Zw7.out; have := Zw8.out; have := Zw9.out; have := Zw10.out; omega)
  replace Ox1 : Hid (Own w11 w6.heap.size w7.heap.size (.slice x1a A1.length x1c) A1) := Ox1.out.below b (by have := Zw8.out; have := Zw9.out; have := Zw10.out; omega)
  replace Og0 : Hid (Own w11 w8.heap.size w9.heap.size (.slice g0a R.length g0c) R) := Og0.out.below b (by have := Zw10.out; omega)
  replace XP0 : Hid (Bx w11 w.heap.size s0) := XP0.out.kept b
  replace cXP0 : w11.cell? ⟨w.heap.size, 0, none⟩ = some s0 := XP0.out.cell
  replace XP1 : Hid (Bx w11 (w.heap.size + 1) s1) := XP1.out.kept b
  replace cXP1 : w11.cell? ⟨(w.heap.size + 1), 0, none⟩ = some s1 := XP1.out.cell
  replace XS0 : Hid (Bx w11 rF (.slice rra R.length rrc)) := XS0.out.kept b
  replace cXS0 : w11.cell? ⟨rF, 0, none⟩ = some (.slice rra R.length rrc) := XS0.out.cell
  replace XX0 : Hid (Bx w11 w5.heap.size (.slice x0a A0.length x0c)) := XX0.out.kept b
  replace cXX0 : w11.cell? ⟨w5.heap.size, 0, none⟩ = some (.slice x0a A0.length x0c) := XX0.out.cell
  replace XX1 : Hid (Bx w11 w7.heap.size (.slice x1a A1.length x1c)) := XX1.out.kept b
  replace cXX1 : w11.cell? ⟨w7.heap.size, 0, none⟩ = some (.slice x1a A1.length x1c) := XX1.out.cell
  replace XG0 : Hid (Bx w11 w9.heap.size (.slice g0a R.length g0c)) := XG0.out.kept b
  replace cXG0 : w11.cell? ⟨w9.heap.size, 0, none⟩ = some (.slice g0a R.length g0c) := XG0.out.cell
  clear b
  go_wp2_with fail
  have bd : Hid (Below w11.heap.size w11 w11.drew) := (Below.refl _ _).drew
  go_region_held3 (fun w' => w'.cell? ⟨w5.heap.size, 0, none⟩ = some (.slice x0a A0.length x0c) ∧ w'.cell? ⟨w.heap.size, 0, none⟩ = some s0 ∧ Hid (Below w11.heap.size w11 w'))
    (first | exact ⟨(XX0.out.kept bd.out).cell, (XP0.out.kept bd.out).cell, bd⟩ | exact ⟨(XX0.out.kept by1.out).cell, (XP0.out.kept by1.out).cell, by1⟩ | exact ⟨(XX0.out.kept by2.out).cell, (XP0.out.kept by2.out).cell, by2⟩)
    (first
      | (go_at_call 9; refine (toW_any ⟨_, rfl, ((R0.out.ls (by have := Zw1.out; have := Zw2.out; have := Zw3.out; have := Zw4.out; have := Zw5.out; have := Zw6.out; have := Zw7.out; have := Zw8.out; have := Zw9.out; have := Zw10.out; have := Zw11.out; omega)).below bd.out)⟩ (by omega)).mono ?_; rintro e wy ⟨_, rfl, ⟨y, rfl, oy⟩, b⟩; have by1 : Hid (Below w11.heap.size w11 wy) := bd.out.trans b; have oy1 : Hid (Ls wy y A0) := oy.ls (Nat.le_refl _); clear oy b)
      | (go_at_call 11; refine (eqW_any ⟨_, rfl, ((Ox0.out.rd.ls (by have := Zw6.out; have := Zw7.out; have := Zw8.out; have := Zw9.out; have := Zw10.out; have := Zw11.out; omega)).below by1.out)⟩ ⟨_, rfl, oy1.out⟩).mono ?_; rintro e w12 ⟨rfl, b⟩; have by2 : Hid (Below w11.heap.size w11 w12) := by1.out.trans (b.mono by1.out.size); clear b))
  have b := by2.out
  have Zw12 : Hid (w11.heap.size ≤ w12.heap.size) := b.size
  replace B0 : Hid (Below w.heap.size w w12) := B0.out.trans (b.mono (by have := Zw1.out; have := Zw2.out; have := Zw3.out; have := Zw4.out; have := Zw5.out; have := Zw6.out; have := Zw7.out; have := Zw8.out; have := Zw9.out; have := Zw10.out; have := Zw11.out; omega))
  replace R0 : Hid (Rd w12 w.heap.size s0 A0) := R0.out.below b (by have := Zw1.out; have := Zw2.out; have := Zw3.out; have := Zw4.out; have := Zw5.out; have := Zw6.out; have := Zw7.out; have := Zw8.out; have := Zw9.out; have := Zw10.out; have := Zw11.out; omega)
  replace R1 : Hid (Rd w12 w.heap.size s1 A1) := R1.out.below b (by have := Zw1.out; have := Zw2.out; have := Zw3.out; have := Zw4.out; have := Zw5.out; have := Zw6.out; have := Zw7.out; have := Zw8.out; have := Zw9.out; have := Zw10.out; have := Zw11.out; omega)
  replace Or0 : Hid (Rd w12 w4.heap.size (.slice rra R.length rrc) R) := Or0.out.below b (by have := Zw5.out; have := Zw6.out; have := Zw7.out; have := Zw8.out; have := Zw9.out; have := Zw10.out; have := Zw11.out; omega)
  replace Ox0 : Hid (Own w12 w4.heap.size w5.heap.size (.slice x0a A0.length x0c) A0) := Ox0.out.below b (by have := Zw6.out; have := Zw7.out; have := Zw8.out; have := Zw9.out; have := Zw10.out; have := Zw11.out; omega)
  replace Ox1 : Hid (Own w12 w6.heap.size w7.heap.size (.slice x1a A1.length x1c) A1) := Ox1.out.below b (by have := Zw8.out; have := Zw9.out; have := Zw10.out; have := Zw11.out; omega)
  replace Og0 : Hid (Own w12 w8.heap.size w9.heap.size (.slice g0a R.length g0c) R) := Og0.out.below b (by have := Zw10.out; have := Zw11.out; omega)
  replace XP0 : Hid (Bx w12 w.heap.size s0) := XP0.out.kept b
  replace cXP0 : w12.cell? ⟨w.heap.size, 0, none⟩ = some s0 := XP0.out.cell
  replace XP1 : Hid (Bx w12 (w.heap.size + 1) s1) := XP1.out.kept b
  replace cXP1 : w12.cell? ⟨(w.heap.size + 1), 0, none⟩ = some s1 := XP1.out.cell
  replace XS0 : Hid (Bx w12 rF (.slice rra R.length rrc)) := XS0.out.kept b
  replace cXS0 : w12.cell? ⟨rF, 0, none⟩ = some (.slice rra R.length rrc) := XS0.out.cell
  replace XX0 : Hid (Bx w12 w5.heap.size (.slice x0a A0.length x0c)) := XX0.out.kept b
  replace cXX0 : w12.cell? ⟨w5.heap.size, 0, none⟩ = some (.slice x0a A0.length x0c) := XX0.out.cell
  replace XX1 : Hid (Bx w12 w7.heap.size (.slice x1a A1.length x1c)) := XX1.out.kept b
  replace cXX1 : w12.cell? ⟨w7.heap.size, 0, none⟩ = some (.slice x1a A1.length x1c) := XX1.out.cell
  replace XG0 : Hid (Bx w12 w9.heap.size (.slice g0a R.length g0c)) := XG0.out.kept b
  replace cXG0 : w12.cell? ⟨w9.heap.size, 0, none⟩ = some (.slice g0a R.length g0c) := XG0.out.cell
  clear b bd by1 by2 oy1
  go_wp2_with fail
  have bd : Hid (Below w12.heap.size w12 w12.drew) := (Below.refl _ _).drew
  go_region_held3 (fun w' => w'.cell? ⟨w7.heap.size, 0, none⟩ = some (.slice x1a A1.length x1c) ∧ w'.cell? ⟨(w.heap.size + 1), 0, none⟩ = some s1 ∧ Hid (Below w12.heap.size w12 w'))
    (first | exact ⟨(XX1.out.kept bd.out).cell, (XP1.out.kept bd.out).cell, bd⟩ | exact ⟨(XX1.out.kept by1.out).cell, (XP1.out.kept by1.out).cell, by1⟩ | exact ⟨(XX1.out.kept by2.out).cell, (XP1.out.kept by2.out).cell, by2⟩)
    (first
      | (go_at_call 9; refine (toW_any ⟨_, rfl, ((R1.out.ls (by have := Zw1.out; have := Zw2.out; have := Zw3.out; have := Zw4.out; have := Zw5.out; have := Zw6.out; have := Zw7.out; have := Zw8.out; have := Zw9.out; have := Zw10.out; have := Zw11.out; have := Zw12.out; omega)).below bd.out)⟩ (by omega)).mono ?_; rintro e wy ⟨_, rfl, ⟨y, rfl, oy⟩, b⟩; have by1 : Hid (Below w12.heap.size w12 wy) := bd.out.trans b; have oy1 : Hid (Ls wy y A1) := oy.ls (Nat.le_refl _); clear oy b)
      | (go_at_call 11; refine (eqW_any ⟨_, rfl, ((Ox1.out.rd.ls (by have := Zw8.out; have := Zw9.out; have := Zw10.out; have := Zw11.out; have := Zw12.out; omega)).below by1.out)⟩ ⟨_, rfl, oy1.out⟩).mono ?_; rintro e w13 ⟨rfl, b⟩; have by2 : Hid (Below w12.heap.size w12 w13) := by1.out.trans (b.mono by1.out.size); clear b))
  have b := by2.out
  have Zw13 : Hid (w12.heap.size ≤ w13.heap.size) := b.size
  replace B0 : Hid (Below w.heap.size w w13) := B0.out.trans (b.mono (by have := Zw1.out; have := Zw2.out; have := Zw3.out; have := Zw4.out; have := Zw5.out; have := Zw6.out; have := Zw7.out; have := Zw8.out; have := Zw9.out; have := Zw10.out; have := Zw11.out; have := Zw12.out; omega))
  replace R0 : Hid (Rd w13 w.heap.size s0 A0) := R0.out.below b (by have := Zw1.out; have := Zw2.out; have := Zw3.out; have := Zw4.out; have := Zw5.out; have := Zw6.out; have := Zw7.out; have := Zw8.out; have := Zw9.out; have := Zw10.out; have := Zw11.out; have := Zw12.out; omega)
  replace R1 : Hid (Rd w13 w.heap.size s1 A1) := R1.out.below b (by have := Zw1.out; have := Zw2.out; have := Zw3.out; have := Zw4.out; have := Zw5.out; have := Zw6.out; have := Zw7.out; have := Zw8.out; have := Zw9.out; have := Zw10.out; have := Zw11.out; have := Zw12.out; omega)
  replace Or0 : Hid (Rd w13 w4.heap.size (.slice rra R.length rrc) R) := Or0.out.below b (by have := Zw5.out; have := Zw6.out; have := Zw7.out; have := Zw8.out; have := Zw9.out; have := Zw10.out; have := Zw11.out; have := Zw12.out; omega)
  replace Ox0 : Hid (Own w13 w4.heap.size w5.heap.size (.slice x0a A0.length x0c) A0) := Ox0.out.below b (by have := Zw6.out; have := Zw7.out; have := Zw8.out; have := Zw9.out; have := Zw10.out; have := Zw11.out; have := Zw12.out; omega)
  replace Ox1 : Hid (Own w13 w6.heap.size w7.heap.size (.slice x1a A1.length x1c) A1) := Ox1.out.below b (by have := Zw8.out; have := Zw9.out; have := Zw10.out; have := Zw11.out; have := Zw12.out; omega)
  replace Og0 : Hid (Own w13 w8.heap.size w9.heap.size (.slice g0a R.length g0c) R) := Og0.out.below b (by have := Zw10.out; have := Zw11.out; have := Zw12.out; omega)
  replace XP0 : Hid (Bx w13 w.heap.size s0) := XP0.out.kept b
  replace cXP0 : w13.cell? ⟨w.heap.size, 0, none⟩ = some s0 := XP0.out.cell
  replace XP1 : Hid (Bx w13 (w.heap.size + 1) s1) := XP1.out.kept b
  replace cXP1 : w13.cell? ⟨(w.heap.size + 1), 0, none⟩ = some s1 := XP1.out.cell
  replace XS0 : Hid (Bx w13 rF (.slice rra R.length rrc)) := XS0.out.kept b
  replace cXS0 : w13.cell? ⟨rF, 0, none⟩ = some (.slice rra R.length rrc) := XS0.out.cell
  replace XX0 : Hid (Bx w13 w5.heap.size (.slice x0a A0.length x0c)) := XX0.out.kept b
  replace cXX0 : w13.cell? ⟨w5.heap.size, 0, none⟩ = some (.slice x0a A0.length x0c) := XX0.out.cell
  replace XX1 : Hid (Bx w13 w7.heap.size (.slice x1a A1.length x1c)) := XX1.out.kept b
  replace cXX1 : w13.cell? ⟨w7.heap.size, 0, none⟩ = some (.slice x1a A1.length x1c) := XX1.out.cell
  replace XG0 : Hid (Bx w13 w9.heap.size (.slice g0a R.length g0c)) := XG0.out.kept b
  replace cXG0 : w13.cell? ⟨w9.heap.size, 0, none⟩ = some (.slice g0a R.length g0c) := XG0.out.cell
  clear b bd by1 by2 oy1
  go_wp2_with fail
  refine (markW_any ⟨_, rfl, Ox0.out⟩ (by omega) (by omega) (by omega)).mono ?_
  rintro e w14 ⟨rfl, o, t⟩
  clear Ox0
  have Zw14 : Hid (w13.heap.size ≤ w14.heap.size) := t.size
  replace B0 : Hid (Below w.heap.size w w14) := B0.out.trans (t.below (by have := Zw1.out; have := Zw2.out; have := Zw3.out; have := Zw4.out; omega) (by have := Zw1.out; have := Zw2.out; have := Zw3.out; have := Zw4.out; have := Zw5.out; have := Zw6.out; have := Zw7.out; have := Zw8.out; have := Zw9.out; have := Zw10.out; have := Zw11.out; have := Zw12.out; have := Zw13.out; omega))
  replace R0 : Hid (Rd w14 w.heap.size s0 A0) := R0.out.turned t (by have := Zw1.out; have := Zw2.out; have := Zw3.out; have := Zw4.out; omega) (by have := Zw1.out; have := Zw2.out; have := Zw3.out; have := Zw4.out; have := Zw5.out; have := Zw6.out; have := Zw7.out; have := Zw8.out; have := Zw9.out; have := Zw10.out; have := Zw11.out; have := Zw12.out; have := Zw13.out; omega)
  replace R1 : Hid (Rd w14 w.heap.size s1 A1) := R1.out.turned t (by have := Zw1.out; have := Zw2.out; have := Zw3.out; have := Zw4.out; omega) (by have := Zw1.out; have := Zw2.out; have := Zw3.out; have := Zw4.out; have := Zw5.out; have := Zw6.out; have := Zw7.out; have := Zw8.out; have := Zw9.out; have := Zw10.out; have := Zw11.out; have := Zw12.out; have := Zw13.out; omega)
  replace Or0 : Hid (Rd w14 w4.heap.size (.slice rra R.length rrc) R) := Or0.out.turned t (Nat.le_refl _) (by have := Zw5.out; have := Zw6.out; have := Zw7.out; have := Zw8.out; have := Zw9.out; have := Zw10.out; have := Zw11.out; have := Zw12.out; have := Zw13.out; omega)
  replace Ox1 : Hid (Own w14 w6.heap.size w7.heap.size (.slice x1a A1.length x1c) A1) := Ox1.out.turned t (.inr (by have := Zw6.out; omega))
  replace Og0 : Hid (Own w14 w8.heap.size w9.heap.size (.slice g0a R.length g0c) R) := Og0.out.turned t (.inr (by have := Zw6.out; have := Zw7.out; have := Zw8.out; omega))
  replace XP0 : Hid (Bx w14 w.heap.size s0) := XP0.out.turned t (by have := Zw1.out; have := Zw2.out; have := Zw3.out; have := Zw4.out; have := Zw5.out; have := Zw6.out; have := Zw7.out; have := Zw8.out; have := Zw9.out; have := Zw10.out; have := Zw11.out; have := Zw12.out; have := Zw13.out; have := LXP0.out; omega)
  replace cXP0 : w14.cell? ⟨w.heap.size, 0, none⟩ = some s0 := XP0.out.cell
  replace XP1 : Hid (Bx w14 (w.heap.size + 1) s1) := XP1.out.turned t (by have := Zw1.out; have := Zw2.out; have := Zw3.out; have := Zw4.out; have := Zw5.out; have := Zw6.out; have := Zw7.out; have := Zw8.out; have := Zw9.out; have := Zw10.out; have := Zw11.out; have := Zw12.out; have := Zw13.out; have := LXP1.out; omega)
  replace cXP1 : w14.cell? ⟨(w.heap.size + 1), 0, none⟩ = some s1 := XP1.out.cell
  replace XS0 : Hid (Bx w14 rF (.slice rra R.length rrc)) := XS0.out.turned t (by have := Zw1.out; have := Zw2.out; have := Zw3.out; have := Zw4.out; have := Zw5.out; have := Zw6.out; have := Zw7.out; have := Zw8.out; have := Zw9.out; have := Zw10.out; have := Zw11.out; have := Zw12.out; have := Zw13.out; have := LXS0.out; have := GXS0.out; omega)
  replace cXS0 : w14.cell? ⟨rF, 0, none⟩ = some (.slice rra R.length rrc) := XS0.out.cell
  replace XX0 : Hid (Bx w14 w5.heap.size (.slice x0a A0.length x0c)) := XX0.out.turned t (by have := Zw1.out; have := Zw2.out; have := Zw3.out; have := Zw4.out; have := Zw5.out; have := Zw6.out; have := Zw7.out; have := Zw8.out; have := Zw9.out; have := Zw10.out; have := Zw11.out; have := Zw12.out; have := Zw13.out; have := LXX0.out; omega)
  replace cXX0 : w14.cell? ⟨w5.heap.size, 0, none⟩ = some (.slice x0a A0.length x0c) := XX0.out.cell
  replace XX1 : Hid (Bx w14 w7.heap.size (.slice x1a A1.length x1c)) := XX1.out.turned t (by have := Zw1.out; have := Zw2.out; have := Zw3.out; have := Zw4.out; have := Zw5.out; have := Zw6.out; have := Zw7.out; have := Zw8.out; have := Zw9.out; have := Zw10.out; have := Zw11.out; have := Zw12.out; have := Zw13.out; have := LXX1.out; omega)
  replace cXX1 : w14.cell? ⟨w7.heap.size, 0, none⟩ = some (.slice x1a A1.length x1c) := XX1.out.cell
  replace XG0 : Hid (Bx w14 w9.heap.size (.slice g0a R.length g0c)) := XG0.out.turned t (by have := Zw1.out; have := Zw2.out; have := Zw3.out; have := Zw4.out; have := Zw5.out; have := Zw6.out; have := Zw7.out; have := Zw8.out; have := Zw9.out; have := Zw10.out; have := Zw11.out; have := Zw12.out; have := Zw13.out; have := LXG0.out; omega)
  replace cXG0 : w14.cell? ⟨w9.heap.size, 0, none⟩ = some (.slice g0a R.length g0c) := XG0.out.cell
  obtain ⟨_, ho, o⟩ := o
  obtain rfl := agg_inj ho
  have Ox0 : Hid (Own w14 w4.heap.size w5.heap.size (.slice x0a A0.length x0c) (mk (1) A0.length)) := o
  clear o t
  go_wp2_with fail
  refine (markW_any ⟨_, rfl, Ox1.out⟩ (by omega) (by omega) (by omega)).mono ?_
  rintro e w15 ⟨rfl, o, t⟩
  clear Ox1
  have Zw15 : Hid (w14.heap.size ≤ w15.heap.size) := t.size
  replace B0 : Hid (Below w.heap.size w w15) := B0.out.trans (t.below (by have := Zw1.out; have := Zw2.out; have := Zw3.out; have := Zw4.out; have := Zw5.out; have := Zw6.out; omega) (by have := Zw1.out; have := Zw2.out; have := Zw3.out; have := Zw4.out; have := Zw5.out; have := Zw6.out; have := Zw7.out; have := Zw8.out; have := Zw9.out; have := Zw10.out; have := Zw11.out; have := Zw12.out; have := Zw13.out; have := Zw14.out; omega))
  replace R0 : Hid (Rd w15 w.heap.size s0 A0) := R0.out.turned t (by have := Zw1.out; have := Zw2.out; have := Zw3.out; have := Zw4.out; have := Zw5.out; have := Zw6.out; omega) (by have := Zw1.out; have := Zw2.out; have := Zw3.out; have := Zw4.out; have := Zw5.out; have := Zw6.out; have := Zw7.out; have := Zw8.out; have := Zw9.out; have := Zw10.out; have := Zw11.out; have := Zw12.out; have := Zw13.out; have := Zw14.out; omega)
  replace R1 : Hid (Rd w15 w.heap.size s1 A1) := R1.out.turned t (by have := Zw1.out; have := Zw2.out; have := Zw3.out; have := Zw4.out; have := Zw5.out; have := Zw6.out; omega) (by have := Zw1.out; have := Zw2.out; have := Zw3.out; have := Zw4.out; have := Zw5.out; have := Zw6.out; have := Zw7.out; have := Zw8.out; have := Zw9.out; have := Zw10.out; have := Zw11.out; have := Zw12.out; have := Zw13.out; have := Zw14.out; omega)
  replace Or0 : Hid (Rd w15 w4.heap.size (.slice rra R.length rrc) R) := Or0.out.turned t (by have := Zw5.out; have := Zw6.out; omega) (by have := Zw5.out; have := Zw6.out; have := Zw7.out; have := Zw8.out; have := Zw9.out; have := Zw10.out; have := Zw11.out; have := Zw12.out; have := Zw13.out; have := Zw14.out; omega)
  replace Og0 : Hid (Own w15 w8.heap.size w9.heap.size (.slice g0a R.length g0c) R) := Og0.out.turned t (.inr (by have := Zw8.out; omega))
  replace Ox0 : Hid (Own w15 w4.heap.size w5.heap.size (.slice x0a A0.length x0c) (mk (1) A0.length)) := Ox0.out.turned t (.inl (by have := Zw6.out; omega))
  replace XP0 : Hid (Bx w15 w.heap.size s0) := XP0.out.turned t (by have := Zw1.out; have := Zw2.out; have := Zw3.out; have := Zw4.out; have := Zw5.out; have := Zw6.out; have := Zw7.out; have := Zw8.out; have := Zw9.out; have := Zw10.out; have := Zw11.out; have := Zw12.out; have := Zw13.out; have := Zw14.out; have := LXP0.out; omega)
  replace cXP0 : w15.cell? ⟨w.heap.size, 0, none⟩ = some s0 := XP0.out.cell
  replace XP1 : Hid (Bx w15 (w.heap.size + 1) s1) := XP1.out.turned t (by have := Zw1.out; have := Zw2.out; have := Zw3.out; have := Zw4.out; have := Zw5.out; have := Zw6.out; have := Zw7.out; have := Zw8.out; have := Zw9.out; have := Zw10.out; have := Zw11.out; have := Zw12.out; have := Zw13.out; have := Zw14.out; have := LXP1.out; omega)
  replace cXP1 : w15.cell? ⟨(w.heap.size + 1), 0, none⟩ = some s1 := XP1.out.cell
  replace XS0 : Hid (Bx w15 rF (.slice rra R.length rrc)) := XS0.out.turned t (by have := Zw1.out; have := Zw2.out; have := Zw3.out; have := Zw4.out; have := Zw5.out; have := Zw6.out; have := Zw7.out; have := Zw8.out; have := Zw9.out; have := Zw10.out; have := Zw11.out; have := Zw12.out; have := Zw13.out; have := Zw14.out; have := LXS0.out; have := GXS0.out; omega)
  replace cXS0 : w15.cell? ⟨rF, 0, none⟩ = some (.slice rra R.length rrc) := XS0.out.cell
  replace XX0 : Hid (Bx w15 w5.heap.size (.slice x0a A0.length x0c)) := XX0.out.turned t (by have := Zw1.out; have := Zw2.out; have := Zw3.out; have := Zw4.out; have := Zw5.out; have := Zw6.out; have := Zw7.out; have := Zw8.out; have := Zw9.out; have := Zw10.out; have := Zw11.out; have := Zw12.out; have := Zw13.out; have := Zw14.out; have := LXX0.out; omega)
  replace cXX0 : w15.cell? ⟨w5.heap.size, 0, none⟩ = some (.slice x0a A0.length x0c) := XX0.out.cell
  replace XX1 : Hid (Bx w15 w7.heap.size (.slice x1a A1.length x1c)) := XX1.out.turned t (by have := Zw1.out; have := Zw2.out; have := Zw3.out; have := Zw4.out; have := Zw5.out; have := Zw6.out; have := Zw7.out; have := Zw8.out; have := Zw9.out; have := Zw10.out; have := Zw11.out; have := Zw12.out; have := Zw13.out; have := Zw14.out; have := LXX1.out; omega)
  replace cXX1 : w15.cell? ⟨w7.heap.size, 0, none⟩ = some (.slice x1a A1.length x1c) := XX1.out.cell
  replace XG0 : Hid (Bx w15 w9.heap.size (.slice g0a R.length g0c)) := XG0.out.turned t (by have := Zw1.out; have := Zw2.out; have := Zw3.out; have := Zw4.out; have := Zw5.out; have := Zw6.out; have := Zw7.out; have := Zw8.out; have := Zw9.out; have := Zw10.out; have := Zw11.out; have := Zw12.out; have := Zw13.out; have := Zw14.out; have := LXG0.out; omega)
  replace cXG0 : w15.cell? ⟨w9.heap.size, 0, none⟩ = some (.slice g0a R.length g0c) := XG0.out.cell
  obtain ⟨_, ho, o⟩ := o
  obtain rfl := agg_inj ho
  have Ox1 : Hid (Own w15 w6.heap.size w7.heap.size (.slice x1a A1.length x1c) (mk (1 + (A0.length : Int)) A1.length)) := o
  clear o t
  clear Ox0
  clear Ox1
  clear cXX0 XX0 LXX0
  clear cXX1 XX1 LXX1
  go_wp2_with fail
  refine (eqW_any ⟨_, rfl, (Og0.out.rd.ls (by have := Zw10.out; have := Zw11.out; have := Zw12.out; have := Zw13.out; have := Zw14.out; have := Zw15.out; omega))⟩ ⟨_, rfl, (Or0.out.ls (by have := Zw5.out; have := Zw6.out; have := Zw7.out; have := Zw8.out; have := Zw9.out; have := Zw10.out; have := Zw11.out; have := Zw12.out; have := Zw13.out; have := Zw14.out; have := Zw15.out; omega))⟩).mono ?_
  rintro e w16 ⟨rfl, b⟩
  have Zw16 : Hid (w15.heap.size ≤ w16.heap.size) := b.size
  replace B0 : Hid (Below w.heap.size w w16) := B0.out.trans (b.mono (by have := Zw1.out; have := Zw2.out; have := Zw3.out; have := Zw4.out; have := Zw5.out; have := Zw6.out; have := Zw7.out; have := Zw8.out; have := Zw9.out; have := Zw10.out; have := Zw11.out; have := Zw12.out; have := Zw13.out; have := Zw14.out; have := Zw15.out; omega))
  replace R0 : Hid (Rd w16 w.heap.size s0 A0) := R0.out.below b (by have := Zw1.out; have := Zw2.out; have := Zw3.out; have := Zw4.out; have := Zw5.out; have := Zw6.out; have := Zw7.out; have := Zw8.out; have := Zw9.out; have := Zw10.out; have := Zw11.out; have := Zw12.out; have := Zw13.out; have := Zw14.out; have := Zw15.out; omega)
  replace R1 : Hid (Rd w16 w.heap.size s1 A1) := R1.out.below b (by have := Zw1.out; have := Zw2.out; have := Zw3.out; have := Zw4.out; have := Zw5.out; have := Zw6.out; have := Zw7.out; have := Zw8.out; have := Zw9.out; have := Zw10.out; have := Zw11.out; have := Zw12.out; have := Zw13.out; have := Zw14.out; have := Zw15.out; omega)
  replace Or0 : Hid (Rd w16 w4.heap.size (.slice rra R.length rrc) R) := Or0.out.below b (by have := Zw5.out; have := Zw6.out; have := Zw7.out; have := Zw8.out; have := Zw9.out; have := Zw10.out; have := Zw11.out; have := Zw12.out; have := Zw13.out; have := Zw14.out; have := Zw15.out; omega)
  replace Og0 : Hid (Own w16 w8.heap.size w9.heap.size (.slice g0a R.length g0c) R) := Og0.out.below b (by have := Zw10.out; have := Zw11.out; have := Zw12.out; have := Zw13.out; have := Zw14.out; have := Zw15.out; omega)
  replace XP0 : Hid (Bx w16 w.heap.size s0) := XP0.out.kept b
  replace cXP0 : w16.cell? ⟨w.heap.size, 0, none⟩ = some s0 := XP0.out.cell
  replace XP1 : Hid (Bx w16 (w.heap.size + 1) s1) := XP1.out.kept b
  replace cXP1 : w16.cell? ⟨(w.heap.size + 1), 0, none⟩ = some s1 := XP1.out.cell
  replace XS0 : Hid (Bx w16 rF (.slice rra R.length rrc)) := XS0.out.kept b
  replace cXS0 : w16.cell? ⟨rF, 0, none⟩ = some (.slice rra R.length rrc) := XS0.out.cell
  replace XG0 : Hid (Bx w16 w9.heap.size (.slice g0a R.length g0c)) := XG0.out.kept b
  replace cXG0 : w16.cell? ⟨w9.heap.size, 0, none⟩ = some (.slice g0a R.length g0c) := XG0.out.cell
  clear b
  go_wp2_with fail
  refine (markW_any ⟨_, rfl, Og0.out⟩ (by omega) (by omega) (by omega)).mono ?_
  rintro e w17 ⟨rfl, o, t⟩
  clear Og0
  have Zw17 : Hid (w16.heap.size ≤ w17.heap.size) := t.size
  replace B0 : Hid (Below w.heap.size w w17) := B0.out.trans (t.below (by have := Zw1.out; have := Zw2.out; have := Zw3.out; have := Zw4.out; have := Zw5.out; have := Zw6.out; have := Zw7.out; have := Zw8.out; omega) (by have := Zw1.out; have := Zw2.out; have := Zw3.out; have := Zw4.out; have := Zw5.out; have := Zw6.out; have := Zw7.out; have := Zw8.out; have := Zw9.out; have := Zw10.out; have := Zw11.out; have := Zw12.out; have := Zw13.out; have := Zw14.out; have := Zw15.out; have := Zw16.out; omega))
  replace R0 : Hid (Rd w17 w.heap.size s0 A0) := R0.out.turned t (by have := Zw1.out; have := Zw2.out; have := Zw3.out; have := Zw4.out; have := Zw5.out; have := Zw6.out; have := Zw7.out; have := Zw8.out; omega) (by have := Zw1.out; have := Zw2.out; have := Zw3.out; have := Zw4.out; have := Zw5.out; have := Zw6.out; have := Zw7.out; have := Zw8.out; have := Zw9.out; have := Zw10.out; have := Zw11.out; have := Zw12.out; have := Zw13.out; have := Zw14.out; have := Zw15.out; have := Zw16.out; omega)
  replace R1 : Hid (Rd w17 w.heap.size s1 A1) := R1.out.turned t (by have := Zw1.out; have := Zw2.out; have := Zw3.out; have := Zw4.out; have := Zw5.out; have := Zw6.out; have := Zw7.out; have := Zw8.out; omega) (by have := Zw1.out; have := Zw2.out; have := Zw3.out; have := Zw4.out; have := Zw5.out; have := Zw6.out; have := Zw7.out; have := Zw8.out; have := Zw9.out; have := Zw10.out; have := Zw11.out; have := Zw12.out; have := Zw13.out; have := Zw14.out; have := Zw15.out; have := Zw16.out; omega)
  replace Or0 : Hid (Rd w17 w4.heap.size (.slice rra R.length rrc) R) := Or0.out.turned t (by have := Zw5.out; have := Zw6.out; have := Zw7.out; have := Zw8.out; omega) (by have := Zw5.out; have := Zw6.out; have := Zw7.out; have := Zw8.out; have := Zw9.out; have := Zw10.out; have := Zw11.out; have := Zw12.out; have := Zw13.out; have := Zw14.out; have := Zw15.out; have := Zw16.out; omega)
  replace XP0 : Hid (Bx w17 w.heap.size s0) := XP0.out.turned t (by have := Zw1.out; have := Zw2.out; have := Zw3.out; have := Zw4.out; have := Zw5.out; have := Zw6.out; have := Zw7.out; have := Zw8.out; have := Zw9.out; have := Zw10.out; have := Zw11.out; have := Zw12.out; have := Zw13.out; have := Zw14.out; have := Zw15.out; have := Zw16.out; have := LXP0.out; omega)
  replace cXP0 : w17.cell? ⟨w.heap.size, 0, none⟩ = some s0 := XP0.out.cell
  replace XP1 : Hid (Bx w17 (w.heap.size + 1) s1) := XP1.out.turned t (by have := Zw1.out; have := Zw2.out; have := Zw3.out; have := Zw4.out; have := Zw5.out; have := Zw6.out; have := Zw7.out; have := Zw8.out; have := Zw9.out; have := Zw10.out; have := Zw11.out; have := Zw12.out; have := Zw13.out; have := Zw14.out; have := Zw15.out; have := Zw16.out; have := LXP1.out; omega)
  replace cXP1 : w17.cell? ⟨(w.heap.size + 1), 0, none⟩ = some s1 := XP1.out.cell
  replace XS0 : Hid (Bx w17 rF (.slice rra R.length rrc)) := XS0.out.turned t (by have := Zw1.out; have := Zw2.out; have := Zw3.out; have := Zw4.out; have := Zw5.out; have := Zw6.out; have := Zw7.out; have := Zw8.out; have := Zw9.out; have := Zw10.out; have := Zw11.out; have := Zw12.out; have := Zw13.out; have := Zw14.out; have := Zw15.out; have := Zw16.out; have := LXS0.out; have := GXS0.out; omega)
  replace cXS0 : w17.cell? ⟨rF, 0, none⟩ = some (.slice rra R.length rrc) := XS0.out.cell
  replace XG0 : Hid (Bx w17 w9.heap.size (.slice g0a R.length g0c)) := XG0.out.turned t (by have := Zw1.out; have := Zw2.out; have := Zw3.out; have := Zw4.out; have := Zw5.out; have := Zw6.out; have := Zw7.out; have := Zw8.out; have := Zw9.out; have := Zw10.out; have := Zw11.out; have := Zw12.out; have := Zw13.out; have := Zw14.out; have := Zw15.out; have := Zw16.out; have := LXG0.out; omega)
  replace cXG0 : w17.cell? ⟨w9.heap.size, 0, none⟩ = some (.slice g0a R.length g0c) := XG0.out.cell
  obtain ⟨_, ho, o⟩ := o
  obtain rfl := agg_inj ho
  have Og0 : Hid (Own w17 w8.heap.size w9.heap.size (.slice g0a R.length g0c) (mk (1) R.length)) := o
  clear o t
  go_wp2_with fail
  refine (heldW_any ⟨_, rfl, (Og0.out.rd.ls (by have := Zw10.out; have := Zw11.out; have := Zw12.out; have := Zw13.out; have := Zw14.out; have := Zw15.out; have := Zw16.out; have := Zw17.out; omega))⟩ (by omega) (by omega) (by omega)).mono ?_
  rintro e w18 ⟨rfl, b⟩
  have Zw18 : Hid (w17.heap.size ≤ w18.heap.size) := b.size
  replace B0 : Hid (Below w.heap.size w w18) := B0.out.trans (b.mono (by have := Zw1.out; have := Zw2.out; have := Zw3.out; have := Zw4.out; have := Zw5.out; have := Zw6.out; have := Zw7.out; have := Zw8.out; have := Zw9.out; have := Zw10.out; have := Zw11.out; have := Zw12.out; have := Zw13.out; have := Zw14.out; have := Zw15.out; have := Zw16.out; have := Zw17.out; omega))
  replace R0 : Hid (Rd w18 w.heap.size s0 A0) := R0.out.below b (by have := Zw1.out; have := Zw2.out; have := Zw3.out; have := Zw4.out; have := Zw5.out; have := Zw6.out; have := Zw7.out; have := Zw8.out; have := Zw9.out; have := Zw10.out; have := Zw11.out; have := Zw12.out; have := Zw13.out; have := Zw14.out; have := Zw15.out; have := Zw16.out; have := Zw17.out; omega)
  replace R1 : Hid (Rd w18 w.heap.size s1 A1) := R1.out.below b (by have := Zw1.out; have := Zw2.out; have := Zw3.out; have := Zw4.out; have := Zw5.out; have := Zw6.out; have := Zw7.out; have := Zw8.out; have := Zw9.out; have := Zw10.out; have := Zw11.out; have := Zw12.out; have := Zw13.out; have := Zw14.out; have := Zw15.out; have := Zw16.out; have := Zw17.out; omega)
  replace Or0 : Hid (Rd w18 w4.heap.size (.slice rra R.length rrc) R) := Or0.out.below b (by have := Zw5.out; have := Zw6.out; have := Zw7.out; have := Zw8.out; have := Zw9.out; have := Zw10.out; have := Zw11.out; have := Zw12.out; have := Zw13.out; have := Zw14.out; have := Zw15.out; have := Zw16.out; have := Zw17.out; omega)
  replace Og0 : Hid (Own w18 w8.heap.size w9.heap.size (.slice g0a R.length g0c) (mk (1) R.length)) := Og0.out.below b (by have := Zw10.out; have := Zw11.out; have := Zw12.out; have := Zw13.out; have := Zw14.out; have := Zw15.out; have := Zw16.out; have := Zw17.out; omega)
  replace XP0 : Hid (Bx w18 w.heap.size s0) := XP0.out.kept b
  replace cXP0 : w18.cell? ⟨w.heap.size, 0, none⟩ = some s0 := XP0.out.cell
  replace XP1 : Hid (Bx w18 (w.heap.size + 1) s1) := XP1.out.kept b
  replace cXP1 : w18.cell? ⟨(w.heap.size + 1), 0, none⟩ = some s1 := XP1.out.cell
  replace XS0 : Hid (Bx w18 rF (.slice rra R.length rrc)) := XS0.out.kept b
  replace cXS0 : w18.cell? ⟨rF, 0, none⟩ = some (.slice rra R.length rrc) := XS0.out.cell
  replace XG0 : Hid (Bx w18 w9.heap.size (.slice g0a R.length g0c)) := XG0.out.kept b
  replace cXG0 : w18.cell? ⟨w9.heap.size, 0, none⟩ = some (.slice g0a R.length g0c) := XG0.out.cell
  clear b
  go_wp2_with fail
  have bd : Hid (Below w18.heap.size w18 w18.drew) := (Below.refl _ _).drew
  go_upto_region 31 with fail
  go_cut [15, 16] (fun sx sy wx => ∃ (bF : Nat) (ra : Option Addr) (rc : Nat), sx = .pointer (some ⟨bF, 0, none⟩) ∧ sy = .bool ok ∧ Hid (Fin w18 wx bF (.slice ra R.length rc) R))
  case first =>
    go_region_held3 (fun w' => w'.cell? ⟨w.heap.size, 0, none⟩ = some s0 ∧ w'.cell? ⟨(w.heap.size + 1), 0, none⟩ = some s1 ∧ Hid (Below w18.heap.size w18 w'))
      (first | exact ⟨(XP0.out.kept bd.out).cell, (XP1.out.kept bd.out).cell, bd⟩ | exact ⟨((XP0.out.kept bd.out).alloc _).cell, ((XP1.out.kept bd.out).alloc _).cell, bd.out.alloc bd.out.size _⟩ | exact ⟨(XP0.out.kept bt0.out).cell, (XP1.out.kept bt0.out).cell, bt0⟩ | exact ⟨((XP0.out.kept bt0.out).alloc _).cell, ((XP1.out.kept bt0.out).alloc _).cell, bt0.out.alloc bt0.out.size _⟩ | exact ⟨(XP0.out.kept bt1.out).cell, (XP1.out.kept bt1.out).cell, bt1⟩ | exact ⟨((XP0.out.kept bt1.out).alloc _).cell, ((XP1.out.kept bt1.out).alloc _).cell, bt1.out.alloc bt1.out.size _⟩ | exact ⟨(XP0.out.kept bs.out).cell, (XP1.out.kept bs.out).cell, bs⟩ | exact ⟨((XP0.out.kept bs.out).alloc _).cell, ((XP1.out.kept bs.out).alloc _).cell, bs.out.alloc bs.out.size _⟩ | exact ⟨((XP0.out.kept bs.out).other (by have := LXP0.out; have := LXP1.out; have := Zw1.out; have := Zw2.out; have := Zw3.out; have := Zw4.out; have := Zw5.out; have := Zw6.out; have := Zw7.out; have := Zw8.out; have := Zw9.out; have := Zw10.out; have := Zw11.out; have := Zw12.out; have := Zw13.out; have := Zw14.out; have := Zw15.out; have := Zw16.out; have := Zw17.out; have := Zw18.out; have := bt0.out.size; have := bt1.out.size; first | omega | (dsimp only; omega) | (simp; done) | (simp; omega)) _).cell, ((XP1.out.kept bs.out).other (by have := LXP0.out; have := LXP1.out; have := Zw1.out; have := Zw2.out; have := Zw3.out; have := Zw4.out; have := Zw5.out; have := Zw6.out; have := Zw7.out; have := Zw8.out; have := Zw9.out; have := Zw10.out; have := Zw11.out; have := Zw12.out; have := Zw13.out; have := Zw14.out; have := Zw15.out; have := Zw16.out; have := Zw17.out; have := Zw18.out; have := bt0.out.size; have := bt1.out.size; first | omega | (dsimp only; omega) | (simp; done) | (simp; omega)) _).cell, bs.out.setCell (by have := LXP0.out; have := LXP1.out; have := Zw1.out; have := Zw2.out; have := Zw3.out; have := Zw4.out; have := Zw5.out; have := Zw6.out; have := Zw7.out; have := Zw8.out; have := Zw9.out; have := Zw10.out; have := Zw11.out; have := Zw12.out; have := Zw13.out; have := Zw14.out; have := Zw15.out; have := Zw16.out; have := Zw17.out; have := Zw18.out; have := bt0.out.size; have := bt1.out.size; first | omega | (dsimp only; omega) | (simp; done) | (simp; omega)) _⟩)
      (first
        | (go_at_call_of 9 (Value.agg #[s0]); first | (refine (toW_any ⟨_, rfl, ((R0.out.ls (by have := Zw1.out; have := Zw2.out; have := Zw3.out; have := Zw4.out; have := Zw5.out; have := Zw6.out; have := Zw7.out; have := Zw8.out; have := Zw9.out; have := Zw10.out; have := Zw11.out; have := Zw12.out; have := Zw13.out; have := Zw14.out; have := Zw15.out; have := Zw16.out; have := Zw17.out; have := Zw18.out; omega)).below bd.out)⟩ (by omega)).mono ?_; rintro e wt0 ⟨_, rfl, ⟨t0, rfl, ot⟩, b⟩; obtain ⟨t0a, t0c, rfl⟩ := ot.shape; have bt0 : Hid (Below w18.heap.size w18 wt0) := viaD bd.out b; have Ot0 : Hid (Ls wt0 (.slice t0a A0.length t0c) A0) := ot.ls (Nat.le_refl _); clear b ot) | (refine (toW_any ⟨_, rfl, ((R0.out.ls (by have := Zw1.out; have := Zw2.out; have := Zw3.out; have := Zw4.out; have := Zw5.out; have := Zw6.out; have := Zw7.out; have := Zw8.out; have := Zw9.out; have := Zw10.out; have := Zw11.out; have := Zw12.out; have := Zw13.out; have := Zw14.out; have := Zw15.out; have := Zw16.out; have := Zw17.out; have := Zw18.out; omega)).below (bd.out.alloc bd.out.size _))⟩ (by omega)).mono ?_; rintro e wt0 ⟨_, rfl, ⟨t0, rfl, ot⟩, b⟩; obtain ⟨t0a, t0c, rfl⟩ := ot.shape; have bt0 : Hid (Below w18.heap.size w18 wt0) := viaA bd.out b; have Ot0 : Hid (Ls wt0 (.slice t0a A0.length t0c) A0) := ot.ls (Nat.le_refl _); have BX0 : Hid (Bx wt0 w18.heap.size (.slice none 0 0)) := (show Bx wt0 w18.drew.heap.size (.slice none 0 0) from (Bx.new _ _ _).kept b); clear b ot))
        | (go_at_call_of 9 (Value.agg #[s1]); first | (refine (toW_any ⟨_, rfl, ((R1.out.ls (by have := Zw1.out; have := Zw2.out; have := Zw3.out; have := Zw4.out; have := Zw5.out; have := Zw6.out; have := Zw7.out; have := Zw8.out; have := Zw9.out; have := Zw10.out; have := Zw11.out; have := Zw12.out; have := Zw13.out; have := Zw14.out; have := Zw15.out; have := Zw16.out; have := Zw17.out; have := Zw18.out; omega)).below bt0.out)⟩ (by omega)).mono ?_; rintro e wt1 ⟨_, rfl, ⟨t1, rfl, ot⟩, b⟩; obtain ⟨t1a, t1c, rfl⟩ := ot.shape; have bt1 : Hid (Below w18.heap.size w18 wt1) := viaD bt0.out b; have Ot1 : Hid (Ls wt1 (.slice t1a A1.length t1c) A1) := ot.ls (Nat.le_refl _); have Ot0_1 : Hid (Ls wt1 (.slice t0a A0.length t0c) A0) := (Ot0.out).below b; first | (have BX1 := BX0.out.kept b; have HBX : Hid (Bx wt1 _ (.slice none 0 0)) := BX1; clear BX1; have BX1 := HBX; clear HBX) | skip; clear b ot) | (refine (toW_any ⟨_, rfl, ((R1.out.ls (by have := Zw1.out; have := Zw2.out; have := Zw3.out; have := Zw4.out; have := Zw5.out; have := Zw6.out; have := Zw7.out; have := Zw8.out; have := Zw9.out; have := Zw10.out; have := Zw11.out; have := Zw12.out; have := Zw13.out; have := Zw14.out; have := Zw15.out; have := Zw16.out; have := Zw17.out; have := Zw18.out; omega)).below (bt0.out.alloc bt0.out.size _))⟩ (by omega)).mono ?_; rintro e wt1 ⟨_, rfl, ⟨t1, rfl, ot⟩, b⟩; obtain ⟨t1a, t1c, rfl⟩ := ot.shape; have bt1 : Hid (Below w18.heap.size w18 wt1) := viaA bt0.out b; have Ot1 : Hid (Ls wt1 (.slice t1a A1.length t1c) A1) := ot.ls (Nat.le_refl _); have Ot0_1 : Hid (Ls wt1 (.slice t0a A0.length t0c) A0) := (Ot0.out.below (new1 _ _)).below b; have BX1 : Hid (Bx wt1 wt0.heap.size (.slice none 0 0)) := (show Bx wt1 wt0.heap.size (.slice none 0 0) from (Bx.new _ _ _).kept b); clear b ot))
        | (go_at_call 17; first | (refine (HI.out _ _ _ (Ot0_1.out) (Ot1.out)).mono ?_; rintro e w19 ⟨_, rfl, ⟨h0, rfl, o0⟩, b⟩; obtain ⟨h0a, h0c, rfl⟩ := o0.shape; have bs : Hid (Below w18.heap.size w18 w19) := viaD bt1.out b; have Oo : Hid (Own w19 _ w19.heap.size (.slice h0a R.length h0c) R) := o0; first | (have HX2 : Hid (Bx w19 _ (.slice none 0 0)) := BX1.out.kept b; have cB := HX2.out.cell; have fB := HX2.out.free; have Hlt : Hid (_ < wt1.heap.size) := BX1.out.lt; skip) | skip; clear b o0) | (refine (HI.out _ _ _ (Ot0_1.out.below (new1 _ _)) (Ot1.out.below (new1 _ _))).mono ?_; rintro e w19 ⟨_, rfl, ⟨h0, rfl, o0⟩, b⟩; obtain ⟨h0a, h0c, rfl⟩ := o0.shape; have bs : Hid (Below w18.heap.size w18 w19) := viaA bt1.out b; have Oo : Hid (Own w19 _ w19.heap.size (.slice h0a R.length h0c) R) := o0; have HX2 : Hid (Bx w19 wt1.heap.size (.slice none 0 0)) := (Bx.new _ _ _).kept b; have cB := HX2.out.cell; have fB := HX2.out.free; have Hlt : Hid (wt1.heap.size < (wt1.alloc (.cells #[.slice none 0 0] 26)).heap.size) := (by show _ < _; simp); clear b o0)))
    all_goals (go_wp2_with fail; go_meet; first | exact ⟨_, _, _, rfl, rfl, finSet HX2.out Oo.out Hlt.out bs.out (by have := LXP0.out; have := LXP1.out; have := Zw1.out; have := Zw2.out; have := Zw3.out; have := Zw4.out; have := Zw5.out; have := Zw6.out; have := Zw7.out; have := Zw8.out; have := Zw9.out; have := Zw10.out; have := Zw11.out; have := Zw12.out; have := Zw13.out; have := Zw14.out; have := Zw15.out; have := Zw16.out; have := Zw17.out; have := Zw18.out; have := bt0.out.size; have := bt1.out.size; first | omega | (dsimp only; omega) | (simp; done) | (simp; omega))⟩ | exact ⟨_, _, _, rfl, rfl, finNew Oo.out bs.out⟩)
  case rest =>
  obtain ⟨hF, hra, hrc, rfl, rfl, hF⟩ := hcut
  obtain ⟨hF1, hF2, hF3, b⟩ := hF.out
  generalize hwc : wc = w19 at *
  clear hwc hF
  have Zw19 : Hid (w18.heap.size ≤ w19.heap.size) := b.size
  replace B0 : Hid (Below w.heap.size w w19) := B0.out.trans (b.mono (by have := Zw1.out; have := Zw2.out; have := Zw3.out; have := Zw4.out; have := Zw5.out; have := Zw6.out; have := Zw7.out; have := Zw8.out; have := Zw9.out; have := Zw10.out; have := Zw11.out; have := Zw12.out; have := Zw13.out; have := Zw14.out; have := Zw15.out; have := Zw16.out; have := Zw17.out; have := Zw18.out; omega))
  replace R0 : Hid (Rd w19 w.heap.size s0 A0) := R0.out.below b (by have := Zw1.out; have := Zw2.out; have := Zw3.out; have := Zw4.out; have := Zw5.out; have := Zw6.out; have := Zw7.out; have := Zw8.out; have := Zw9.out; have := Zw10.out; have := Zw11.out; have := Zw12.out; have := Zw13.out; have := Zw14.out; have := Zw15.out; have := Zw16.out; have := Zw17.out; have := Zw18.out; omega)
  replace R1 : Hid (Rd w19 w.heap.size s1 A1) := R1.out.below b (by have := Zw1.out; have := Zw2.out; have := Zw3.out; have := Zw4.out; have := Zw5.out; have := Zw6.out; have := Zw7.out; have := Zw8.out; have := Zw9.out; have := Zw10.out; have := Zw11.out; have := Zw12.out; have := Zw13.out; have := Zw14.out; have := Zw15.out; have := Zw16.out; have := Zw17.out; have := Zw18.out; omega)
  replace Or0 : Hid (Rd w19 w4.heap.size (.slice rra R.length rrc) R) := Or0.out.below b (by have := Zw5.out; have := Zw6.out; have := Zw7.out; have := Zw8.out; have := Zw9.out; have := Zw10.out; have := Zw11.out; have := Zw12.out; have := Zw13.out; have := Zw14.out; have := Zw15.out; have := Zw16.out; have := Zw17.out; have := Zw18.out; omega)
  replace Og0 : Hid (Own w19 w8.heap.size w9.heap.size (.slice g0a R.length g0c) (mk (1) R.length)) := Og0.out.below b (by have := Zw10.out; have := Zw11.out; have := Zw12.out; have := Zw13.out; have := Zw14.out; have := Zw15.out; have := Zw16.out; have := Zw17.out; have := Zw18.out; omega)
  replace XP0 : Hid (Bx w19 w.heap.size s0) := XP0.out.kept b
  replace cXP0 : w19.cell? ⟨w.heap.size, 0, none⟩ = some s0 := XP0.out.cell
  replace XP1 : Hid (Bx w19 (w.heap.size + 1) s1) := XP1.out.kept b
  replace cXP1 : w19.cell? ⟨(w.heap.size + 1), 0, none⟩ = some s1 := XP1.out.cell
  replace XS0 : Hid (Bx w19 rF (.slice rra R.length rrc)) := XS0.out.kept b
  replace cXS0 : w19.cell? ⟨rF, 0, none⟩ = some (.slice rra R.length rrc) := XS0.out.cell
  replace XG0 : Hid (Bx w19 w9.heap.size (.slice g0a R.length g0c)) := XG0.out.kept b
  replace cXG0 : w19.cell? ⟨w9.heap.size, 0, none⟩ = some (.slice g0a R.length g0c) := XG0.out.cell
  have Oh0 : Hid (Rd w19 w19.heap.size (.slice hra R.length hrc) R) := hF3
  have XH0 : Hid (Bx w19 hF (.slice hra R.length hrc)) := hF2
  have cXH0 : w19.cell? ⟨hF, 0, none⟩ = some (.slice hra R.length hrc) := XH0.out.cell
  have LXH0 : Hid (hF < w19.heap.size) := XH0.out.lt
  have GXH0 : Hid (w18.heap.size ≤ hF) := hF1
  clear hF1 hF2 hF3 b bd
  go_wp2_with fail
  refine (eqW_any ⟨_, rfl, (Oh0.out.ls (Nat.le_refl _))⟩ ⟨_, rfl, (Or0.out.ls (by have := Zw5.out; have := Zw6.out; have := Zw7.out; have := Zw8.out; have := Zw9.out; have := Zw10.out; have := Zw11.out; have := Zw12.out; have := Zw13.out; have := Zw14.out; have := Zw15.out; have := Zw16.out; have := Zw17.out; have := Zw18.out; have := Zw19.out; omega))⟩).mono ?_
  rintro e w20 ⟨rfl, b⟩
  have Zw20 : Hid (w19.heap.size ≤ w20.heap.size) := b.size
  replace B0 : Hid (Below w.heap.size w w20) := B0.out.trans (b.mono (by have := Zw1.out; have := Zw2.out; have := Zw3.out; have := Zw4.out; have := Zw5.out; have := Zw6.out; have := Zw7.out; have := Zw8.out; have := Zw9.out; have := Zw10.out; have := Zw11.out; have := Zw12.out; have := Zw13.out; have := Zw14.out; have := Zw15.out; have := Zw16.out; have := Zw17.out; have := Zw18.out; have := Zw19.out; omega))
  replace R0 : Hid (Rd w20 w.heap.size s0 A0) := R0.out.below b (by have := Zw1.out; have := Zw2.out; have := Zw3.out; have := Zw4.out; have := Zw5.out; have := Zw6.out; have := Zw7.out; have := Zw8.out; have := Zw9.out; have := Zw10.out; have := Zw11.out; have := Zw12.out; have := Zw13.out; have := Zw14.out; have := Zw15.out; have := Zw16.out; have := Zw17.out; have := Zw18.out; have := Zw19.out; omega)
  replace R1 : Hid (Rd w20 w.heap.size s1 A1) := R1.out.below b (by have := Zw1.out; have := Zw2.out; have := Zw3.out; have := Zw4.out; have := Zw5.out; have := Zw6.out; have := Zw7.out; have := Zw8.out; have := Zw9.out; have := Zw10.out; have := Zw11.out; have := Zw12.out; have := Zw13.out; have := Zw14.out; have := Zw15.out; have := Zw16.out; have := Zw17.out; have := Zw18.out; have := Zw19.out; omega)
  replace Or0 : Hid (Rd w20 w4.heap.size (.slice rra R.length rrc) R) := Or0.out.below b (by have := Zw5.out; have := Zw6.out; have := Zw7.out; have := Zw8.out; have := Zw9.out; have := Zw10.out; have := Zw11.out; have := Zw12.out; have := Zw13.out; have := Zw14.out; have := Zw15.out; have := Zw16.out; have := Zw17.out; have := Zw18.out; have := Zw19.out; omega)
  replace Og0 : Hid (Own w20 w8.heap.size w9.heap.size (.slice g0a R.length g0c) (mk (1) R.length)) := Og0.out.below b (by have := Zw10.out; have := Zw11.out; have := Zw12.out; have := Zw13.out; have := Zw14.out; have := Zw15.out; have := Zw16.out; have := Zw17.out; have := Zw18.out; have := Zw19.out; omega)
  replace Oh0 : Hid (Rd w20 w19.heap.size (.slice hra R.length hrc) R) := Oh0.out.below b (Nat.le_refl _)
  replace XP0 : Hid (Bx w20 w.heap.size s0) := XP0.out.kept b
  replace cXP0 : w20.cell? ⟨w.heap.size, 0, none⟩ = some s0 := XP0.out.cell
  replace XP1 : Hid (Bx w20 (w.heap.size + 1) s1) := XP1.out.kept b
  replace cXP1 : w20.cell? ⟨(w.heap.size + 1), 0, none⟩ = some s1 := XP1.out.cell
  replace XS0 : Hid (Bx w20 rF (.slice rra R.length rrc)) := XS0.out.kept b
  replace cXS0 : w20.cell? ⟨rF, 0, none⟩ = some (.slice rra R.length rrc) := XS0.out.cell
  replace XG0 : Hid (Bx w20 w9.heap.size (.slice g0a R.length g0c)) := XG0.out.kept b
  replace cXG0 : w20.cell? ⟨w9.heap.size, 0, none⟩ = some (.slice g0a R.length g0c) := XG0.out.cell
  replace XH0 : Hid (Bx w20 hF (.slice hra R.length hrc)) := XH0.out.kept b
  replace cXH0 : w20.cell? ⟨hF, 0, none⟩ = some (.slice hra R.length hrc) := XH0.out.cell
  clear b
  clear Oh0
  clear cXH0 XH0 LXH0 GXH0
  go_wp2_with fail
  refine (heldW_any ⟨_, rfl, (Og0.out.rd.ls (by have := Zw10.out; have := Zw11.out; have := Zw12.out; have := Zw13.out; have := Zw14.out; have := Zw15.out; have := Zw16.out; have := Zw17.out; have := Zw18.out; have := Zw19.out; have := Zw20.out; omega))⟩ (by omega) (by omega) (by omega)).mono ?_
  rintro e w21 ⟨rfl, b⟩
  have Zw21 : Hid (w20.heap.size ≤ w21.heap.size) := b.size
  replace B0 : Hid (Below w.heap.size w w21) := B0.out.trans (b.mono (by have := Zw1.out; have := Zw2.out; have := Zw3.out; have := Zw4.out; have := Zw5.out; have := Zw6.out; have := Zw7.out; have := Zw8.out; have := Zw9.out; have := Zw10.out; have := Zw11.out; have := Zw12.out; have := Zw13.out; have := Zw14.out; have := Zw15.out; have := Zw16.out; have := Zw17.out; have := Zw18.out; have := Zw19.out; have := Zw20.out; omega))
  replace R0 : Hid (Rd w21 w.heap.size s0 A0) := R0.out.below b (by have := Zw1.out; have := Zw2.out; have := Zw3.out; have := Zw4.out; have := Zw5.out; have := Zw6.out; have := Zw7.out; have := Zw8.out; have := Zw9.out; have := Zw10.out; have := Zw11.out; have := Zw12.out; have := Zw13.out; have := Zw14.out; have := Zw15.out; have := Zw16.out; have := Zw17.out; have := Zw18.out; have := Zw19.out; have := Zw20.out; omega)
  replace R1 : Hid (Rd w21 w.heap.size s1 A1) := R1.out.below b (by have := Zw1.out; have := Zw2.out; have := Zw3.out; have := Zw4.out; have := Zw5.out; have := Zw6.out; have := Zw7.out; have := Zw8.out; have := Zw9.out; have := Zw10.out; have := Zw11.out; have := Zw12.out; have := Zw13.out; have := Zw14.out; have := Zw15.out; have := Zw16.out; have := Zw17.out; have := Zw18.out; have := Zw19.out; have := Zw20.out; omega)
  replace Or0 : Hid (Rd w21 w4.heap.size (.slice rra R.length rrc) R) := Or0.out.below b (by have := Zw5.out; have := Zw6.out; have := Zw7.out; have := Zw8.out; have := Zw9.out; have := Zw10.out; have := Zw11.out; have := Zw12.out; have := Zw13.out; have := Zw14.out; have := Zw15.out; have := Zw16.out; have := Zw17.out; have := Zw18.out; have := Zw19.out; have := Zw20.out; omega)
  replace Og0 : Hid (Own w21 w8.heap.size w9.heap.size (.slice g0a R.length g0c) (mk (1) R.length)) := Og0.out.below b (by have := Zw10.out; have := Zw11.out; have := Zw12.out; have := Zw13.out; have := Zw14.out; have := Zw15.out; have := Zw16.out; have := Zw17.out; have := Zw18.out; have := Zw19.out; have := Zw20.out; omega)
  replace XP0 : Hid (Bx w21 w.heap.size s0) := XP0.out.kept b
  replace cXP0 : w21.cell? ⟨w.heap.size, 0, none⟩ = some s0 := XP0.out.cell
  replace XP1 : Hid (Bx w21 (w.heap.size + 1) s1) := XP1.out.kept b
  replace cXP1 : w21.cell? ⟨(w.heap.size + 1), 0, none⟩ = some s1 := XP1.out.cell
  replace XS0 : Hid (Bx w21 rF (.slice rra R.length rrc)) := XS0.out.kept b
  replace cXS0 : w21.cell? ⟨rF, 0, none⟩ = some (.slice rra R.length rrc) := XS0.out.cell
  replace XG0 : Hid (Bx w21 w9.heap.size (.slice g0a R.length g0c)) := XG0.out.kept b
  replace cXG0 : w21.cell? ⟨w9.heap.size, 0, none⟩ = some (.slice g0a R.length g0c) := XG0.out.cell
  clear b
  go_wp2_with fail
  go_ret
  exact ⟨rfl, B0.out⟩
end Go.Proofs.Ytdammgflmkamaaa.fnExactCommonWholeW
