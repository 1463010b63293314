/- The law FnExactLiftPair: its walk, over what both sides answer. -/
import Derived.Test.YtfhcfeafohcjpaaLpR
import Derived.Test.YtfhcfeafohcjpaaLiftPairF
import Derived.Test.YtfhcfeafohcjpaaWw
import Derived.Deep.RegionHeld3
import Derived.Deep.DeepCutAuto
namespace Go.Proofs.Ytfhcfeafohcjpaa.fnExactLiftPairW
open Go.RowKit Go.Proofs.Ytfhcfeafohcjpaa.wh

set_option maxRecDepth 100000 in
set_option maxHeartbeats 4000000 in
theorem walk (v0 : Value) (v1 : Value) (v2 : Value) (a3 : Int) (w : World) (h0 : ∃ L, Wh w v0 L) (h1 : ∃ L, Wh w v1 L) (h2 : ∃ L, Wh w v2 L) (b3 : (Lit.int .i64 a3).wf = true) :
    Calls Try.prog 3 #[v0, v1, v2, .int .i64 a3] w fun e w' => e = .returned (.bool true) ∧ Below w.heap.size w w' := by
  obtain ⟨A0, s0, rfl, h0⟩ := h0
  obtain ⟨A1, s1, rfl, h1⟩ := h1
  obtain ⟨A2, s2, rfl, h2⟩ := h2
  obtain ⟨R, hR⟩ : ∃ r : List Int, r = fLiftPair.R A0 A1 A2 a3 := ⟨_, rfl⟩
  obtain ⟨R2, hR2⟩ : ∃ r : List Int, r = fLiftPair.R2 A0 A1 A2 a3 := ⟨_, rfl⟩
  obtain ⟨ok, hok⟩ : ∃ r : Bool, r = fLiftPair.ok A0 A1 A2 a3 := ⟨_, rfl⟩
  have HS : Hid (∀ (w : World) (v0 : Value) (v1 : Value) (v2 : Value), Ls w v0 A0 → Ls w v1 A1 → Ls w v2 A2 → Calls Try.prog 7 #[.agg #[v0], .agg #[v1], .agg #[v2], .int .i64 a3] w (Ans2S R R2 ok w)) := fun w v0 v1 v2 h0 h1 h2 => by rw [hR, hR2, hok]; exact fLiftPair.spec_any ⟨_, rfl, h0⟩ ⟨_, rfl, h1⟩ ⟨_, rfl, h2⟩ a3 b3
  have HI : Hid (∀ (w : World) (v0 : Value) (v1 : Value) (v2 : Value), Ls w v0 A0 → Ls w v1 A1 → Ls w v2 A2 → Calls Try.prog 9 #[.agg #[v0], .agg #[v1], .agg #[v2], .int .i64 a3] w (fLiftPair.Ans2J R R2 ok w)) := fun w v0 v1 v2 h0 h1 h2 => by rw [hR, hR2, hok]; exact fLiftPair.impl_any ⟨_, rfl, h0⟩ ⟨_, rfl, h1⟩ ⟨_, rfl, h2⟩ a3 b3
  have HJ : Hid (∀ (w : World) (v0 : Value) (v1 : Value) (v2 : Value), Ls w v0 A0 → Ls w v1 A1 → Ls w v2 A2 → Calls Try.prog 9 #[.agg #[v0], .agg #[v1], .agg #[v2], .int .i64 a3] w (Ans2S R R2 ok w)) := fun w v0 v1 v2 h0 h1 h2 => (HI.out w v0 v1 v2 h0 h1 h2).mono fun _ _ h => h.s
  have hlen : (R.length : Int) ≤ 1000 := by rw [hR]; have := fLiftPair.len A0 A1 A2 a3; omega
  have hlen2 : (R2.length : Int) ≤ 1000 := by rw [hR2]; have := fLiftPair.len2 A0 A1 A2 a3; omega
  clear hR hR2 hok
  clear b3
  have Rf0 : Hid (Rd w w.heap.size s0 A0) := h0
  have Rf1 : Hid (Rd w w.heap.size s1 A1) := h1
  have Rf2 : Hid (Rd w w.heap.size s2 A2) := h2
  clear h0 h1 h2
  have B0 : Hid (Below w.heap.size w w) := Below.refl _ _
  by_cases hs0 : (A0.length : Int) ≤ 1048576
  case neg =>
    clear HS HI HJ hlen hlen2
    go_enter Try.func3, Try.ntmps3
    go_wp2_with fail
    obtain ⟨w1, hw⟩ : ∃ x, x = (((w.alloc (.cells #[s0] 24)).alloc (.cells #[s1] 24)).alloc (.cells #[s2] 24)) := ⟨_, rfl⟩
    rw [← hw]
    have b : Below w.heap.size w w1 := by rw [hw]; exact new3 _ _ _ _ 
    have Zw1 : Hid (w.heap.size ≤ w1.heap.size) := b.size
    replace B0 : Hid (Below w.heap.size w w1) := B0.out.trans (b.mono (Nat.le_refl _))
    replace Rf0 : Hid (Rd w1 w.heap.size s0 A0) := Rf0.out.below b (Nat.le_refl _)
    replace Rf1 : Hid (Rd w1 w.heap.size s1 A1) := Rf1.out.below b (Nat.le_refl _)
    replace Rf2 : Hid (Rd w1 w.heap.size s2 A2) := Rf2.out.below b (Nat.le_refl _)
    have XP0 : Hid (Bx w1 w.heap.size s0) := by rw [hw]; exact Bx.alloc (Bx.alloc (Bx.new _ _ _) _) _
    have cXP0 : w1.cell? ⟨w.heap.size, 0, none⟩ = some s0 := XP0.out.cell
    have LXP0 : Hid (w.heap.size < w1.heap.size) := XP0.out.lt
    have XP1 : Hid (Bx w1 (w.heap.size + 1) s1) := by rw [hw]; exact Bx.alloc (Bx.new2 _ _ _ _ ) _
    have cXP1 : w1.cell? ⟨(w.heap.size + 1), 0, none⟩ = some s1 := XP1.out.cell
    have LXP1 : Hid ((w.heap.size + 1) < w1.heap.size) := XP1.out.lt
    have XP2 : Hid (Bx w1 (w.heap.size + 1 + 1) s2) := by rw [hw]; exact Bx.new3 _ _ _ _ _ 
    have cXP2 : w1.cell? ⟨(w.heap.size + 1 + 1), 0, none⟩ = some s2 := XP2.out.cell
    have LXP2 : Hid ((w.heap.size + 1 + 1) < w1.heap.size) := XP2.out.lt
    clear b hw
    refine (sz_no ⟨_, rfl, (Rf0.out.ls (by have := Zw1.out; omega))⟩ (by omega) (by omega) (by omega)).mono ?_
    rintro e w2 ⟨rfl, b⟩
    have Zw2 : Hid (w1.heap.size ≤ w2.heap.size) := b.size
    replace B0 : Hid (Below w.heap.size w w2) := B0.out.trans (b.mono (by have := Zw1.out; omega))
    replace Rf0 : Hid (Rd w2 w.heap.size s0 A0) := Rf0.out.below b (by have := Zw1.out; omega)
    replace Rf1 : Hid (Rd w2 w.heap.size s1 A1) := Rf1.out.below b (by have := Zw1.out; omega)
    replace Rf2 : Hid (Rd w2 w.heap.size s2 A2) := Rf2.out.below b (by have := Zw1.out; omega)
    replace XP0 : Hid (Bx w2 w.heap.size s0) := XP0.out.kept b
    replace cXP0 : w2.cell? ⟨w.heap.size, 0, none⟩ = some s0 := XP0.out.cell
    replace XP1 : Hid (Bx w2 (w.heap.size + 1) s1) := XP1.out.kept b
    replace cXP1 : w2.cell? ⟨(w.heap.size + 1), 0, none⟩ = some s1 := XP1.out.cell
    replace XP2 : Hid (Bx w2 (w.heap.size + 1 + 1) s2) := XP2.out.kept b
    replace cXP2 : w2.cell? ⟨(w.heap.size + 1 + 1), 0, none⟩ = some s2 := XP2.out.cell
    clear b
    go_wp2_with fail
    go_ret
    exact ⟨rfl, B0.out⟩
  by_cases hs1 : (A1.length : Int) ≤ 1048576 - (A0.length : Int)
  case neg =>
    clear HS HI HJ hlen hlen2
    go_enter Try.func3, Try.ntmps3
    go_wp2_with fail
    obtain ⟨w1, hw⟩ : ∃ x, x = (((w.alloc (.cells #[s0] 24)).alloc (.cells #[s1] 24)).alloc (.cells #[s2] 24)) := ⟨_, rfl⟩
    rw [← hw]
    have b : Below w.heap.size w w1 := by rw [hw]; exact new3 _ _ _ _ 
    have Zw1 : Hid (w.heap.size ≤ w1.heap.size) := b.size
    replace B0 : Hid (Below w.heap.size w w1) := B0.out.trans (b.mono (Nat.le_refl _))
    replace Rf0 : Hid (Rd w1 w.heap.size s0 A0) := Rf0.out.below b (Nat.le_refl _)
    replace Rf1 : Hid (Rd w1 w.heap.size s1 A1) := Rf1.out.below b (Nat.le_refl _)
    replace Rf2 : Hid (Rd w1 w.heap.size s2 A2) := Rf2.out.below b (Nat.le_refl _)
    have XP0 : Hid (Bx w1 w.heap.size s0) := by rw [hw]; exact Bx.alloc (Bx.alloc (Bx.new _ _ _) _) _
    have cXP0 : w1.cell? ⟨w.heap.size, 0, none⟩ = some s0 := XP0.out.cell
    have LXP0 : Hid (w.heap.size < w1.heap.size) := XP0.out.lt
    have XP1 : Hid (Bx w1 (w.heap.size + 1) s1) := by rw [hw]; exact Bx.alloc (Bx.new2 _ _ _ _ ) _
    have cXP1 : w1.cell? ⟨(w.heap.size + 1), 0, none⟩ = some s1 := XP1.out.cell
    have LXP1 : Hid ((w.heap.size + 1) < w1.heap.size) := XP1.out.lt
    have XP2 : Hid (Bx w1 (w.heap.size + 1 + 1) s2) := by rw [hw]; exact Bx.new3 _ _ _ _ _ 
    have cXP2 : w1.cell? ⟨(w.heap.size + 1 + 1), 0, none⟩ = some s2 := XP2.out.cell
    have LXP2 : Hid ((w.heap.size + 1 + 1) < w1.heap.size) := XP2.out.lt
    clear b hw
    refine (sz_yes ⟨_, rfl, (Rf0.out.ls (by have := Zw1.out; omega))⟩ (by omega) (by omega)).mono ?_
    rintro e w2 ⟨rfl, b⟩
    have Zw2 : Hid (w1.heap.size ≤ w2.heap.size) := b.size
    replace B0 : Hid (Below w.heap.size w w2) := B0.out.trans (b.mono (by have := Zw1.out; omega))
    replace Rf0 : Hid (Rd w2 w.heap.size s0 A0) := Rf0.out.below b (by have := Zw1.out; omega)
    replace Rf1 : Hid (Rd w2 w.heap.size s1 A1) := Rf1.out.below b (by have := Zw1.out; omega)
    replace Rf2 : Hid (Rd w2 w.heap.size s2 A2) := Rf2.out.below b (by have := Zw1.out; omega)
    replace XP0 : Hid (Bx w2 w.heap.size s0) := XP0.out.kept b
    replace cXP0 : w2.cell? ⟨w.heap.size, 0, none⟩ = some s0 := XP0.out.cell
    replace XP1 : Hid (Bx w2 (w.heap.size + 1) s1) := XP1.out.kept b
    replace cXP1 : w2.cell? ⟨(w.heap.size + 1), 0, none⟩ = some s1 := XP1.out.cell
    replace XP2 : Hid (Bx w2 (w.heap.size + 1 + 1) s2) := XP2.out.kept b
    replace cXP2 : w2.cell? ⟨(w.heap.size + 1 + 1), 0, none⟩ = some s2 := XP2.out.cell
    clear b
    go_wp2_with fail
    refine (sz_no ⟨_, rfl, (Rf1.out.ls (by have := Zw1.out; have := Zw2.out; omega))⟩ (by omega) (by omega) (by omega)).mono ?_
    rintro e w3 ⟨rfl, b⟩
    have Zw3 : Hid (w2.heap.size ≤ w3.heap.size) := b.size
    replace B0 : Hid (Below w.heap.size w w3) := B0.out.trans (b.mono (by have := Zw1.out; have := Zw2.out; omega))
    replace Rf0 : Hid (Rd w3 w.heap.size s0 A0) := Rf0.out.below b (by have := Zw1.out; have := Zw2.out; omega)
    replace Rf1 : Hid (Rd w3 w.heap.size s1 A1) := Rf1.out.below b (by have := Zw1.out; have := Zw2.out; omega)
    replace Rf2 : Hid (Rd w3 w.heap.size s2 A2) := Rf2.out.below b (by have := Zw1.out; have := Zw2.out; omega)
    replace XP0 : Hid (Bx w3 w.heap.size s0) := XP0.out.kept b
    replace cXP0 : w3.cell? ⟨w.heap.size, 0, none⟩ = some s0 := XP0.out.cell
    replace XP1 : Hid (Bx w3 (w.heap.size + 1) s1) := XP1.out.kept b
    replace cXP1 : w3.cell? ⟨(w.heap.size + 1), 0, none⟩ = some s1 := XP1.out.cell
    replace XP2 : Hid (Bx w3 (w.heap.size + 1 + 1) s2) := XP2.out.kept b
    replace cXP2 : w3.cell? ⟨(w.heap.size + 1 + 1), 0, none⟩ = some s2 := XP2.out.cell
    clear b
    go_wp2_with fail
    go_ret
    exact ⟨rfl, B0.out⟩
  by_cases hs2 : (A2.length : Int) ≤ 1048576 - (A0.length : Int) - (A1.length : Int)
  case neg =>
    clear HS HI HJ hlen hlen2
    go_enter Try.func3, Try.ntmps3
    go_wp2_with fail
    obtain ⟨w1, hw⟩ : ∃ x, x = (((w.alloc (.cells #[s0] 24)).alloc (.cells #[s1] 24)).alloc (.cells #[s2] 24)) := ⟨_, rfl⟩
    rw [← hw]
    have b : Below w.heap.size w w1 := by rw [hw]; exact new3 _ _ _ _ 
    have Zw1 : Hid (w.heap.size ≤ w1.heap.size) := b.size
    replace B0 : Hid (Below w.heap.size w w1) := B0.out.trans (b.mono (Nat.le_refl _))
    replace Rf0 : Hid (Rd w1 w.heap.size s0 A0) := Rf0.out.below b (Nat.le_refl _)
    replace Rf1 : Hid (Rd w1 w.heap.size s1 A1) := Rf1.out.below b (Nat.le_refl _)
    replace Rf2 : Hid (Rd w1 w.heap.size s2 A2) := Rf2.out.below b (Nat.le_refl _)
    have XP0 : Hid (Bx w1 w.heap.size s0) := by rw [hw]; exact Bx.alloc (Bx.alloc (Bx.new _ _ _) _) _
    have cXP0 : w1.cell? ⟨w.heap.size, 0, none⟩ = some s0 := XP0.out.cell
    have LXP0 : Hid (w.heap.size < w1.heap.size) := XP0.out.lt
    have XP1 : Hid (Bx w1 (w.heap.size + 1) s1) := by rw [hw]; exact Bx.alloc (Bx.new2 _ _ _ _ ) _
    have cXP1 : w1.cell? ⟨(w.heap.size + 1), 0, none⟩ = some s1 := XP1.out.cell
    have LXP1 : Hid ((w.heap.size + 1) < w1.heap.size) := XP1.out.lt
    have XP2 : Hid (Bx w1 (w.heap.size + 1 + 1) s2) := by rw [hw]; exact Bx.new3 _ _ _ _ _ 
    have cXP2 : w1.cell? ⟨(w.heap.size + 1 + 1), 0, none⟩ = some s2 := XP2.out.cell
    have LXP2 : Hid ((w.heap.size + 1 + 1) < w1.heap.size) := XP2.out.lt
    clear b hw
    refine (sz_yes ⟨_, rfl, (Rf0.out.ls (by have := Zw1.out; omega))⟩ (by omega) (by omega)).mono ?_
    rintro e w2 ⟨rfl, b⟩
    have Zw2 : Hid (w1.heap.size ≤ w2.heap.size) := b.size
    replace B0 : Hid (Below w.heap.size w w2) := B0.out.trans (b.mono (by have := Zw1.out; omega))
    replace Rf0 : Hid (Rd w2 w.heap.size s0 A0) := Rf0.out.below b (by have := Zw1.out; omega)
    replace Rf1 : Hid (Rd w2 w.heap.size s1 A1) := Rf1.out.below b (by have := Zw1.out; omega)
    replace Rf2 : Hid (Rd w2 w.heap.size s2 A2) := Rf2.out.below b (by have := Zw1.out; omega)
    replace XP0 : Hid (Bx w2 w.heap.size s0) := XP0.out.kept b
    replace cXP0 : w2.cell? ⟨w.heap.size, 0, none⟩ = some s0 := XP0.out.cell
    replace XP1 : Hid (Bx w2 (w.heap.size + 1) s1) := XP1.out.kept b
    replace cXP1 : w2.cell? ⟨(w.heap.size + 1), 0, none⟩ = some s1 := XP1.out.cell
    replace XP2 : Hid (Bx w2 (w.heap.size + 1 + 1) s2) := XP2.out.kept b
    replace cXP2 : w2.cell? ⟨(w.heap.size + 1 + 1), 0, none⟩ = some s2 := XP2.out.cell
    clear b
    go_wp2_with fail
    refine (sz_yes ⟨_, rfl, (Rf1.out.ls (by have := Zw1.out; have := Zw2.out; omega))⟩ (by omega) (by omega)).mono ?_
    rintro e w3 ⟨rfl, b⟩
    have Zw3 : Hid (w2.heap.size ≤ w3.heap.size) := b.size
    replace B0 : Hid (Below w.heap.size w w3) := B0.out.trans (b.mono (by have := Zw1.out; have := Zw2.out; omega))
    replace Rf0 : Hid (Rd w3 w.heap.size s0 A0) := Rf0.out.below b (by have := Zw1.out; have := Zw2.out; omega)
    replace Rf1 : Hid (Rd w3 w.heap.size s1 A1) := Rf1.out.below b (by have := Zw1.out; have := Zw2.out; omega)
    replace Rf2 : Hid (Rd w3 w.heap.size s2 A2) := Rf2.out.below b (by have := Zw1.out; have := Zw2.out; omega)
    replace XP0 : Hid (Bx w3 w.heap.size s0) := XP0.out.kept b
    replace cXP0 : w3.cell? ⟨w.heap.size, 0, none⟩ = some s0 := XP0.out.cell
    replace XP1 : Hid (Bx w3 (w.heap.size + 1) s1) := XP1.out.kept b
    replace cXP1 : w3.cell? ⟨(w.heap.size + 1), 0, none⟩ = some s1 := XP1.out.cell
    replace XP2 : Hid (Bx w3 (w.heap.size + 1 + 1) s2) := XP2.out.kept b
    replace cXP2 : w3.cell? ⟨(w.heap.size + 1 + 1), 0, none⟩ = some s2 := XP2.out.cell
    clear b
    go_wp2_with fail
    refine (sz_no ⟨_, rfl, (Rf2.out.ls (by have := Zw1.out; have := Zw2.out; have := Zw3.out; omega))⟩ (by omega) (by omega) (by omega)).mono ?_
    rintro e w4 ⟨rfl, b⟩
    have Zw4 : Hid (w3.heap.size ≤ w4.heap.size) := b.size
    replace B0 : Hid (Below w.heap.size w w4) := B0.out.trans (b.mono (by have := Zw1.out; have := Zw2.out; have := Zw3.out; omega))
    replace Rf0 : Hid (Rd w4 w.heap.size s0 A0) := Rf0.out.below b (by have := Zw1.out; have := Zw2.out; have := Zw3.out; omega)
    replace Rf1 : Hid (Rd w4 w.heap.size s1 A1) := Rf1.out.below b (by have := Zw1.out; have := Zw2.out; have := Zw3.out; omega)
    replace Rf2 : Hid (Rd w4 w.heap.size s2 A2) := Rf2.out.below b (by have := Zw1.out; have := Zw2.out; have := Zw3.out; omega)
    replace XP0 : Hid (Bx w4 w.heap.size s0) := XP0.out.kept b
    replace cXP0 : w4.cell? ⟨w.heap.size, 0, none⟩ = some s0 := XP0.out.cell
    replace XP1 : Hid (Bx w4 (w.heap.size + 1) s1) := XP1.out.kept b
    replace cXP1 : w4.cell? ⟨(w.heap.size + 1), 0, none⟩ = some s1 := XP1.out.cell
    replace XP2 : Hid (Bx w4 (w.heap.size + 1 + 1) s2) := XP2.out.kept b
    replace cXP2 : w4.cell? ⟨(w.heap.size + 1 + 1), 0, none⟩ = some s2 := XP2.out.cell
    clear b
    go_wp2_with fail
    go_ret
    exact ⟨rfl, B0.out⟩
  go_enter Try.func3, Try.ntmps3
  go_wp2_with fail
  obtain ⟨w1, hw⟩ : ∃ x, x = (((w.alloc (.cells #[s0] 24)).alloc (.cells #[s1] 24)).alloc (.cells #[s2] 24)) := ⟨_, rfl⟩
  rw [← hw]
  have b : Below w.heap.size w w1 := by rw [hw]; exact new3 _ _ _ _ 
  have Zw1 : Hid (w.heap.size ≤ w1.heap.size) := b.size
  replace B0 : Hid (Below w.heap.size w w1) := B0.out.trans (b.mono (Nat.le_refl _))
  replace Rf0 : Hid (Rd w1 w.heap.size s0 A0) := Rf0.out.below b (Nat.le_refl _)
  replace Rf1 : Hid (Rd w1 w.heap.size s1 A1) := Rf1.out.below b (Nat.le_refl _)
  replace Rf2 : Hid (Rd w1 w.heap.size s2 A2) := Rf2.out.below b (Nat.le_refl _)
  have XP0 : Hid (Bx w1 w.heap.size s0) := by rw [hw]; exact Bx.alloc (Bx.alloc (Bx.new _ _ _) _) _
  have cXP0 : w1.cell? ⟨w.heap.size, 0, none⟩ = some s0 := XP0.out.cell
  have LXP0 : Hid (w.heap.size < w1.heap.size) := XP0.out.lt
  have XP1 : Hid (Bx w1 (w.heap.size + 1) s1) := by rw [hw]; exact Bx.alloc (Bx.new2 _ _ _ _ ) _
  have cXP1 : w1.cell? ⟨(w.heap.size + 1), 0, none⟩ = some s1 := XP1.out.cell
  have LXP1 : Hid ((w.heap.size + 1) < w1.heap.size) := XP1.out.lt
  have XP2 : Hid (Bx w1 (w.heap.size + 1 + 1) s2) := by rw [hw]; exact Bx.new3 _ _ _ _ _ 
  have cXP2 : w1.cell? ⟨(w.heap.size + 1 + 1), 0, none⟩ = some s2 := XP2.out.cell
  have LXP2 : Hid ((w.heap.size + 1 + 1) < w1.heap.size) := XP2.out.lt
  clear b hw
  refine (sz_yes ⟨_, rfl, (Rf0.out.ls (by have := Zw1.out; omega))⟩ (by omega) (by omega)).mono ?_
  rintro e w2 ⟨rfl, b⟩
  have Zw2 : Hid (w1.heap.size ≤ w2.heap.size) := b.size
  replace B0 : Hid (Below w.heap.size w w2) := B0.out.trans (b.mono (by have := Zw1.out; omega))
  replace Rf0 : Hid (Rd w2 w.heap.size s0 A0) := Rf0.out.below b (by have := Zw1.out; omega)
  replace Rf1 : Hid (Rd w2 w.heap.size s1 A1) := Rf1.out.below b (by have := Zw1.out; omega)
  replace Rf2 : Hid (Rd w2 w.heap.size s2 A2) := Rf2.out.below b (by have := Zw1.out; omega)
  replace XP0 : Hid (Bx w2 w.heap.size s0) := XP0.out.kept b
  replace cXP0 : w2.cell? ⟨w.heap.size, 0, none⟩ = some s0 := XP0.out.cell
  replace XP1 : Hid (Bx w2 (w.heap.size + 1) s1) := XP1.out.kept b
  replace cXP1 : w2.cell? ⟨(w.heap.size + 1), 0, none⟩ = some s1 := XP1.out.cell
  replace XP2 : Hid (Bx w2 (w.heap.size + 1 + 1) s2) := XP2.out.kept b
  replace cXP2 : w2.cell? ⟨(w.heap.size + 1 + 1), 0, none⟩ = some s2 := XP2.out.cell
  clear b
  go_wp2_with fail
  refine (sz_yes ⟨_, rfl, (Rf1.out.ls (by have := Zw1.out; have := Zw2.out; omega))⟩ (by omega) (by omega)).mono ?_
  rintro e w3 ⟨rfl, b⟩
  have Zw3 : Hid (w2.heap.size ≤ w3.heap.size) := b.size
  replace B0 : Hid (Below w.heap.size w w3) := B0.out.trans (b.mono (by have := Zw1.out; have := Zw2.out; omega))
  replace Rf0 : Hid (Rd w3 w.heap.size s0 A0) := Rf0.out.below b (by have := Zw1.out; have := Zw2.out; omega)
  replace Rf1 : Hid (Rd w3 w.heap.size s1 A1) := Rf1.out.below b (by have := Zw1.out; have := Zw2.out; omega)
  replace Rf2 : Hid (Rd w3 w.heap.size s2 A2) := Rf2.out.below b (by have := Zw1.out; have := Zw2.out; omega)
  replace XP0 : Hid (Bx w3 w.heap.size s0) := XP0.out.kept b
  replace cXP0 : w3.cell? ⟨w.heap.size, 0, none⟩ = some s0 := XP0.out.cell
  replace XP1 : Hid (Bx w3 (w.heap.size + 1) s1) := XP1.out.kept b
  replace cXP1 : w3.cell? ⟨(w.heap.size + 1), 0, none⟩ = some s1 := XP1.out.cell
  replace XP2 : Hid (Bx w3 (w.heap.size + 1 + 1) s2) := XP2.out.kept b
  replace cXP2 : w3.cell? ⟨(w.heap.size + 1 + 1), 0, none⟩ = some s2 := XP2.out.cell
  clear b
  go_wp2_with fail
  refine (sz_yes ⟨_, rfl, (Rf2.out.ls (by have := Zw1.out; have := Zw2.out; have := Zw3.out; omega))⟩ (by omega) (by omega)).mono ?_
  rintro e w4 ⟨rfl, b⟩
  have Zw4 : Hid (w3.heap.size ≤ w4.heap.size) := b.size
  replace B0 : Hid (Below w.heap.size w w4) := B0.out.trans (b.mono (by have := Zw1.out; have := Zw2.out; have := Zw3.out; omega))
  replace Rf0 : Hid (Rd w4 w.heap.size s0 A0) := Rf0.out.below b (by have := Zw1.out; have := Zw2.out; have := Zw3.out; omega)
  replace Rf1 : Hid (Rd w4 w.heap.size s1 A1) := Rf1.out.below b (by have := Zw1.out; have := Zw2.out; have := Zw3.out; omega)
  replace Rf2 : Hid (Rd w4 w.heap.size s2 A2) := Rf2.out.below b (by have := Zw1.out; have := Zw2.out; have := Zw3.out; omega)
  replace XP0 : Hid (Bx w4 w.heap.size s0) := XP0.out.kept b
  replace cXP0 : w4.cell? ⟨w.heap.size, 0, none⟩ = some s0 := XP0.out.cell
  replace XP1 : Hid (Bx w4 (w.heap.size + 1) s1) := XP1.out.kept b
  replace cXP1 : w4.cell? ⟨(w.heap.size + 1), 0, none⟩ = some s1 := XP1.out.cell
  replace XP2 : Hid (Bx w4 (w.heap.size + 1 + 1) s2) := XP2.out.kept b
  replace cXP2 : w4.cell? ⟨(w.heap.size + 1 + 1), 0, none⟩ = some s2 := XP2.out.cell
  clear b
  go_wp2_with fail
  go_upto_region 11 with fail
  go_cut [10, 11, 12] (fun sx sy sz wx => ∃ (bF bG : Nat) (ra : Option Addr) (rc : Nat) (sa : Option Addr) (sc : Nat), sx = .pointer (some ⟨bF, 0, none⟩) ∧ sy = .pointer (some ⟨bG, 0, none⟩) ∧ sz = .bool ok ∧ Hid (Fin2 w4 wx bF (.slice ra R.length rc) R bG (.slice sa R2.length sc) R2))
  case first =>
    as_aux_lemma =>
      have zzw1 := Zw1.out
      have zzw2 := Zw2.out
      have zzw3 := Zw3.out
      have zzw4 := Zw4.out
      refine inv.wp_region_inv (by kernel_rfl) [(0, 41), (1, 42), (2, 43), (3, 44), (4, 45), (5, 46), (6, 47), (7, 48), (8, 40), (9, 49), (10, 50), (11, 51), (12, 10), (13, 11), (16, 12)] (by decide) (lpr.F w4 s0 s1 s2 A0 A1 A2 a3 R R2 ok) (by kernel_rfl) (lpr.F.start _ _ _ _ _ _ _ _ _ _ _) ?hs ?he
      case he =>
        rintro l x w9 hl ⟨bA, bB, lo, hi, s, sb, g⟩
        have t (i : Nat) (h : i < 17) : l i = true := hl i h
        have hF : Hid (Fin2 w4 w9 bA s R bB sb R2) := g.fin (t 7 (by decide)) (t 12 (by decide)) (t 13 (by decide)) (t 14 (by decide)) (t 15 (by decide))
        obtain ⟨_, _, _, _, h5, h6⟩ := g.f7 (t 7 (by decide))
        obtain ⟨ra, rc, rfl⟩ := h5.shape
        obtain ⟨sa, sc, rfl⟩ := h6.shape
        simp only [inv.puts, List.foldl, Act.put, List.setIfInBounds_toArray, List.set_cons_zero, List.set_cons_succ]
        rw [(g.f12 (t 12 (by decide))).1, (g.f13 (t 13 (by decide))).1, g.f16 (t 16 (by decide))]
        clear hl g t h5 h6
        go_wp2_with fail
        go_meet
        exact ⟨bA, bB, ra, rc, sa, sc, rfl, rfl, rfl, hF⟩
      case hs =>
        refine inv.Each.cons (m := 1) (by decide) ?s0 ?_
        case s0 =>
          rintro l x w8 hd hl hw ⟨bA, bB, lo, hi, s, sb, g⟩ K hK
          simp only [inv.puts, List.foldl, Act.put, List.setIfInBounds_toArray, List.set_cons_zero, List.set_cons_succ]
          have c0 : w8.cell? ⟨w.heap.size, 0, none⟩ = some s0 := (XP0.out.kept g.bw).cell
          have hF9 := (g.step0).f
          clear g hd hw
          go_simp
          have h9 := hK.out _ _ hF9
          simp only [inv.puts, List.foldl, Act.put, List.setIfInBounds_toArray, List.set_cons_zero, List.set_cons_succ, inv.updv, Nat.reduceEqDiff, ↓reduceIte] at h9
          exact h9
        refine inv.Each.cons (m := 2) (by decide) ?s1 ?_
        case s1 =>
          rintro l x w8 hd hl hw ⟨bA, bB, lo, hi, s, sb, g⟩ K hK
          have d0 : l 0 = true := hw ⟨0, .data⟩ (by simp) rfl
          simp only [inv.puts, List.foldl, Act.put, List.setIfInBounds_toArray, List.set_cons_zero, List.set_cons_succ]
          have e9 := g.f0 d0
          rw [e9]
          go_simp
          go_at_call_of 8 (Value.agg #[s0])
          refine (toW_any ⟨_, rfl, (((Rf0.out.ls (by have := Zw1.out; have := Zw2.out; have := Zw3.out; have := Zw4.out; omega)).below g.bw))⟩ (by omega)).mono ?_
          rintro e w9 ⟨_, rfl, ⟨t0, rfl, ot⟩, b⟩
          have hF9 := (((g.world b).step1 ⟨_, rfl, ot.ls (Nat.le_refl _)⟩)).f
          clear g hd hw b ot
          have h9 := hK.out _ _ hF9
          simp only [inv.puts, List.foldl, Act.put, List.setIfInBounds_toArray, List.set_cons_zero, List.set_cons_succ, inv.updv, Nat.reduceEqDiff, ↓reduceIte] at h9
          rw [e9] at h9
          exact h9
        refine inv.Each.cons (m := 3) (by decide) ?s2 ?_
        case s2 =>
          rintro l x w8 hd hl hw ⟨bA, bB, lo, hi, s, sb, g⟩ K hK
          simp only [inv.puts, List.foldl, Act.put, List.setIfInBounds_toArray, List.set_cons_zero, List.set_cons_succ]
          have c0 : w8.cell? ⟨(w.heap.size + 1), 0, none⟩ = some s1 := (XP1.out.kept g.bw).cell
          have hF9 := (g.step2).f
          clear g hd hw
          go_simp
          have h9 := hK.out _ _ hF9
          simp only [inv.puts, List.foldl, Act.put, List.setIfInBounds_toArray, List.set_cons_zero, List.set_cons_succ, inv.updv, Nat.reduceEqDiff, ↓reduceIte] at h9
          exact h9
        refine inv.Each.cons (m := 4) (by decide) ?s3 ?_
        case s3 =>
          rintro l x w8 hd hl hw ⟨bA, bB, lo, hi, s, sb, g⟩ K hK
          have d2 : l 2 = true := hw ⟨2, .data⟩ (by simp) rfl
          simp only [inv.puts, List.foldl, Act.put, List.setIfInBounds_toArray, List.set_cons_zero, List.set_cons_succ]
          have e9 := g.f2 d2
          rw [e9]
          go_simp
          go_at_call_of 8 (Value.agg #[s1])
          refine (toW_any ⟨_, rfl, (((Rf1.out.ls (by have := Zw1.out; have := Zw2.out; have := Zw3.out; have := Zw4.out; omega)).below g.bw))⟩ (by omega)).mono ?_
          rintro e w9 ⟨_, rfl, ⟨t0, rfl, ot⟩, b⟩
          have hF9 := (((g.world b).step3 ⟨_, rfl, ot.ls (Nat.le_refl _)⟩)).f
          clear g hd hw b ot
          have h9 := hK.out _ _ hF9
          simp only [inv.puts, List.foldl, Act.put, List.setIfInBounds_toArray, List.set_cons_zero, List.set_cons_succ, inv.updv, Nat.reduceEqDiff, ↓reduceIte] at h9
          rw [e9] at h9
          exact h9
        refine inv.Each.cons (m := 5) (by decide) ?s4 ?_
        case s4 =>
          rintro l x w8 hd hl hw ⟨bA, bB, lo, hi, s, sb, g⟩ K hK
          simp only [inv.puts, List.foldl, Act.put, List.setIfInBounds_toArray, List.set_cons_zero, List.set_cons_succ]
          have c0 : w8.cell? ⟨(w.heap.size + 1 + 1), 0, none⟩ = some s2 := (XP2.out.kept g.bw).cell
          have hF9 := (g.step4).f
          clear g hd hw
          go_simp
          have h9 := hK.out _ _ hF9
          simp only [inv.puts, List.foldl, Act.put, List.setIfInBounds_toArray, List.set_cons_zero, List.set_cons_succ, inv.updv, Nat.reduceEqDiff, ↓reduceIte] at h9
          exact h9
        refine inv.Each.cons (m := 6) (by decide) ?s5 ?_
        case s5 =>
          rintro l x w8 hd hl hw ⟨bA, bB, lo, hi, s, sb, g⟩ K hK
          have d4 : l 4 = true := hw ⟨4, .data⟩ (by simp) rfl
          simp only [inv.puts, List.foldl, Act.put, List.setIfInBounds_toArray, List.set_cons_zero, List.set_cons_succ]
          have e9 := g.f4 d4
          rw [e9]
          go_simp
          go_at_call_of 8 (Value.agg #[s2])
          refine (toW_any ⟨_, rfl, (((Rf2.out.ls (by have := Zw1.out; have := Zw2.out; have := Zw3.out; have := Zw4.out; omega)).below g.bw))⟩ (by omega)).mono ?_
          rintro e w9 ⟨_, rfl, ⟨t0, rfl, ot⟩, b⟩
          have hF9 := (((g.world b).step5 ⟨_, rfl, ot.ls (Nat.le_refl _)⟩)).f
          clear g hd hw b ot
          have h9 := hK.out _ _ hF9
          simp only [inv.puts, List.foldl, Act.put, List.setIfInBounds_toArray, List.set_cons_zero, List.set_cons_succ, inv.updv, Nat.reduceEqDiff, ↓reduceIte] at h9
          rw [e9] at h9
          exact h9
        refine inv.Each.cons (m := 7) (by decide) ?s6 ?_
        case s6 =>
          rintro l x w8 hd hl hw ⟨bA, bB, lo, hi, s, sb, g⟩ K hK
          simp only [inv.puts, List.foldl, Act.put, List.setIfInBounds_toArray, List.set_cons_zero, List.set_cons_succ]
          have hF9 := (g.step6).f
          clear g hd hw
          go_simp
          have h9 := hK.out _ _ hF9
          simp only [inv.puts, List.foldl, Act.put, List.setIfInBounds_toArray, List.set_cons_zero, List.set_cons_succ, inv.updv, Nat.reduceEqDiff, ↓reduceIte] at h9
          exact h9
        refine inv.Each.cons (m := 8) (by decide) ?s7 ?_
        case s7 =>
          rintro l x w8 hd hl hw ⟨bA, bB, lo, hi, s, sb, g⟩ K hK
          have d1 : l 1 = true := hw ⟨1, .data⟩ (by simp) rfl
          have d3 : l 3 = true := hw ⟨3, .data⟩ (by simp) rfl
          have d5 : l 5 = true := hw ⟨5, .data⟩ (by simp) rfl
          have d6 : l 6 = true := hw ⟨6, .data⟩ (by simp) rfl
          simp only [inv.puts, List.foldl, Act.put, List.setIfInBounds_toArray, List.set_cons_zero, List.set_cons_succ]
          have n8 : l 8 = false := hd.no (j := 8) (e := ⟨7, .data⟩) rfl (by simp) rfl hl
          have n9 : l 9 = false := hd.no (j := 9) (e := ⟨8, .data⟩) rfl (by simp) rfl n8
          have n10 : l 10 = false := hd.no (j := 10) (e := ⟨8, .data⟩) rfl (by simp) rfl n8
          have n11 : l 11 = false := hd.no (j := 11) (e := ⟨8, .data⟩) rfl (by simp) rfl n8
          have n14 : l 14 = false := hd.no (j := 14) (e := ⟨9, .data⟩) rfl (by simp) rfl n9
          have n15 : l 15 = false := hd.no (j := 15) (e := ⟨10, .data⟩) rfl (by simp) rfl n10
          obtain ⟨_, u0, k0⟩ := g.f1 d1 hl; obtain ⟨_, u1, k1⟩ := g.f3 d3 hl; obtain ⟨_, u2, k2⟩ := g.f5 d5 hl
          have u6 := g.f6 d6
          rw [u0, u1, u2, u6]
          go_simp
          go_at_call 7
          refine (HS.out w8 _ _ _ k0 k1 k2).mono ?_
          rintro e w9 ⟨_, _, rfl, ⟨t0, rfl, o0⟩, ⟨t1, rfl, o1⟩, b⟩
          have hF9 := ((g.world b).step7 n8 n9 n10 n11 n14 n15 g.bw.size b.size (Nat.le_refl _) o0 o1 (fun h => (g.f12 h).2.2.1.lt) (fun h => (g.f13 h).2.2.1.lt)).f
          clear g hd hw b o0 o1 k0 k1 k2
          have h9 := hK.out _ _ hF9
          simp only [inv.puts, List.foldl, Act.put, List.setIfInBounds_toArray, List.set_cons_zero, List.set_cons_succ, inv.updv, Nat.reduceEqDiff, ↓reduceIte] at h9
          rw [u0, u1, u2, u6] at h9
          exact h9
        refine inv.Each.cons (m := 9) (by decide) ?s8 ?_
        case s8 =>
          rintro l x w8 hd hl hw ⟨bA, bB, lo, hi, s, sb, g⟩ K hK
          have d7 : l 7 = true := hw ⟨7, .data⟩ (by simp) rfl
          simp only [inv.puts, List.foldl, Act.put, List.setIfInBounds_toArray, List.set_cons_zero, List.set_cons_succ]
          have e9 := (g.f7 d7).1
          rw [e9]
          have hF9 := (g.step8).f
          clear g hd hw
          go_simp
          have h9 := hK.out _ _ hF9
          simp only [inv.puts, List.foldl, Act.put, List.setIfInBounds_toArray, List.set_cons_zero, List.set_cons_succ, inv.updv, Nat.reduceEqDiff, ↓reduceIte] at h9
          rw [e9] at h9
          exact h9
        refine inv.Each.cons (m := 10) (by decide) ?s9 ?_
        case s9 =>
          rintro l x w8 hd hl hw ⟨bA, bB, lo, hi, s, sb, g⟩ K hK
          have d8 : l 8 = true := hw ⟨8, .data⟩ (by simp) rfl
          simp only [inv.puts, List.foldl, Act.put, List.setIfInBounds_toArray, List.set_cons_zero, List.set_cons_succ]
          have e9 := g.f8 d8
          rw [e9]
          have hF9 := (g.step9).f
          clear g hd hw
          go_simp
          have h9 := hK.out _ _ hF9
          simp only [inv.puts, List.foldl, Act.put, List.setIfInBounds_toArray, List.set_cons_zero, List.set_cons_succ, inv.updv, Nat.reduceEqDiff, ↓reduceIte] at h9
          rw [e9] at h9
          exact h9
        refine inv.Each.cons (m := 11) (by decide) ?s10 ?_
        case s10 =>
          rintro l x w8 hd hl hw ⟨bA, bB, lo, hi, s, sb, g⟩ K hK
          have d8 : l 8 = true := hw ⟨8, .data⟩ (by simp) rfl
          simp only [inv.puts, List.foldl, Act.put, List.setIfInBounds_toArray, List.set_cons_zero, List.set_cons_succ]
          have e9 := g.f8 d8
          rw [e9]
          have hF9 := (g.step10).f
          clear g hd hw
          go_simp
          have h9 := hK.out _ _ hF9
          simp only [inv.puts, List.foldl, Act.put, List.setIfInBounds_toArray, List.set_cons_zero, List.set_cons_succ, inv.updv, Nat.reduceEqDiff, ↓reduceIte] at h9
          rw [e9] at h9
          exact h9
        refine inv.Each.cons (m := 12) (by decide) ?s11 ?_
        case s11 =>
          rintro l x w8 hd hl hw ⟨bA, bB, lo, hi, s, sb, g⟩ K hK
          have d8 : l 8 = true := hw ⟨8, .data⟩ (by simp) rfl
          simp only [inv.puts, List.foldl, Act.put, List.setIfInBounds_toArray, List.set_cons_zero, List.set_cons_succ]
          have e9 := g.f8 d8
          rw [e9]
          have hF9 := (g.step11).f
          clear g hd hw
          go_simp
          have h9 := hK.out _ _ hF9
          simp only [inv.puts, List.foldl, Act.put, List.setIfInBounds_toArray, List.set_cons_zero, List.set_cons_succ, inv.updv, Nat.reduceEqDiff, ↓reduceIte] at h9
          rw [e9] at h9
          exact h9
        refine inv.Each.cons (m := 13) (by decide) ?s12 ?_
        case s12 =>
          rintro l x w8 hd hl hw ⟨bA, bB, lo, hi, s, sb, g⟩ K hK
          simp only [inv.puts, List.foldl, Act.put, List.setIfInBounds_toArray, List.set_cons_zero, List.set_cons_succ]
          have n14 : l 14 = false := hd.no (j := 14) (e := ⟨12, .data⟩) rfl (by simp) rfl hl
          have hF9 := (g.step12 n14).f
          clear g hd hw
          go_simp
          have h9 := hK.out _ _ hF9
          simp only [inv.puts, List.foldl, Act.put, List.setIfInBounds_toArray, List.set_cons_zero, List.set_cons_succ, inv.updv, Nat.reduceEqDiff, ↓reduceIte] at h9
          exact h9
        refine inv.Each.cons (m := 14) (by decide) ?s13 ?_
        case s13 =>
          rintro l x w8 hd hl hw ⟨bA, bB, lo, hi, s, sb, g⟩ K hK
          simp only [inv.puts, List.foldl, Act.put, List.setIfInBounds_toArray, List.set_cons_zero, List.set_cons_succ]
          have n15 : l 15 = false := hd.no (j := 15) (e := ⟨13, .data⟩) rfl (by simp) rfl hl
          have hF9 := (g.step13 n15).f
          clear g hd hw
          go_simp
          have h9 := hK.out _ _ hF9
          simp only [inv.puts, List.foldl, Act.put, List.setIfInBounds_toArray, List.set_cons_zero, List.set_cons_succ, inv.updv, Nat.reduceEqDiff, ↓reduceIte] at h9
          exact h9
        refine inv.Each.cons (m := 15) (by decide) ?s14 ?_
        case s14 =>
          rintro l x w8 hd hl hw ⟨bA, bB, lo, hi, s, sb, g⟩ K hK
          have d7 : l 7 = true := hw ⟨7, .chain⟩ (by simp) rfl
          have d12 : l 12 = true := hw ⟨12, .phase⟩ (by simp) rfl
          have d13 : l 13 = true := hw ⟨13, .phase⟩ (by simp) rfl
          have d9 : l 9 = true := hw ⟨9, .data⟩ (by simp) rfl
          simp only [inv.puts, List.foldl, Act.put, List.setIfInBounds_toArray, List.set_cons_zero, List.set_cons_succ]
          obtain ⟨h1, h2, h3, h4, h5, h6⟩ := g.f7 d7; obtain ⟨ra, rc, rfl⟩ := h5.shape; obtain ⟨sa, sc, rfl⟩ := h6.shape; clear h1 h2 h3 h4 h5 h6
          have e8 := (g.f12 d12).1; have e9 := g.f9 d9
          have bx := (g.f12 d12).2.2.1; rw [hl] at bx; have cb : w8.cell? ⟨bA, 0, none⟩ = some (.slice none 0 0) := bx.cell; have fb := bx.free
          rw [e8, e9]
          have hF9 := (g.step14 d12 d13 d7 undef).f
          clear g hd hw bx
          go_simp
          have h9 := hK.out _ _ hF9
          simp only [inv.puts, List.foldl, Act.put, List.setIfInBounds_toArray, List.set_cons_zero, List.set_cons_succ, inv.updv, Nat.reduceEqDiff, ↓reduceIte] at h9
          rw [e8, e9] at h9
          exact h9
        refine inv.Each.cons (m := 16) (by decide) ?s15 ?_
        case s15 =>
          rintro l x w8 hd hl hw ⟨bA, bB, lo, hi, s, sb, g⟩ K hK
          have d7 : l 7 = true := hw ⟨7, .phase⟩ (by simp) rfl
          have d12 : l 12 = true := hw ⟨12, .phase⟩ (by simp) rfl
          have d13 : l 13 = true := hw ⟨13, .phase⟩ (by simp) rfl
          have d10 : l 10 = true := hw ⟨10, .data⟩ (by simp) rfl
          simp only [inv.puts, List.foldl, Act.put, List.setIfInBounds_toArray, List.set_cons_zero, List.set_cons_succ]
          obtain ⟨h1, h2, h3, h4, h5, h6⟩ := g.f7 d7; obtain ⟨ra, rc, rfl⟩ := h5.shape; obtain ⟨sa, sc, rfl⟩ := h6.shape; clear h1 h2 h3 h4 h5 h6
          have e8 := (g.f13 d13).1; have e9 := g.f10 d10
          have bx := (g.f13 d13).2.2.1; rw [hl] at bx; have cb : w8.cell? ⟨bB, 0, none⟩ = some (.slice none 0 0) := bx.cell; have fb := bx.free
          rw [e8, e9]
          have hF9 := (g.step15 d13 d12 d7 undef).f
          clear g hd hw bx
          go_simp
          have h9 := hK.out _ _ hF9
          simp only [inv.puts, List.foldl, Act.put, List.setIfInBounds_toArray, List.set_cons_zero, List.set_cons_succ, inv.updv, Nat.reduceEqDiff, ↓reduceIte] at h9
          rw [e8, e9] at h9
          exact h9
        refine inv.Each.cons (m := 17) (by decide) ?s16 ?_
        case s16 =>
          rintro l x w8 hd hl hw ⟨bA, bB, lo, hi, s, sb, g⟩ K hK
          have d11 : l 11 = true := hw ⟨11, .data⟩ (by simp) rfl
          simp only [inv.puts, List.foldl, Act.put, List.setIfInBounds_toArray, List.set_cons_zero, List.set_cons_succ]
          have e9 := g.f11 d11
          rw [e9]
          have hF9 := (g.step16).f
          clear g hd hw
          go_simp
          have h9 := hK.out _ _ hF9
          simp only [inv.puts, List.foldl, Act.put, List.setIfInBounds_toArray, List.set_cons_zero, List.set_cons_succ, inv.updv, Nat.reduceEqDiff, ↓reduceIte] at h9
          rw [e9] at h9
          exact h9
        exact inv.Each.nil
  case rest =>
  obtain ⟨rF, rG, rra, rrc, rsa, rsc, rfl, rfl, rfl, hF⟩ := hcut
  obtain ⟨hF1, hG1, hFG, hF2, hG2, hF3, hG3, b⟩ := hF.out
  generalize hwc : wc = w5 at *
  clear hwc hF hFG
  have Zw5 : Hid (w4.heap.size ≤ w5.heap.size) := b.size
  replace B0 : Hid (Below w.heap.size w w5) := B0.out.trans (b.mono (by have := Zw1.out; have := Zw2.out; have := Zw3.out; have := Zw4.out; omega))
  replace Rf0 : Hid (Rd w5 w.heap.size s0 A0) := Rf0.out.below b (by have := Zw1.out; have := Zw2.out; have := Zw3.out; have := Zw4.out; omega)
  replace Rf1 : Hid (Rd w5 w.heap.size s1 A1) := Rf1.out.below b (by have := Zw1.out; have := Zw2.out; have := Zw3.out; have := Zw4.out; omega)
  replace Rf2 : Hid (Rd w5 w.heap.size s2 A2) := Rf2.out.below b (by have := Zw1.out; have := Zw2.out; have := Zw3.out; have := Zw4.out; omega)
  replace XP0 : Hid (Bx w5 w.heap.size s0) := XP0.out.kept b
  replace cXP0 : w5.cell? ⟨w.heap.size, 0, none⟩ = some s0 := XP0.out.cell
  replace XP1 : Hid (Bx w5 (w.heap.size + 1) s1) := XP1.out.kept b
  replace cXP1 : w5.cell? ⟨(w.heap.size + 1), 0, none⟩ = some s1 := XP1.out.cell
  replace XP2 : Hid (Bx w5 (w.heap.size + 1 + 1) s2) := XP2.out.kept b
  replace cXP2 : w5.cell? ⟨(w.heap.size + 1 + 1), 0, none⟩ = some s2 := XP2.out.cell
  have Or0 : Hid (Rd w5 w5.heap.size (.slice rra R.length rrc) R) := hF3
  have XS0 : Hid (Bx w5 rF (.slice rra R.length rrc)) := hF2
  have cXS0 : w5.cell? ⟨rF, 0, none⟩ = some (.slice rra R.length rrc) := XS0.out.cell
  have LXS0 : Hid (rF < w5.heap.size) := XS0.out.lt
  have GXS0 : Hid (w4.heap.size ≤ rF) := hF1
  have Or1 : Hid (Rd w5 w5.heap.size (.slice rsa R2.length rsc) R2) := hG3
  have XS1 : Hid (Bx w5 rG (.slice rsa R2.length rsc)) := hG2
  have cXS1 : w5.cell? ⟨rG, 0, none⟩ = some (.slice rsa R2.length rsc) := XS1.out.cell
  have LXS1 : Hid (rG < w5.heap.size) := XS1.out.lt
  have GXS1 : Hid (w4.heap.size ≤ rG) := hG1
  clear hF1 hG1 hF2 hG2 hF3 hG3 b
  go_wp2_with fail
  refine (toW_any ⟨_, rfl, (Rf0.out.ls (by have := Zw1.out; have := Zw2.out; have := Zw3.out; have := Zw4.out; have := Zw5.out; omega))⟩ (by omega)).mono ?_
  rintro e w6 ⟨_, rfl, ⟨x0, rfl, o⟩, b⟩
  obtain ⟨x0a, x0c, rfl⟩ := o.shape
  have Zw6 : Hid (w5.heap.size ≤ w6.heap.size) := b.size
  replace B0 : Hid (Below w.heap.size w w6) := B0.out.trans (b.mono (by have := Zw1.out; have := Zw2.out; have := Zw3.out; have := Zw4.out; have := Zw5.out; omega))
  replace Rf0 : Hid (Rd w6 w.heap.size s0 A0) := Rf0.out.below b (by have := Zw1.out; have := Zw2.out; have := Zw3.out; have := Zw4.out; have := Zw5.out; omega)
  replace Rf1 : Hid (Rd w6 w.heap.size s1 A1) := Rf1.out.below b (by have := Zw1.out; have := Zw2.out; have := Zw3.out; have := Zw4.out; have := Zw5.out; omega)
  replace Rf2 : Hid (Rd w6 w.heap.size s2 A2) := Rf2.out.below b (by have := Zw1.out; have := Zw2.out; have := Zw3.out; have := Zw4.out; have := Zw5.out; omega)
  replace Or0 : Hid (Rd w6 w5.heap.size (.slice rra R.length rrc) R) := Or0.out.below b (Nat.le_refl _)
  replace Or1 : Hid (Rd w6 w5.heap.size (.slice rsa R2.length rsc) R2) := Or1.out.below b (Nat.le_refl _)
  replace XP0 : Hid (Bx w6 w.heap.size s0) := XP0.out.kept b
  replace cXP0 : w6.cell? ⟨w.heap.size, 0, none⟩ = some s0 := XP0.out.cell
  replace XP1 : Hid (Bx w6 (w.heap.size + 1) s1) := XP1.out.kept b
  replace cXP1 : w6.cell? ⟨(w.heap.size + 1), 0, none⟩ = some s1 := XP1.out.cell
  replace XP2 : Hid (Bx w6 (w.heap.size + 1 + 1) s2) := XP2.out.kept b
  replace cXP2 : w6.cell? ⟨(w.heap.size + 1 + 1), 0, none⟩ = some s2 := XP2.out.cell
  replace XS0 : Hid (Bx w6 rF (.slice rra R.length rrc)) := XS0.out.kept b
  replace cXS0 : w6.cell? ⟨rF, 0, none⟩ = some (.slice rra R.length rrc) := XS0.out.cell
  replace XS1 : Hid (Bx w6 rG (.slice rsa R2.length rsc)) := XS1.out.kept b
  replace cXS1 : w6.cell? ⟨rG, 0, none⟩ = some (.slice rsa R2.length rsc) := XS1.out.cell
  have Ox0 : Hid (wh.Own w6 w5.heap.size w6.heap.size (.slice x0a A0.length x0c) A0) := o
  clear o b
  have dXP0 : (w6.alloc (.cells #[(.slice x0a A0.length x0c)] 26)).cell? ⟨w.heap.size, 0, none⟩ = some s0 := (XP0.out.alloc _).cell
  have dXP1 : (w6.alloc (.cells #[(.slice x0a A0.length x0c)] 26)).cell? ⟨(w.heap.size + 1), 0, none⟩ = some s1 := (XP1.out.alloc _).cell
  have dXP2 : (w6.alloc (.cells #[(.slice x0a A0.length x0c)] 26)).cell? ⟨(w.heap.size + 1 + 1), 0, none⟩ = some s2 := (XP2.out.alloc _).cell
  have dXS0 : (w6.alloc (.cells #[(.slice x0a A0.length x0c)] 26)).cell? ⟨rF, 0, none⟩ = some (.slice rra R.length rrc) := (XS0.out.alloc _).cell
  have dXS1 : (w6.alloc (.cells #[(.slice x0a A0.length x0c)] 26)).cell? ⟨rG, 0, none⟩ = some (.slice rsa R2.length rsc) := (XS1.out.alloc _).cell
  go_wp2_with fail
  clear dXP0 dXP1 dXP2 dXS0 dXS1
  obtain ⟨w7, hw⟩ : ∃ x, x = w6.alloc (.cells #[(.slice x0a A0.length x0c)] 26) := ⟨_, rfl⟩
  rw [← hw]
  have b : Below w6.heap.size w6 w7 := by rw [hw]; exact new1 _ _
  have x : Bx w7 w6.heap.size (.slice x0a A0.length x0c) := by rw [hw]; exact Bx.new _ _ _
  have Zw7 : Hid (w6.heap.size ≤ w7.heap.size) := b.size
  replace B0 : Hid (Below w.heap.size w w7) := B0.out.trans (b.mono (by have := Zw1.out; have := Zw2.out; have := Zw3.out; have := Zw4.out; have := Zw5.out; have := Zw6.out; omega))
  replace Rf0 : Hid (Rd w7 w.heap.size s0 A0) := Rf0.out.below b (by have := Zw1.out; have := Zw2.out; have := Zw3.out; have := Zw4.out; have := Zw5.out; have := Zw6.out; omega)
  replace Rf1 : Hid (Rd w7 w.heap.size s1 A1) := Rf1.out.below b (by have := Zw1.out; have := Zw2.out; have := Zw3.out; have := Zw4.out; have := Zw5.out; have := Zw6.out; omega)
  replace Rf2 : Hid (Rd w7 w.heap.size s2 A2) := Rf2.out.below b (by have := Zw1.out; have := Zw2.out; have := Zw3.out; have := Zw4.out; have := Zw5.out; have := Zw6.out; omega)
  replace Or0 : Hid (Rd w7 w5.heap.size (.slice rra R.length rrc) R) := Or0.out.below b (by have := Zw6.out; omega)
  replace Or1 : Hid (Rd w7 w5.heap.size (.slice rsa R2.length rsc) R2) := Or1.out.below b (by have := Zw6.out; omega)
  replace Ox0 : Hid (wh.Own w7 w5.heap.size w6.heap.size (.slice x0a A0.length x0c) A0) := Ox0.out.below b (Nat.le_refl _)
  replace XP0 : Hid (Bx w7 w.heap.size s0) := XP0.out.kept b
  replace cXP0 : w7.cell? ⟨w.heap.size, 0, none⟩ = some s0 := XP0.out.cell
  replace XP1 : Hid (Bx w7 (w.heap.size + 1) s1) := XP1.out.kept b
  replace cXP1 : w7.cell? ⟨(w.heap.size + 1), 0, none⟩ = some s1 := XP1.out.cell
  replace XP2 : Hid (Bx w7 (w.heap.size + 1 + 1) s2) := XP2.out.kept b
  replace cXP2 : w7.cell? ⟨(w.heap.size + 1 + 1), 0, none⟩ = some s2 := XP2.out.cell
  replace XS0 : Hid (Bx w7 rF (.slice rra R.length rrc)) := XS0.out.kept b
  replace cXS0 : w7.cell? ⟨rF, 0, none⟩ = some (.slice rra R.length rrc) := XS0.out.cell
  replace XS1 : Hid (Bx w7 rG (.slice rsa R2.length rsc)) := XS1.out.kept b
  replace cXS1 : w7.cell? ⟨rG, 0, none⟩ = some (.slice rsa R2.length rsc) := XS1.out.cell
  have XX0 : Hid (Bx w7 w6.heap.size (.slice x0a A0.length x0c)) := x
  have cXX0 : w7.cell? ⟨w6.heap.size, 0, none⟩ = some (.slice x0a A0.length x0c) := XX0.out.cell
  have LXX0 : Hid (w6.heap.size < w7.heap.size) := XX0.out.lt
  clear b hw x
  refine (toW_any ⟨_, rfl, (Rf1.out.ls (by have := Zw1.out; have := Zw2.out; have := Zw3.out; have := Zw4.out; have := Zw5.out; have := Zw6.out; have := Zw7.out; omega))⟩ (by omega)).mono ?_
  rintro e w8 ⟨_, rfl, ⟨x1, rfl, o⟩, b⟩
  obtain ⟨x1a, x1c, rfl⟩ := o.shape
  have Zw8 : Hid (w7.heap.size ≤ w8.heap.size) := b.size
  replace B0 : Hid (Below w.heap.size w w8) := B0.out.trans (b.mono (by have := Zw1.out; have := Zw2.out; have := Zw3.out; have := Zw4.out; have := Zw5.out; have := Zw6.out; have := Zw7.out; omega))
  replace Rf0 : Hid (Rd w8 w.heap.size s0 A0) := Rf0.out.below b (by have := Zw1.out; have := Zw2.out; have := Zw3.out; have := Zw4.out; have := Zw5.out; have := Zw6.out; have := Zw7.out; omega)
  replace Rf1 : Hid (Rd w8 w.heap.size s1 A1) := Rf1.out.below b (by have := Zw1.out; have := Zw2.out; have := Zw3.out; have := Zw4.out; have := Zw5.out; have := Zw6.out; have := Zw7.out; omega)
  replace Rf2 : Hid (Rd w8 w.heap.size s2 A2) := Rf2.out.below b (by have := Zw1.out; have := Zw2.out; have := Zw3.out; have := Zw4.out; have := Zw5.out; have := Zw6.out; have := Zw7.out; omega)
  replace Or0 : Hid (Rd w8 w5.heap.size (.slice rra R.length rrc) R) := Or0.out.below b (by have := Zw6.out; have := Zw7.out; omega)
  replace Or1 : Hid (Rd w8 w5.heap.size (.slice rsa R2.length rsc) R2) := Or1.out.below b (by have := Zw6.out; have := Zw7.out; omega)
  replace Ox0 : Hid (wh.Own w8 w5.heap.size w6.heap.size (.slice x0a A0.length x0c) A0) := Ox0.out.below b (by have := Zw7.out; omega)
  replace XP0 : Hid (Bx w8 w.heap.size s0) := XP0.out.kept b
  replace cXP0 : w8.cell? ⟨w.heap.size, 0, none⟩ = some s0 := XP0.out.cell
  replace XP1 : Hid (Bx w8 (w.heap.size + 1) s1) := XP1.out.kept b
  replace cXP1 : w8.cell? ⟨(w.heap.size + 1), 0, none⟩ = some s1 := XP1.out.cell
  replace XP2 : Hid (Bx w8 (w.heap.size + 1 + 1) s2) := XP2.out.kept b
  replace cXP2 : w8.cell? ⟨(w.heap.size + 1 + 1), 0, none⟩ = some s2 := XP2.out.cell
  replace XS0 : Hid (Bx w8 rF (.slice rra R.length rrc)) := XS0.out.kept b
  replace cXS0 : w8.cell? ⟨rF, 0, none⟩ = some (.slice rra R.length rrc) := XS0.out.cell
  replace XS1 : Hid (Bx w8 rG (.slice rsa R2.length rsc)) := XS1.out.kept b
  replace cXS1 : w8.cell? ⟨rG, 0, none⟩ = some (.slice rsa R2.length rsc) := XS1.out.cell
  replace XX0 : Hid (Bx w8 w6.heap.size (.slice x0a A0.length x0c)) := XX0.out.kept b
  replace cXX0 : w8.cell? ⟨w6.heap.size, 0, none⟩ = some (.slice x0a A0.length x0c) := XX0.out.cell
  have Ox1 : Hid (wh.Own w8 w7.heap.size w8.heap.size (.slice x1a A1.length x1c) A1) := o
  clear o b
  have dXP0 : (w8.alloc (.cells #[(.slice x1a A1.length x1c)] 26)).cell? ⟨w.heap.size, 0, none⟩ = some s0 := (XP0.out.alloc _).cell
  have dXP1 : (w8.alloc (.cells #[(.slice x1a A1.length x1c)] 26)).cell? ⟨(w.heap.size + 1), 0, none⟩ = some s1 := (XP1.out.alloc _).cell
  have dXP2 : (w8.alloc (.cells #[(.slice x1a A1.length x1c)] 26)).cell? ⟨(w.heap.size + 1 + 1), 0, none⟩ = some s2 := (XP2.out.alloc _).cell
  have dXS0 : (w8.alloc (.cells #[(.slice x1a A1.length x1c)] 26)).cell? ⟨rF, 0, none⟩ = some (.slice rra R.length rrc) := (XS0.out.alloc _).cell
  have dXS1 : (w8.alloc (.cells #[(.slice x1a A1.length x1c)] 26)).cell? ⟨rG, 0, none⟩ = some (.slice rsa R2.length rsc) := (XS1.out.alloc _).cell
  have dXX0 : (w8.alloc (.cells #[(.slice x1a A1.length x1c)] 26)).cell? ⟨w6.heap.size, 0, none⟩ = some (.slice x0a A0.length x0c) := (XX0.out.alloc _).cell
  go_wp2_with fail
  clear dXP0 dXP1 dXP2 dXS0 dXS1 dXX0
  obtain ⟨w9, hw⟩ : ∃ x, x = w8.alloc (.cells #[(.slice x1a A1.length x1c)] 26) := ⟨_, rfl⟩
  rw [← hw]
  have b : Below w8.heap.size w8 w9 := by rw [hw]; exact new1 _ _
  have x : Bx w9 w8.heap.size (.slice x1a A1.length x1c) := by rw [hw]; exact Bx.new _ _ _
  have Zw9 : Hid (w8.heap.size ≤ w9.heap.size) := b.size
  replace B0 : Hid (Below w.heap.size w w9) := B0.out.trans (b.mono (by have := Zw1.out; have := Zw2.out; have := Zw3.out; have := Zw4.out; have := Zw5.out; have := Zw6.out; have := Zw7.out; have := Zw8.out; omega))
  replace Rf0 : Hid (Rd w9 w.heap.size s0 A0) := Rf0.out.below b (by have := Zw1.out; have := Zw2.out; have := Zw3.out; have := Zw4.out; have := Zw5.out; have := Zw6.out; have := Zw7.out; have := Zw8.out; omega)
  replace Rf1 : Hid (Rd w9 w.heap.size s1 A1) := Rf1.out.below b (by have := Zw1.out; have := Zw2.out; have := Zw3.out; have := Zw4.out; have := Zw5.out; have := Zw6.out; have := Zw7.out; have := Zw8.out; omega)
  replace Rf2 : Hid (Rd w9 w.heap.size s2 A2) := Rf2.out.below b (by have := Zw1.out; have := Zw2.out; have := Zw3.out; have := Zw4.out; have := Zw5.out; have := Zw6.out; have := Zw7.out; have := Zw8.out; omega)
  replace Or0 : Hid (Rd w9 w5.heap.size (.slice rra R.length rrc) R) := Or0.out.below b (by have := Zw6.out; have := Zw7.out; have := Zw8.out; omega)
  replace Or1 : Hid (Rd w9 w5.heap.size (.slice rsa R2.length rsc) R2) := Or1.out.below b (by have := Zw6.out; have := Zw7.out; have := Zw8.out; omega)
  replace Ox0 : Hid (wh.Own w9 w5.heap.size w6.heap.size (.slice x0a A0.length x0c) A0) := Ox0.out.below b (by have := Zw7.out; have := Zw8.out; omega)
  replace Ox1 : Hid (wh.Own w9 w7.heap.size w8.heap.size (.slice x1a A1.length x1c) A1) := Ox1.out.below b (Nat.le_refl _)
  replace XP0 : Hid (Bx w9 w.heap.size s0) := XP0.out.kept b
  replace cXP0 : w9.cell? ⟨w.heap.size, 0, none⟩ = some s0 := XP0.out.cell
  replace XP1 : Hid (Bx w9 (w.heap.size + 1) s1) := XP1.out.kept b
  replace cXP1 : w9.cell? ⟨(w.heap.size + 1), 0, none⟩ = some s1 := XP1.out.cell
  replace XP2 : Hid (Bx w9 (w.heap.size + 1 + 1) s2) := XP2.out.kept b
  replace cXP2 : w9.cell? ⟨(w.heap.size + 1 + 1), 0, none⟩ = some s2 := XP2.out.cell
  replace XS0 : Hid (Bx w9 rF (.slice rra R.length rrc)) := XS0.out.kept b
  replace cXS0 : w9.cell? ⟨rF, 0, none⟩ = some (.slice rra R.length rrc) := XS0.out.cell
  replace XS1 : Hid (Bx w9 rG (.slice rsa R2.length rsc)) := XS1.out.kept b
  replace cXS1 : w9.cell? ⟨rG, 0, none⟩ = some (.slice rsa R2.length rsc) := XS1.out.cell
  replace XX0 : Hid (Bx w9 w6.heap.size (.slice x0a A0.length x0c)) := XX0.out.kept b
  replace cXX0 : w9.cell? ⟨w6.heap.size, 0, none⟩ = some (.slice x0a A0.length x0c) := XX0.out.cell
  have XX1 : Hid (Bx w9 w8.heap.size (.slice x1a A1.length x1c)) := x
  have cXX1 : w9.cell? ⟨w8.heap.size, 0, none⟩ = some (.slice x1a A1.length x1c) := XX1.out.cell
  have LXX1 : Hid (w8.heap.size < w9.heap.size) := XX1.out.lt
  clear b hw x
  refine (toW_any ⟨_, rfl, (Rf2.out.ls (by have := Zw1.out; have := Zw2.out; have := Zw3.out; have := Zw4.out; have := Zw5.out; have := Zw6.out; have := Zw7.out; have := Zw8.out; have := Zw9.out; omega))⟩ (by omega)).mono ?_
  rintro e w10 ⟨_, rfl, ⟨x2, rfl, o⟩, b⟩
  obtain ⟨x2a, x2c, rfl⟩ := o.shape
  have Zw10 : Hid (w9.heap.size ≤ w10.heap.size) := b.size
  replace B0 : Hid (Below w.heap.size w w10) := B0.out.trans (b.mono (by have := Zw1.out; have := Zw2.out; have := Zw3.out; have := Zw4.out; have := Zw5.out; have := Zw6.out; have := Zw7.out; have := Zw8.out; have := Zw9.out; omega))
  replace Rf0 : Hid (Rd w10 w.heap.size s0 A0) := Rf0.out.below b (by have := Zw1.out; have := Zw2.out; have := Zw3.out; have := Zw4.out; have := Zw5.out; have := Zw6.out; have := Zw7.out; have := Zw8.out; have := Zw9.out; omega)
  replace Rf1 : Hid (Rd w10 w.heap.size s1 A1) := Rf1.out.below b (by have := Zw1.out; have := Zw2.out; have := Zw3.out; have := Zw4.out; have := Zw5.out; have := Zw6.out; have := Zw7.out; have := Zw8.out; have := Zw9.out; omega)
  replace Rf2 : Hid (Rd w10 w.heap.size s2 A2) := Rf2.out.below b (by have := Zw1.out; have := Zw2.out; have := Zw3.out; have := Zw4.out; have := Zw5.out; have := Zw6.out; have := Zw7.out; have := Zw8.out; have := Zw9.out; omega)
  replace Or0 : Hid (Rd w10 w5.heap.size (.slice rra R.length rrc) R) := Or0.out.below b (by have := Zw6.out; have := Zw7.out; have := Zw8.out; have := Zw9.out; omega)
  replace Or1 : Hid (Rd w10 w5.heap.size (.slice rsa R2.length rsc) R2) := Or1.out.below b (by have := Zw6.out; have := Zw7.out; have := Zw8.out; have := Zw9.out; omega)
  replace Ox0 : Hid (wh.Own w10 w5.heap.size w6.heap.size (.slice x0a A0.length x0c) A0) := Ox0.out.below b (by have := Zw7.out; have := Zw8.out; have := Zw9.out; omega)
  replace Ox1 : Hid (wh.Own w10 w7.heap.size w8.heap.size (.slice x1a A1.length x1c) A1) := Ox1.out.below b (by have := Zw9.out; omega)
  replace XP0 : Hid (Bx w10 w.heap.size s0) := XP0.out.kept b
  replace cXP0 : w10.cell? ⟨w.heap.size, 0, none⟩ = some s0 := XP0.out.cell
  replace XP1 : Hid (Bx w10 (w.heap.size + 1) s1) := XP1.out.kept b
  replace cXP1 : w10.cell? ⟨(w.heap.size + 1), 0, none⟩ = some s1 := XP1.out.cell
  replace XP2 : Hid (Bx w10 (w.heap.size + 1 + 1) s2) := XP2.out.kept b
  replace cXP2 : w10.cell? ⟨(w.heap.size + 1 + 1), 0, none⟩ = some s2 := XP2.out.cell
  replace XS0 : Hid (Bx w10 rF (.slice rra R.length rrc)) := XS0.out.kept b
  replace cXS0 : w10.cell? ⟨rF, 0, none⟩ = some (.slice rra R.length rrc) := XS0.out.cell
  replace XS1 : Hid (Bx w10 rG (.slice rsa R2.length rsc)) := XS1.out.kept b
  replace cXS1 : w10.cell? ⟨rG, 0, none⟩ = some (.slice rsa R2.length rsc) := XS1.out.cell
  replace XX0 : Hid (Bx w10 w6.heap.size (.slice x0a A0.length x0c)) := XX0.out.kept b
  replace cXX0 : w10.cell? ⟨w6.heap.size, 0, none⟩ = some (.slice x0a A0.length x0c) := XX0.out.cell
  replace XX1 : Hid (Bx w10 w8.heap.size (.slice x1a A1.length x1c)) := XX1.out.kept b
  replace cXX1 : w10.cell? ⟨w8.heap.size, 0, none⟩ = some (.slice x1a A1.length x1c) := XX1.out.cell
  have Ox2 : Hid (wh.Own w10 w9.heap.size w10.heap.size (.slice x2a A2.length x2c) A2) := o
  clear o b
  have dXP0 : (w10.alloc (.cells #[(.slice x2a A2.length x2c)] 26)).cell? ⟨w.heap.size, 0, none⟩ = some s0 := (XP0.out.alloc _).cell
  have dXP1 : (w10.alloc (.cells #[(.slice x2a A2.length x2c)] 26)).cell? ⟨(w.heap.size + 1), 0, none⟩ = some s1 := (XP1.out.alloc _).cell
  have dXP2 : (w10.alloc (.cells #[(.slice x2a A2.length x2c)] 26)).cell? ⟨(w.heap.size + 1 + 1), 0, none⟩ = some s2 := (XP2.out.alloc _).cell
  have dXS0 : (w10.alloc (.cells #[(.slice x2a A2.length x2c)] 26)).cell? ⟨rF, 0, none⟩ = some (.slice rra R.length rrc) := (XS0.out.alloc _).cell
  have dXS1 : (w10.alloc (.cells #[(.slice x2a A2.length x2c)] 26)).cell? ⟨rG, 0, none⟩ = some (.slice rsa R2.length rsc) := (XS1.out.alloc _).cell
  have dXX0 : (w10.alloc (.cells #[(.slice x2a A2.length x2c)] 26)).cell? ⟨w6.heap.size, 0, none⟩ = some (.slice x0a A0.length x0c) := (XX0.out.alloc _).cell
  have dXX1 : (w10.alloc (.cells #[(.slice x2a A2.length x2c)] 26)).cell? ⟨w8.heap.size, 0, none⟩ = some (.slice x1a A1.length x1c) := (XX1.out.alloc _).cell
  go_wp2_with fail
  clear dXP0 dXP1 dXP2 dXS0 dXS1 dXX0 dXX1
  obtain ⟨w11, hw⟩ : ∃ x, x = w10.alloc (.cells #[(.slice x2a A2.length x2c)] 26) := ⟨_, rfl⟩
  rw [← hw]
  have b : Below w10.heap.size w10 w11 := by rw [hw]; exact new1 _ _
  have x : Bx w11 w10.heap.size (.slice x2a A2.length x2c) := by rw [hw]; exact Bx.new _ _ _
  have Zw11 : Hid (w10.heap.size ≤ w11.heap.size) := b.size
  replace B0 : Hid (Below w.heap.size w w11) := B0.out.trans (b.mono (by have := Zw1.out; have := Zw2.out; have := Zw3.out; have := Zw4.out; have := Zw5.out; have := Zw6.out; have := Zw7.out; have := Zw8.out; have := Zw9.out; have := Zw10.out; omega))
  replace Rf0 : Hid (Rd w11 w.heap.size s0 A0) := Rf0.out.below b (by have := Zw1.out; have := Zw2.out; have := Zw3.out; have := Zw4.out; have := Zw5.out; have := Zw6.out; have := Zw7.out; have := Zw8.out; have := Zw9.out; have := Zw10.out; omega)
  replace Rf1 : Hid (Rd w11 w.heap.size s1 A1) := Rf1.out.below b (by have := Zw1.out; have := Zw2.out; have := Zw3.out; have := Zw4.out; have := Zw5.out; have := Zw6.out; have := Zw7.out; have := Zw8.out; have := Zw9.out; have := Zw10.out; omega)
  replace Rf2 : Hid (Rd w11 w.heap.size s2 A2) := Rf2.out.below b (by have := Zw1.out; have := Zw2.out; have := Zw3.out; have := Zw4.out; have := Zw5.out; have := Zw6.out; have := Zw7.out; have := Zw8.out; have := Zw9.out; have := Zw10.out; omega)
  replace Or0 : Hid (Rd w11 w5.heap.size (.slice rra R.length rrc) R) := Or0.out.below b (by have := Zw6.out; have := Zw7.out; have := Zw8.out; have := Zw9.out; have := Zw10.out; omega)
  replace Or1 : Hid (Rd w11 w5.heap.size (.slice rsa R2.length rsc) R2) := Or1.out.below b (by have := Zw6.out; have := Zw7.out; have := Zw8.out; have := Zw9.out; have := Zw10.out; omega)
  replace Ox0 : Hid (wh.Own w11 w5.heap.size w6.heap.size (.slice x0a A0.length x0c) A0) := Ox0.out.below b (by have := Zw7.out; have := Zw8.out; have := Zw9.out; have := Zw10.out; omega)
  replace Ox1 : Hid (wh.Own w11 w7.heap.size w8.heap.size (.slice x1a A1.length x1c) A1) := Ox1.out.below b (by have := Zw9.out; have := Zw10.out; omega)
  replace Ox2 : Hid (wh.Own w11 w9.heap.size w10.heap.size (.slice x2a A2.length x2c) A2) := Ox2.out.below b (Nat.le_refl _)
  replace XP0 : Hid (Bx w11 w.heap.size s0) := XP0.out.kept b
  replace cXP0 : w11.cell? ⟨w.heap.size, 0, none⟩ = some s0 := XP0.out.cell
  replace XP1 : Hid (Bx w11 (w.heap.size + 1) s1) := XP1.out.kept b
  replace cXP1 : w11.cell? ⟨(w.heap.size + 1), 0, none⟩ = some s1 := XP1.out.cell
  replace XP2 : Hid (Bx w11 (w.heap.size + 1 + 1) s2) := XP2.out.kept b
  replace cXP2 : w11.cell? ⟨(w.heap.size + 1 + 1), 0, none⟩ = some s2 := XP2.out.cell
  replace XS0 : Hid (Bx w11 rF (.slice rra R.length rrc)) := XS0.out.kept b
  replace cXS0 : w11.cell? ⟨rF, 0, none⟩ = some (.slice rra R.length rrc) := XS0.out.cell
  replace XS1 : Hid (Bx w11 rG (.slice rsa R2.length rsc)) := XS1.out.kept b
  replace cXS1 : w11.cell? ⟨rG, 0, none⟩ = some (.slice rsa R2.length rsc) := XS1.out.cell
  replace XX0 : Hid (Bx w11 w6.heap.size (.slice x0a A0.length x0c)) := XX0.out.kept b
  replace cXX0 : w11.cell? ⟨w6.heap.size, 0, none⟩ = some (.slice x0a A0.length x0c) := XX0.out.cell
  replace XX1 : Hid (Bx w11 w8.heap.size (.slice x1a A1.length x1c)) := XX1.out.kept b
  replace cXX1 : w11.cell? ⟨w8.heap.size, 0, none⟩ = some (.slice x1a A1.length x1c) := XX1.out.cell
  have XX2 : Hid (Bx w11 w10.heap.size (.slice x2a A2.length x2c)) := x
  have cXX2 : w11.cell? ⟨w10.heap.size, 0, none⟩ = some (.slice x2a A2.length x2c) := XX2.out.cell
  have LXX2 : Hid (w10.heap.size < w11.heap.size) := XX2.out.lt
  clear b hw x
  refine (HI.out w11 (.slice x0a A0.length x0c) (.slice x1a A1.length x1c) (.slice x2a A2.length x2c) (Ox0.out.rd.ls (by have := Zw7.out; have := Zw8.out; have := Zw9.out; have := Zw10.out; have := Zw11.out; omega)) (Ox1.out.rd.ls (by have := Zw9.out; have := Zw10.out; have := Zw11.out; omega)) (Ox2.out.rd.ls (by have := Zw11.out; omega))).mono ?_
  rintro e w12 ⟨_, _, rfl, ⟨wm_g, hm, ⟨g0, rfl, o0⟩, ⟨g1, rfl, o1⟩⟩, b⟩
  obtain ⟨g0a, g0c, rfl⟩ := o0.shape
  obtain ⟨g1a, g1c, rfl⟩ := o1.shape
  have Zw12 : Hid (w11.heap.size ≤ w12.heap.size) := b.size
  replace B0 : Hid (Below w.heap.size w w12) := B0.out.trans (b.mono (by have := Zw1.out; have := Zw2.out; have := Zw3.out; have := Zw4.out; have := Zw5.out; have := Zw6.out; have := Zw7.out; have := Zw8.out; have := Zw9.out; have := Zw10.out; have := Zw11.out; omega))
  replace Rf0 : Hid (Rd w12 w.heap.size s0 A0) := Rf0.out.below b (by have := Zw1.out; have := Zw2.out; have := Zw3.out; have := Zw4.out; have := Zw5.out; have := Zw6.out; have := Zw7.out; have := Zw8.out; have := Zw9.out; have := Zw10.out; have := Zw11.out; omega)
  replace Rf1 : Hid (Rd w12 w.heap.size s1 A1) := Rf1.out.below b (by have := Zw1.out; have := Zw2.out; have := Zw3.out; have := Zw4.out; have := Zw5.out; have := Zw6.out; have := Zw7.out; have := Zw8.out; have := Zw9.out; have := Zw10.out; have := Zw11.out; omega)
  replace Rf2 : Hid (Rd w12 w.heap.size s2 A2) := Rf2.out.below b (by have := Zw1.out; have := Zw2.out; have := Zw3.out; have := Zw4.out; have := Zw5.out; have := Zw6.out; have := Zw7.out; have := Zw8.out; have := Zw9.out; have := Zw10.out; have := Zw11.out; omega)
  replace Or0 : Hid (Rd w12 w5.heap.size (.slice rra R.length rrc) R) := Or0.out.below b (by have := Zw6.out; have := Zw7.out; have := Zw8.out; have := Zw9.out; have := Zw10.out; have := Zw11.out; omega)
  replace Or1 : Hid (Rd w12 w5.heap.size (.slice rsa R2.length rsc) R2) := Or1.out.below b (by have := Zw6.out; have := Zw7.out; have := Zw8.out; have := Zw9.out; have := Zw10.out; have := Zw11.out; omega)
  replace Ox0 : Hid (wh.Own w12 w5.heap.size w6.heap.size (.slice x0a A0.length x0c) A0) := Ox0.out.below b (by have := Zw7.out; have := Zw8.out; have := Zw9.out; have := Zw10.out; have := Zw11.out; omega)
  replace Ox1 : Hid (wh.Own w12 w7.heap.size w8.heap.size (.slice x1a A1.length x1c) A1) := Ox1.out.below b (by have := Zw9.out; have := Zw10.out; have := Zw11.out; omega)
  replace Ox2 : Hid (wh.Own w12 w9.heap.size w10.heap.size (.slice x2a A2.length x2c) A2) := Ox2.out.below b (by have := Zw11.out; omega)
  replace XP0 : Hid (Bx w12 w.heap.size s0) := XP0.out.kept b
  replace cXP0 : w12.cell? ⟨w.heap.size, 0, none⟩ = some s0 := XP0.out.cell
  replace XP1 : Hid (Bx w12 (w.heap.size + 1) s1) := XP1.out.kept b
  replace cXP1 : w12.cell? ⟨(w.heap.size + 1), 0, none⟩ = some s1 := XP1.out.cell
  replace XP2 : Hid (Bx w12 (w.heap.size + 1 + 1) s2) := XP2.out.kept b
  replace cXP2 : w12.cell? ⟨(w.heap.size + 1 + 1), 0, none⟩ = some s2 := XP2.out.cell
  replace XS0 : Hid (Bx w12 rF (.slice rra R.length rrc)) := XS0.out.kept b
  replace cXS0 : w12.cell? ⟨rF, 0, none⟩ = some (.slice rra R.length rrc) := XS0.out.cell
  replace XS1 : Hid (Bx w12 rG (.slice rsa R2.length rsc)) := XS1.out.kept b
  replace cXS1 : w12.cell? ⟨rG, 0, none⟩ = some (.slice rsa R2.length rsc) := XS1.out.cell
  replace XX0 : Hid (Bx w12 w6.heap.size (.slice x0a A0.length x0c)) := XX0.out.kept b
  replace cXX0 : w12.cell? ⟨w6.heap.size, 0, none⟩ = some (.slice x0a A0.length x0c) := XX0.out.cell
  replace XX1 : Hid (Bx w12 w8.heap.size (.slice x1a A1.length x1c)) := XX1.out.kept b
  replace cXX1 : w12.cell? ⟨w8.heap.size, 0, none⟩ = some (.slice x1a A1.length x1c) := XX1.out.cell
  replace XX2 : Hid (Bx w12 w10.heap.size (.slice x2a A2.length x2c)) := XX2.out.kept b
  replace cXX2 : w12.cell? ⟨w10.heap.size, 0, none⟩ = some (.slice x2a A2.length x2c) := XX2.out.cell
  have Zwm_g : Hid (w11.heap.size ≤ wm_g.heap.size) := hm.1
  replace Zw12 : Hid (wm_g.heap.size ≤ w12.heap.size) := hm.2
  clear hm
  have Og0 : Hid (wh.Own w12 w11.heap.size wm_g.heap.size (.slice g0a R.length g0c) R) := o0
  have Og1 : Hid (wh.Own w12 wm_g.heap.size w12.heap.size (.slice g1a R2.length g1c) R2) := o1
  clear b o0 o1
  have dXP0 : ((w12.alloc (.cells #[(.slice g0a R.length g0c)] 26)).alloc (.cells #[(.slice g1a R2.length g1c)] 26)).cell? ⟨w.heap.size, 0, none⟩ = some s0 := ((XP0.out.alloc _).alloc _).cell
  have dXP1 : ((w12.alloc (.cells #[(.slice g0a R.length g0c)] 26)).alloc (.cells #[(.slice g1a R2.length g1c)] 26)).cell? ⟨(w.heap.size + 1), 0, none⟩ = some s1 := ((XP1.out.alloc _).alloc _).cell
  have dXP2 : ((w12.alloc (.cells #[(.slice g0a R.length g0c)] 26)).alloc (.cells #[(.slice g1a R2.length g1c)] 26)).cell? ⟨(w.heap.size + 1 + 1), 0, none⟩ = some s2 := ((XP2.out.alloc _).alloc _).cell
  have dXS0 : ((w12.alloc (.cells #[(.slice g0a R.length g0c)] 26)).alloc (.cells #[(.slice g1a R2.length g1c)] 26)).cell? ⟨rF, 0, none⟩ = some (.slice rra R.length rrc) := ((XS0.out.alloc _).alloc _).cell
  have dXS1 : ((w12.alloc (.cells #[(.slice g0a R.length g0c)] 26)).alloc (.cells #[(.slice g1a R2.length g1c)] 26)).cell? ⟨rG, 0, none⟩ = some (.slice rsa R2.length rsc) := ((XS1.out.alloc _).alloc _).cell
  have dXX0 : ((w12.alloc (.cells #[(.slice g0a R.length g0c)] 26)).alloc (.cells #[(.slice g1a R2.length g1c)] 26)).cell? ⟨w6.heap.size, 0, none⟩ = some (.slice x0a A0.length x0c) := ((XX0.out.alloc _).alloc _).cell
  have dXX1 : ((w12.alloc (.cells #[(.slice g0a R.length g0c)] 26)).alloc (.cells #[(.slice g1a R2.length g1c)] 26)).cell? ⟨w8.heap.size, 0, none⟩ = some (.slice x1a A1.length x1c) := ((XX1.out.alloc _).alloc _).cell
  have dXX2 : ((w12.alloc (.cells #[(.slice g0a R.length g0c)] 26)).alloc (.cells #[(.slice g1a R2.length g1c)] 26)).cell? ⟨w10.heap.size, 0, none⟩ = some (.slice x2a A2.length x2c) := ((XX2.out.alloc _).alloc _).cell
  go_wp2_with fail
  clear dXP0 dXP1 dXP2 dXS0 dXS1 dXX0 dXX1 dXX2
  obtain ⟨w13, hw⟩ : ∃ x, x = (w12.alloc (.cells #[(.slice g0a R.length g0c)] 26)).alloc (.cells #[(.slice g1a R2.length g1c)] 26) := ⟨_, rfl⟩
  rw [← hw]
  have b : Below w12.heap.size w12 w13 := by rw [hw]; exact new2 _ _ _
  have x : Bx w13 w12.heap.size (.slice g0a R.length g0c) := by rw [hw]; exact (Bx.new _ _ _).alloc _
  have x2 : Bx w13 (w12.heap.size + 1) (.slice g1a R2.length g1c) := by rw [hw]; exact Bx.new2 _ _ _ _
  have Zw13 : Hid (w12.heap.size ≤ w13.heap.size) := b.size
  replace B0 : Hid (Below w.heap.size w w13) := B0.out.trans (b.mono (by have := Zw1.out; have := Zw2.out; have := Zw3.out; have := Zw4.out; have := Zw5.out; have := Zw6.out; have := Zw7.out; have := Zw8.out; have := Zw9.out; have := Zw10.out; have := Zw11.out; have := Zwm_g.out; have := Zw12.out; omega))
  replace Rf0 : Hid (Rd w13 w.heap.size s0 A0) := Rf0.out.below b (by have := Zw1.out; have := Zw2.out; have := Zw3.out; have := Zw4.out; have := Zw5.out; have := Zw6.out; have := Zw7.out; have := Zw8.out; have := Zw9.out; have := Zw10.out; have := Zw11.out; have := Zwm_g.out; have := Zw12.out; omega)
  replace Rf1 : Hid (Rd w13 w.heap.size s1 A1) := Rf1.out.below b (by have := Zw1.out; have := Zw2.out; have := Zw3.out; have := Zw4.out; have := Zw5.out; have := Zw6.out; have := Zw7.out; have := Zw8.out; have := Zw9.out; have := Zw10.out; have := Zw11.out; have := Zwm_g.out; have := Zw12.out; omega)
  replace Rf2 : Hid (Rd w13 w.heap.size s2 A2) := Rf2.out.below b (by have := Zw1.out; have := Zw2.out; have := Zw3.out; have := Zw4.out; have := Zw5.out; have := Zw6.out; have := Zw7.out; have := Zw8.out; have := Zw9.out; have := Zw10.out; have := Zw11.out; have := Zwm_g.out; have := Zw12.out; omega)
  replace Or0 : Hid (Rd w13 w5.heap.size (.slice rra R.length rrc) R) := Or0.out.below b (by have := Zw6.out; have := Zw7.out; have := Zw8.out; have := Zw9.out; have := Zw10.out; have := Zw11.out; have := Zwm_g.out; have := Zw12.out; omega)
  replace Or1 : Hid (Rd w13 w5.heap.size (.slice rsa R2.length rsc) R2) := Or1.out.below b (by have := Zw6.out; have := Zw7.out; have := Zw8.out; have := Zw9.out; have := Zw10.out; have := Zw11.out; have := Zwm_g.out; have := Zw12.out; omega)
  replace Ox0 : Hid (wh.Own w13 w5.heap.size w6.heap.size (.slice x0a A0.length x0c) A0) := Ox0.out.below b (by have := Zw7.out; have := Zw8.out; have := Zw9.out; have := Zw10.out; have := Zw11.out; have := Zwm_g.out; have := Zw12.out; omega)
  replace Ox1 : Hid (wh.Own w13 w7.heap.size w8.heap.size (.slice x1a A1.length x1c) A1) := Ox1.out.below b (by have := Zw9.out; have := Zw10.out; have := Zw11.out; have := Zwm_g.out; have := Zw12.out; omega)
  replace Ox2 : Hid (wh.Own w13 w9.heap.size w10.heap.size (.slice x2a A2.length x2c) A2) := Ox2.out.below b (by have := Zw11.out; have := Zwm_g.out; have := Zw12.out; omega)
  replace Og0 : Hid (wh.Own w13 w11.heap.size wm_g.heap.size (.slice g0a R.length g0c) R) := Og0.out.below b (by have := Zw12.out; omega)
  replace Og1 : Hid (wh.Own w13 wm_g.heap.size w12.heap.size (.slice g1a R2.length g1c) R2) := Og1.out.below b (Nat.le_refl _)
  replace XP0 : Hid (Bx w13 w.heap.size s0) := XP0.out.kept b
  replace cXP0 : w13.cell? ⟨w.heap.size, 0, none⟩ = some s0 := XP0.out.cell
  replace XP1 : Hid (Bx w13 (w.heap.size + 1) s1) := XP1.out.kept b
  replace cXP1 : w13.cell? ⟨(w.heap.size + 1), 0, none⟩ = some s1 := XP1.out.cell
  replace XP2 : Hid (Bx w13 (w.heap.size + 1 + 1) s2) := XP2.out.kept b
  replace cXP2 : w13.cell? ⟨(w.heap.size + 1 + 1), 0, none⟩ = some s2 := XP2.out.cell
  replace XS0 : Hid (Bx w13 rF (.slice rra R.length rrc)) := XS0.out.kept b
  replace cXS0 : w13.cell? ⟨rF, 0, none⟩ = some (.slice rra R.length rrc) := XS0.out.cell
  replace XS1 : Hid (Bx w13 rG (.slice rsa R2.length rsc)) := XS1.out.kept b
  replace cXS1 : w13.cell? ⟨rG, 0, none⟩ = some (.slice rsa R2.length rsc) := XS1.out.cell
  replace XX0 : Hid (Bx w13 w6.heap.size (.slice x0a A0.length x0c)) := XX0.out.kept b
  replace cXX0 : w13.cell? ⟨w6.heap.size, 0, none⟩ = some (.slice x0a A0.length x0c) := XX0.out.cell
  replace XX1 : Hid (Bx w13 w8.heap.size (.slice x1a A1.length x1c)) := XX1.out.kept b
  replace cXX1 : w13.cell? ⟨w8.heap.size, 0, none⟩ = some (.slice x1a A1.length x1c) := XX1.out.cell
  replace XX2 : Hid (Bx w13 w10.heap.size (.slice x2a A2.length x2c)) := XX2.out.kept b
  replace cXX2 : w13.cell? ⟨w10.heap.size, 0, none⟩ = some (.slice x2a A2.length x2c) := XX2.out.cell
  have XG0 : Hid (Bx w13 w12.heap.size (.slice g0a R.length g0c)) := x
  have cXG0 : w13.cell? ⟨w12.heap.size, 0, none⟩ = some (.slice g0a R.length g0c) := XG0.out.cell
  have LXG0 : Hid (w12.heap.size < w13.heap.size) := XG0.out.lt
  have XG1 : Hid (Bx w13 (w12.heap.size + 1) (.slice g1a R2.length g1c)) := x2
  have cXG1 : w13.cell? ⟨(w12.heap.size + 1), 0, none⟩ = some (.slice g1a R2.length g1c) := XG1.out.cell
  have LXG1 : Hid ((w12.heap.size + 1) < w13.heap.size) := XG1.out.lt
  clear b hw x x2
  refine (eqW_any ⟨_, rfl, (Og0.out.rd.ls (by have := Zw12.out; have := Zw13.out; omega))⟩ ⟨_, rfl, (Or0.out.ls (by have := Zw6.out; have := Zw7.out; have := Zw8.out; have := Zw9.out; have := Zw10.out; have := Zw11.out; have := Zwm_g.out; have := Zw12.out; have := Zw13.out; omega))⟩).mono ?_
  rintro e w14 ⟨rfl, b⟩
  have Zw14 : Hid (w13.heap.size ≤ w14.heap.size) := b.size
  replace B0 : Hid (Below w.heap.size w w14) := B0.out.trans (b.mono (by have := Zw1.out; have := Zw2.out; have := Zw3.out; have := Zw4.out; have := Zw5.out; have := Zw6.out; have := Zw7.out; have := Zw8.out; have := Zw9.out; have := Zw10.out; have := Zw11.out; have := Zwm_g.out; have := Zw12.out; have := Zw13.out; omega))
  replace Rf0 : Hid (Rd w14 w.heap.size s0 A0) := Rf0.out.below b (by have := Zw1.out; have := Zw2.out; have := Zw3.out; have := Zw4.out; have := Zw5.out; have := Zw6.out; have := Zw7.out; have := Zw8.out; have := Zw9.out; have := Zw10.out; have := Zw11.out; have := Zwm_g.out; have := Zw12.out; have := Zw13.out; omega)
  replace Rf1 : Hid (Rd w14 w.heap.size s1 A1) := Rf1.out.below b (by have := Zw1.out; have := Zw2.out; have := Zw3.out; have := Zw4.out; have := Zw5.out; have := Zw6.out; have := Zw7.out; have := Zw8.out; have := Zw9.out; have := Zw10.out; have := Zw11.out; have := Zwm_g.out; have := Zw12.out; have := Zw13.out; omega)
  replace Rf2 : Hid (Rd w14 w.heap.size s2 A2) := Rf2.out.below b (by have := Zw1.out; have := Zw2.out; have := Zw3.out; have := Zw4.out; have := Zw5.out; have := Zw6.out; have := Zw7.out; have := Zw8.out; have := Zw9.out; have := Zw10.out; have := Zw11.out; have := Zwm_g.out; have := Zw12.out; have := Zw13.out; omega)
  replace Or0 : Hid (Rd w14 w5.heap.size (.slice rra R.length rrc) R) := Or0.out.below b (by have := Zw6.out; have := Zw7.out; have := Zw8.out; have := Zw9.out; have := Zw10.out; have := Zw11.out; have := Zwm_g.out; have := Zw12.out; have := Zw13.out; omega)
  replace Or1 : Hid (Rd w14 w5.heap.size (.slice rsa R2.length rsc) R2) := Or1.out.below b (by have := Zw6.out; have := Zw7.out; have := Zw8.out; have := Zw9.out; have := Zw10.out; have := Zw11.out; have := Zwm_g.out; have := Zw12.out; have := Zw13.out; omega)
  replace Ox0 : Hid (wh.Own w14 w5.heap.size w6.heap.size (.slice x0a A0.length x0c) A0) := Ox0.out.below b (by have := Zw7.out; have := Zw8.out; have := Zw9.out; have := Zw10.out; have := Zw11.out; have := Zwm_g.out; have := Zw12.out; have := Zw13.out; omega)
  replace Ox1 : Hid (wh.Own w14 w7.heap.size w8.heap.size (.slice x1a A1.length x1c) A1) := Ox1.out.below b (by have := Zw9.out; have := Zw10.out; have := Zw11.out; have := Zwm_g.out; have := Zw12.out; have := Zw13.out; omega)
  replace Ox2 : Hid (wh.Own w14 w9.heap.size w10.heap.size (.slice x2a A2.length x2c) A2) := Ox2.out.below b (by have := Zw11.out; have := Zwm_g.out; have := Zw12.out; have := Zw13.out; omega)
  replace Og0 : Hid (wh.Own w14 w11.heap.size wm_g.heap.size (.slice g0a R.length g0c) R) := Og0.out.below b (by have := Zw12.out; have := Zw13.out; omega)
  replace Og1 : Hid (wh.Own w14 wm_g.heap.size w12.heap.size (.slice g1a R2.length g1c) R2) := Og1.out.below b (by have := Zw13.out; omega)
  replace XP0 : Hid (Bx w14 w.heap.size s0) := XP0.out.kept b
  replace cXP0 : w14.cell? ⟨w.heap.size, 0, none⟩ = some s0 := XP0.out.cell
  replace XP1 : Hid (Bx w14 (w.heap.size + 1) s1) := XP1.out.kept b
  replace cXP1 : w14.cell? ⟨(w.heap.size + 1), 0, none⟩ = some s1 := XP1.out.cell
  replace XP2 : Hid (Bx w14 (w.heap.size + 1 + 1) s2) := XP2.out.kept b
  replace cXP2 : w14.cell? ⟨(w.heap.size + 1 + 1), 0, none⟩ = some s2 := XP2.out.cell
  replace XS0 : Hid (Bx w14 rF (.slice rra R.length rrc)) := XS0.out.kept b
  replace cXS0 : w14.cell? ⟨rF, 0, none⟩ = some (.slice rra R.length rrc) := XS0.out.cell
  replace XS1 : Hid (Bx w14 rG (.slice rsa R2.length rsc)) := XS1.out.kept b
  replace cXS1 : w14.cell? ⟨rG, 0, none⟩ = some (.slice rsa R2.length rsc) := XS1.out.cell
  replace XX0 : Hid (Bx w14 w6.heap.size (.slice x0a A0.length x0c)) := XX0.out.kept b
  replace cXX0 : w14.cell? ⟨w6.heap.size, 0, none⟩ = some (.slice x0a A0.length x0c) := XX0.out.cell
  replace XX1 : Hid (Bx w14 w8.heap.size (.slice x1a A1.length x1c)) := XX1.out.kept b
  replace cXX1 : w14.cell? ⟨w8.heap.size, 0, none⟩ = some (.slice x1a A1.length x1c) := XX1.out.cell
  replace XX2 : Hid (Bx w14 w10.heap.size (.slice x2a A2.length x2c)) := XX2.out.kept b
  replace cXX2 : w14.cell? ⟨w10.heap.size, 0, none⟩ = some (.slice x2a A2.length x2c) := XX2.out.cell
  replace XG0 : Hid (Bx w14 w12.heap.size (.slice g0a R.length g0c)) := XG0.out.kept b
  replace cXG0 : w14.cell? ⟨w12.heap.size, 0, none⟩ = some (.slice g0a R.length g0c) := XG0.out.cell
  replace XG1 : Hid (Bx w14 (w12.heap.size + 1) (.slice g1a R2.length g1c)) := XG1.out.kept b
  replace cXG1 : w14.cell? ⟨(w12.heap.size + 1), 0, none⟩ = some (.slice g1a R2.length g1c) := XG1.out.cell
  clear b
  go_wp2_with fail
  refine (eqW_any ⟨_, rfl, (Og1.out.rd.ls (by have := Zw13.out; have := Zw14.out; omega))⟩ ⟨_, rfl, (Or1.out.ls (by have := Zw6.out; have := Zw7.out; have := Zw8.out; have := Zw9.out; have := Zw10.out; have := Zw11.out; have := Zwm_g.out; have := Zw12.out; have := Zw13.out; have := Zw14.out; omega))⟩).mono ?_
  rintro e w15 ⟨rfl, b⟩
  have Zw15 : Hid (w14.heap.size ≤ w15.heap.size) := b.size
  replace B0 : Hid (Below w.heap.size w w15) := B0.out.trans (b.mono (by have := Zw1.out; have := Zw2.out; have := Zw3.out; have := Zw4.out; have := Zw5.out; have := Zw6.out; have := Zw7.out; have := Zw8.out; have := Zw9.out; have := Zw10.out; have := Zw11.out; have := Zwm_g.out; have := Zw12.out; have := Zw13.out; have := Zw14.out; omega))
  replace Rf0 : Hid (Rd w15 w.heap.size s0 A0) := Rf0.out.below b (by have := Zw1.out; have := Zw2.out; have := Zw3.out; have := Zw4.out; have := Zw5.out; have := Zw6.out; have := Zw7.out; have := Zw8.out; have := Zw9.out; have := Zw10.out; have := Zw11.out; have := Zwm_g.out; have := Zw12.out; have := Zw13.out; have := Zw14.out; omega)
  replace Rf1 : Hid (Rd w15 w.heap.size s1 A1) := Rf1.out.below b (by have := Zw1.out; have := Zw2.out; have := Zw3.out; have := Zw4.out; have := Zw5.out; have := Zw6.out; have := Zw7.out; have := Zw8.out; have := Zw9.out; have := Zw10.out; have := Zw11.out; have := Zwm_g.out; have := Zw12.out; have := Zw13.out; have := Zw14.out; omega)
  replace Rf2 : Hid (Rd w15 w.heap.size s2 A2) := Rf2.out.below b (by have := Zw1.out; have := Zw2.out; have := Zw3.out; have := Zw4.out; have := Zw5.out; have := Zw6.out; have := Zw7.out; have := Zw8.out; have := Zw9.out; have := Zw10.out; have := Zw11.out; have := Zwm_g.out; have := Zw12.out; have := Zw13.out; have := Zw14.out; omega)
  replace Or0 : Hid (Rd w15 w5.heap.size (.slice rra R.length rrc) R) := Or0.out.below b (by have := Zw6.out; have := Zw7.out; have := Zw8.out; have := Zw9.out; have := Zw10.out; have := Zw11.out; have := Zwm_g.out; have := Zw12.out; have := Zw13.out; have := Zw14.out; omega)
  replace Or1 : Hid (Rd w15 w5.heap.size (.slice rsa R2.length rsc) R2) := Or1.out.below b (by have := Zw6.out; have := Zw7.out; have := Zw8.out; have := Zw9.out; have := Zw10.out; have := Zw11.out; have := Zwm_g.out; have := Zw12.out; have := Zw13.out; have := Zw14.out; omega)
  replace Ox0 : Hid (wh.Own w15 w5.heap.size w6.heap.size (.slice x0a A0.length x0c) A0) := Ox0.out.below b (by have := Zw7.out; have := Zw8.out; have := Zw9.out; have := Zw10.out; have := Zw11.out; have := Zwm_g.out; have := Zw12.out; have := Zw13.out; have := Zw14.out; omega)
  replace Ox1 : Hid (wh.Own w15 w7.heap.size w8.heap.size (.slice x1a A1.length x1c) A1) := Ox1.out.below b (by have := Zw9.out; have := Zw10.out; have := Zw11.out; have := Zwm_g.out; have := Zw12.out; have := Zw13.out; have := Zw14.out; omega)
  replace Ox2 : Hid (wh.Own w15 w9.heap.size w10.heap.size (.slice x2a A2.length x2c) A2) := Ox2.out.below b (by have := Zw11.out; have := Zwm_g.out; have := Zw12.out; have := Zw13.out; have := Zw14.out; omega)
  replace Og0 : Hid (wh.Own w15 w11.heap.size wm_g.heap.size (.slice g0a R.length g0c) R) := Og0.out.below b (by have := Zw12.out; have := Zw13.out; have := Zw14.out; omega)
  replace Og1 : Hid (wh.Own w15 wm_g.heap.size w12.heap.size (.slice g1a R2.length g1c) R2) := Og1.out.below b (by have := Zw13.out; have := Zw14.out; omega)
  replace XP0 : Hid (Bx w15 w.heap.size s0) := XP0.out.kept b
  replace cXP0 : w15.cell? ⟨w.heap.size, 0, none⟩ = some s0 := XP0.out.cell
  replace XP1 : Hid (Bx w15 (w.heap.size + 1) s1) := XP1.out.kept b
  replace cXP1 : w15.cell? ⟨(w.heap.size + 1), 0, none⟩ = some s1 := XP1.out.cell
  replace XP2 : Hid (Bx w15 (w.heap.size + 1 + 1) s2) := XP2.out.kept b
  replace cXP2 : w15.cell? ⟨(w.heap.size + 1 + 1), 0, none⟩ = some s2 := XP2.out.cell
  replace XS0 : Hid (Bx w15 rF (.slice rra R.length rrc)) := XS0.out.kept b
  replace cXS0 : w15.cell? ⟨rF, 0, none⟩ = some (.slice rra R.length rrc) := XS0.out.cell
  replace XS1 : Hid (Bx w15 rG (.slice rsa R2.length rsc)) := XS1.out.kept b
  replace cXS1 : w15.cell? ⟨rG, 0, none⟩ = some (.slice rsa R2.length rsc) := XS1.out.cell
  replace XX0 : Hid (Bx w15 w6.heap.size (.slice x0a A0.length x0c)) := XX0.out.kept b
  replace cXX0 : w15.cell? ⟨w6.heap.size, 0, none⟩ = some (.slice x0a A0.length x0c) := XX0.out.cell
  replace XX1 : Hid (Bx w15 w8.heap.size (.slice x1a A1.length x1c)) := XX1.out.kept b
  replace cXX1 : w15.cell? ⟨w8.heap.size, 0, none⟩ = some (.slice x1a A1.length x1c) := XX1.out.cell
  replace XX2 : Hid (Bx w15 w10.heap.size (.slice x2a A2.length x2c)) := XX2.out.kept b
  replace cXX2 : w15.cell? ⟨w10.heap.size, 0, none⟩ = some (.slice x2a A2.length x2c) := XX2.out.cell
  replace XG0 : Hid (Bx w15 w12.heap.size (.slice g0a R.length g0c)) := XG0.out.kept b
  replace cXG0 : w15.cell? ⟨w12.heap.size, 0, none⟩ = some (.slice g0a R.length g0c) := XG0.out.cell
  replace XG1 : Hid (Bx w15 (w12.heap.size + 1) (.slice g1a R2.length g1c)) := XG1.out.kept b
  replace cXG1 : w15.cell? ⟨(w12.heap.size + 1), 0, none⟩ = some (.slice g1a R2.length g1c) := XG1.out.cell
  clear b
  go_wp2_with fail
  have bd : Hid (Below w15.heap.size w15 w15.drew) := (Below.refl _ _).drew
  go_region_held3 (fun w' => w'.cell? ⟨w6.heap.size, 0, none⟩ = some (.slice x0a A0.length x0c) ∧ w'.cell? ⟨w.heap.size, 0, none⟩ = some s0 ∧ Hid (Below w15.heap.size w15 w'))
    (first | exact ⟨(XX0.out.kept bd.out).cell, (XP0.out.kept bd.out).cell, bd⟩ | exact ⟨(XX0.out.kept by1.out).cell, (XP0.out.kept by1.out).cell, by1⟩ | exact ⟨(XX0.out.kept by2.out).cell, (XP0.out.kept by2.out).cell, by2⟩)
    (first
      | (go_at_call 8; refine (toW_any ⟨_, rfl, ((Rf0.out.ls (by have := Zw1.out; have := Zw2.out; have := Zw3.out; have := Zw4.out; have := Zw5.out; have := Zw6.out; have := Zw7.out; have := Zw8.out; have := Zw9.out; have := Zw10.out; have := Zw11.out; have := Zwm_g.out; have := Zw12.out; have := Zw13.out; have := Zw14.out; have := Zw15.out; omega)).below bd.out)⟩ (by omega)).mono ?_; rintro e wy ⟨_, rfl, ⟨y, rfl, oy⟩, b⟩; have by1 : Hid (Below w15.heap.size w15 wy) := bd.out.trans b; have oy1 : Hid (Ls wy y A0) := oy.ls (Nat.le_refl _); clear oy b)
      | (go_at_call 10; refine (eqW_any ⟨_, rfl, ((Ox0.out.rd.ls (by have := Zw7.out; have := Zw8.out; have := Zw9.out; have := Zw10.out; have := Zw11.out; have := Zwm_g.out; have := Zw12.out; have := Zw13.out; have := Zw14.out; have := Zw15.out; omega)).below by1.out)⟩ ⟨_, rfl, oy1.out⟩).mono ?_; rintro e w16 ⟨rfl, b⟩; have by2 : Hid (Below w15.heap.size w15 w16) := by1.out.trans (b.mono by1.out.size); clear b))
  have b := by2.out
  have Zw16 : Hid (w15.heap.size ≤ w16.heap.size) := b.size
  replace B0 : Hid (Below w.heap.size w w16) := B0.out.trans (b.mono (by have := Zw1.out; have := Zw2.out; have := Zw3.out; have := Zw4.out; have := Zw5.out; have := Zw6.out; have := Zw7.out; have := Zw8.out; have := Zw9.out; have := Zw10.out; have := Zw11.out; have := Zwm_g.out; have := Zw12.out; have := Zw13.out; have := Zw14.out; have := Zw15.out; omega))
  replace Rf0 : Hid (Rd w16 w.heap.size s0 A0) := Rf0.out.below b (by have := Zw1.out; have := Zw2.out; have := Zw3.out; have := Zw4.out; have := Zw5.out; have := Zw6.out; have := Zw7.out; have := Zw8.out; have := Zw9.out; have := Zw10.out; have := Zw11.out; have := Zwm_g.out; have := Zw12.out; have := Zw13.out; have := Zw14.out; have := Zw15.out; omega)
  replace Rf1 : Hid (Rd w16 w.heap.size s1 A1) := Rf1.out.below b (by have := Zw1.out; have := Zw2.out; have := Zw3.out; have := Zw4.out; have := Zw5.out; have := Zw6.out; have := Zw7.out; have := Zw8.out; have := Zw9.out; have := Zw10.out; have := Zw11.out; have := Zwm_g.out; have := Zw12.out; have := Zw13.out; have := Zw14.out; have := Zw15.out; omega)
  replace Rf2 : Hid (Rd w16 w.heap.size s2 A2) := Rf2.out.below b (by have := Zw1.out; have := Zw2.out; have := Zw3.out; have := Zw4.out; have := Zw5.out; have := Zw6.out; have := Zw7.out; have := Zw8.out; have := Zw9.out; have := Zw10.out; have := Zw11.out; have := Zwm_g.out; have := Zw12.out; have := Zw13.out; have := Zw14.out; have := Zw15.out; omega)
  replace Or0 : Hid (Rd w16 w5.heap.size (.slice rra R.length rrc) R) := Or0.out.below b (by have := Zw6.out; have := Zw7.out; have := Zw8.out; have := Zw9.out; have := Zw10.out; have := Zw11.out; have := Zwm_g.out; have := Zw12.out; have := Zw13.out; have := Zw14.out; have := Zw15.out; omega)
  replace Or1 : Hid (Rd w16 w5.heap.size (.slice rsa R2.length rsc) R2) := Or1.out.below b (by have := Zw6.out; have := Zw7.out; have := Zw8.out; have := Zw9.out; have := Zw10.out; have := Zw11.out; have := Zwm_g.out; have := Zw12.out; have := Zw13.out; have := Zw14.out; have := Zw15.out; omega)
  replace Ox0 : Hid (wh.Own w16 w5.heap.size w6.heap.size (.slice x0a A0.length x0c) A0) := Ox0.out.below b (by have := Zw7.out; have := Zw8.out; have := Zw9.out; have := Zw10.out; have := Zw11.out; have := Zwm_g.out; have := Zw12.out; have := Zw13.out; have := Zw14.out; have := Zw15.out; omega)
  replace Ox1 : Hid (wh.Own w16 w7.heap.size w8.heap.size (.slice x1a A1.length x1c) A1) := Ox1.out.below b (by have := Zw9.out; have := Zw10.out; have := Zw11.out; have := Zwm_g.out; have := Zw12.out; have := Zw13.out; have := Zw14.out; have := Zw15.out; omega)
  replace Ox2 : Hid (wh.Own w16 w9.heap.size w10.heap.size (.slice x2a A2.length x2c) A2) := Ox2.out.below b (by have := Zw11.out; have := Zwm_g.out; have := Zw12.out; have := Zw13.out; have := Zw14.out; have := Zw15.out; omega)
  replace Og0 : Hid (wh.Own w16 w11.heap.size wm_g.heap.size (.slice g0a R.length g0c) R) := Og0.out.below b (by have := Zw12.out; have := Zw13.out; have := Zw14.out; have := Zw15.out; omega)
  replace Og1 : Hid (wh.Own w16 wm_g.heap.size w12.heap.size (.slice g1a R2.length g1c) R2) := Og1.out.below b (by have := Zw13.out; have := Zw14.out; have := Zw15.out; omega)
  replace XP0 : Hid (Bx w16 w.heap.size s0) := XP0.out.kept b
  replace cXP0 : w16.cell? ⟨w.heap.size, 0, none⟩ = some s0 := XP0.out.cell
  replace XP1 : Hid (Bx w16 (w.heap.size + 1) s1) := XP1.out.kept b
  replace cXP1 : w16.cell? ⟨(w.heap.size + 1), 0, none⟩ = some s1 := XP1.out.cell
  replace XP2 : Hid (Bx w16 (w.heap.size + 1 + 1) s2) := XP2.out.kept b
  replace cXP2 : w16.cell? ⟨(w.heap.size + 1 + 1), 0, none⟩ = some s2 := XP2.out.cell
  replace XS0 : Hid (Bx w16 rF (.slice rra R.length rrc)) := XS0.out.kept b
  replace cXS0 : w16.cell? ⟨rF, 0, none⟩ = some (.slice rra R.length rrc) := XS0.out.cell
  replace XS1 : Hid (Bx w16 rG (.slice rsa R2.length rsc)) := XS1.out.kept b
  replace cXS1 : w16.cell? ⟨rG, 0, none⟩ = some (.slice rsa R2.length rsc) := XS1.out.cell
  replace XX0 : Hid (Bx w16 w6.heap.size (.slice x0a A0.length x0c)) := XX0.out.kept b
  replace cXX0 : w16.cell? ⟨w6.heap.size, 0, none⟩ = some (.slice x0a A0.length x0c) := XX0.out.cell
  replace XX1 : Hid (Bx w16 w8.heap.size (.slice x1a A1.length x1c)) := XX1.out.kept b
  replace cXX1 : w16.cell? ⟨w8.heap.size, 0, none⟩ = some (.slice x1a A1.length x1c) := XX1.out.cell
  replace XX2 : Hid (Bx w16 w10.heap.size (.slice x2a A2.length x2c)) := XX2.out.kept b
  replace cXX2 : w16.cell? ⟨w10.heap.size, 0, none⟩ = some (.slice x2a A2.length x2c) := XX2.out.cell
  replace XG0 : Hid (Bx w16 w12.heap.size (.slice g0a R.length g0c)) := XG0.out.kept b
  replace cXG0 : w16.cell? ⟨w12.heap.size, 0, none⟩ = some (.slice g0a R.length g0c) := XG0.out.cell
  replace XG1 : Hid (Bx w16 (w12.heap.size + 1) (.slice g1a R2.length g1c)) := XG1.out.kept b
  replace cXG1 : w16.cell? ⟨(w12.heap.size + 1), 0, none⟩ = some (.slice g1a R2.length g1c) := XG1.out.cell
  clear b bd by1 by2 oy1
  go_wp2_with fail
  have bd : Hid (Below w16.heap.size w16 w16.drew) := (Below.refl _ _).drew
  go_region_held3 (fun w' => w'.cell? ⟨w8.heap.size, 0, none⟩ = some (.slice x1a A1.length x1c) ∧ w'.cell? ⟨(w.heap.size + 1), 0, none⟩ = some s1 ∧ Hid (Below w16.heap.size w16 w'))
    (first | exact ⟨(XX1.out.kept bd.out).cell, (XP1.out.kept bd.out).cell, bd⟩ | exact ⟨(XX1.out.kept by1.out).cell, (XP1.out.kept by1.out).cell, by1⟩ | exact ⟨(XX1.out.kept by2.out).cell, (XP1.out.kept by2.out).cell, by2⟩)
    (first
      | (go_at_call 8; refine (toW_any ⟨_, rfl, ((Rf1.out.ls (by have := Zw1.out; have := Zw2.out; have := Zw3.out; have := Zw4.out; have := Zw5.out; have := Zw6.out; have := Zw7.out; have := Zw8.out; have := Zw9.out; have := Zw10.out; have := Zw11.out; have := Zwm_g.out; have := Zw12.out; have := Zw13.out; have := Zw14.out; have := Zw15.out; have := Zw16.out; omega)).below bd.out)⟩ (by omega)).mono ?_; rintro e wy ⟨_, rfl, ⟨y, rfl, oy⟩, b⟩; have by1 : Hid (Below w16.heap.size w16 wy) := bd.out.trans b; have oy1 : Hid (Ls wy y A1) := oy.ls (Nat.le_refl _); clear oy b)
      | (go_at_call 10; refine (eqW_any ⟨_, rfl, ((Ox1.out.rd.ls (by have := Zw9.out; have := Zw10.out; have := Zw11.out; have := Zwm_g.out; have := Zw12.out; have := Zw13.out; have := Zw14.out; have := Zw15.out; have := Zw16.out; omega)).below by1.out)⟩ ⟨_, rfl, oy1.out⟩).mono ?_; rintro e w17 ⟨rfl, b⟩; have by2 : Hid (Below w16.heap.size w16 w17) := by1.out.trans (b.mono by1.out.size); clear b))
  have b := by2.out
  have Zw17 : Hid (w16.heap.size ≤ w17.heap.size) := b.size
  replace B0 : Hid (Below w.heap.size w w17) := B0.out.trans (b.mono (by have := Zw1.out; have := Zw2.out; have := Zw3.out; have := Zw4.out; have := Zw5.out; have := Zw6.out; have := Zw7.out; have := Zw8.out; have := Zw9.out; have := Zw10.out; have := Zw11.out; have := Zwm_g.out; have := Zw12.out; have := Zw13.out; have := Zw14.out; have := Zw15.out; have := Zw16.out; omega))
  replace Rf0 : Hid (Rd w17 w.heap.size s0 A0) := Rf0.out.below b (by have := Zw1.out; have := Zw2.out; have := Zw3.out; have := Zw4.out; have := Zw5.out; have := Zw6.out; have := Zw7.out; have := Zw8.out; have := Zw9.out; have := Zw10.out; have := Zw11.out; have := Zwm_g.out; have := Zw12.out; have := Zw13.out; have := Zw14.out; have := Zw15.out; have := Zw16.out; omega)
  replace Rf1 : Hid (Rd w17 w.heap.size s1 A1) := Rf1.out.below b (by have := Zw1.out; have := Zw2.out; have := Zw3.out; have := Zw4.out; have := Zw5.out; have := Zw6.out; have := Zw7.out; have := Zw8.out; have := Zw9.out; have := Zw10.out; have := Zw11.out; have := Zwm_g.out; have := Zw12.out; have := Zw13.out; have := Zw14.out; have := Zw15.out; have := Zw16.out; omega)
  replace Rf2 : Hid (Rd w17 w.heap.size s2 A2) := Rf2.out.below b (by have := Zw1.out; have := Zw2.out; have := Zw3.out; have := Zw4.out; have := Zw5.out; have := Zw6.out; have := Zw7.out; have := Zw8.out; have := Zw9.out; have := Zw10.out; have := Zw11.out; have := Zwm_g.out; have := Zw12.out; have := Zw13.out; have := Zw14.out; have := Zw15.out; have := Zw16.out; omega)
  replace Or0 : Hid (Rd w17 w5.heap.size (.slice rra R.length rrc) R) := Or0.out.below b (by have := Zw6.out; have := Zw7.out; have := Zw8.out; have := Zw9.out; have := Zw10.out; have := Zw11.out; have := Zwm_g.out; have := Zw12.out; have := Zw13.out; have := Zw14.out; have := Zw15.out; have := Zw16.out; omega)
  replace Or1 : Hid (Rd w17 w5.heap.size (.slice rsa R2.length rsc) R2) := Or1.out.below b (by have := Zw6.out; have := Zw7.out; have := Zw8.out; have := Zw9.out; have := Zw10.out; have := Zw11.out; have := Zwm_g.out; have := Zw12.out; have := Zw13.out; have := Zw14.out; have := Zw15.out; have := Zw16.out; omega)
  replace Ox0 : Hid (wh.Own w17 w5.heap.size w6.heap.size (.slice x0a A0.length x0c) A0) := Ox0.out.below b (by have := Zw7.out; have := Zw8.out; have := Zw9.out; have := Zw10.out; have := Zw11.out; have := Zwm_g.out; have := Zw12.out; have := Zw13.out; have := Zw14.out; have := Zw15.out; have := Zw16.out; omega)
  replace Ox1 : Hid (wh.Own w17 w7.heap.size w8.heap.size (.slice x1a A1.length x1c) A1) := Ox1.out.below b (by have := Zw9.out; have := Zw10.out; have := Zw11.out; have := Zwm_g.out; have := Zw12.out; have := Zw13.out; have := Zw14.out; have := Zw15.out; have := Zw16.out; omega)
  replace Ox2 : Hid (wh.Own w17 w9.heap.size w10.heap.size (.slice x2a A2.length x2c) A2) := Ox2.out.below b (by have := Zw11.out; have := Zwm_g.out; have := Zw12.out; have := Zw13.out; have := Zw14.out; have := Zw15.out; have := Zw16.out; omega)
  replace Og0 : Hid (wh.Own w17 w11.heap.size wm_g.heap.size (.slice g0a R.length g0c) R) := Og0.out.below b (by have := Zw12.out; have := Zw13.out; have := Zw14.out; have := Zw15.out; have := Zw16.out; omega)
  replace Og1 : Hid (wh.Own w17 wm_g.heap.size w12.heap.size (.slice g1a R2.length g1c) R2) := Og1.out.below b (by have := Zw13.out; have := Zw14.out; have := Zw15.out; have := Zw16.out; omega)
  replace XP0 : Hid (Bx w17 w.heap.size s0) := XP0.out.kept b
  replace cXP0 : w17.cell? ⟨w.heap.size, 0, none⟩ = some s0 := XP0.out.cell
  replace XP1 : Hid (Bx w17 (w.heap.size + 1) s1) := XP1.out.kept b
  replace cXP1 : w17.cell? ⟨(w.heap.size + 1), 0, none⟩ = some s1 := XP1.out.cell
  replace XP2 : Hid (Bx w17 (w.heap.size + 1 + 1) s2) := XP2.out.kept b
  replace cXP2 : w17.cell? ⟨(w.heap.size + 1 + 1), 0, none⟩ = some s2 := XP2.out.cell
  replace XS0 : Hid (Bx w17 rF (.slice rra R.length rrc)) := XS0.out.kept b
  replace cXS0 : w17.cell? ⟨rF, 0, none⟩ = some (.slice rra R.length rrc) := XS0.out.cell
  replace XS1 : Hid (Bx w17 rG (.slice rsa R2.length rsc)) := XS1.out.kept b
  replace cXS1 : w17.cell? ⟨rG, 0, none⟩ = some (.slice rsa R2.length rsc) := XS1.out.cell
  replace XX0 : Hid (Bx w17 w6.heap.size (.slice x0a A0.length x0c)) := XX0.out.kept b
  replace cXX0 : w17.cell? ⟨w6.heap.size, 0, none⟩ = some (.slice x0a A0.length x0c) := XX0.out.cell
  replace XX1 : Hid (Bx w17 w8.heap.size (.slice x1a A1.length x1c)) := XX1.out.kept b
  replace cXX1 : w17.cell? ⟨w8.heap.size, 0, none⟩ = some (.slice x1a A1.length x1c) := XX1.out.cell
  replace XX2 : Hid (Bx w17 w10.heap.size (.slice x2a A2.length x2c)) := XX2.out.kept b
  replace cXX2 : w17.cell? ⟨w10.heap.size, 0, none⟩ = some (.slice x2a A2.length x2c) := XX2.out.cell
  replace XG0 : Hid (Bx w17 w12.heap.size (.slice g0a R.length g0c)) := XG0.out.kept b
  replace cXG0 : w17.cell? ⟨w12.heap.size, 0, none⟩ = some (.slice g0a R.length g0c) := XG0.out.cell
  replace XG1 : Hid (Bx w17 (w12.heap.size + 1) (.slice g1a R2.length g1c)) := XG1.out.kept b
  replace cXG1 : w17.cell? ⟨(w12.heap.size + 1), 0, none⟩ = some (.slice g1a R2.length g1c) := XG1.out.cell
  clear b bd by1 by2 oy1
  go_wp2_with fail
  have bd : Hid (Below w17.heap.size w17 w17.drew) := (Below.refl _ _).drew
  go_region_held3 (fun w' => w'.cell? ⟨w10.heap.size, 0, none⟩ = some (.slice x2a A2.length x2c) ∧ w'.cell? ⟨(w.heap.size + 1 + 1), 0, none⟩ = some s2 ∧ Hid (Below w17.heap.size w17 w'))
    (first | exact ⟨(XX2.out.kept bd.out).cell, (XP2.out.kept bd.out).cell, bd⟩ | exact ⟨(XX2.out.kept by1.out).cell, (XP2.out.kept by1.out).cell, by1⟩ | exact ⟨(XX2.out.kept by2.out).cell, (XP2.out.kept by2.out).cell, by2⟩)
    (first
      | (go_at_call 8; refine (toW_any ⟨_, rfl, ((Rf2.out.ls (by have := Zw1.out; have := Zw2.out; have := Zw3.out; have := Zw4.out; have := Zw5.out; have := Zw6.out; have := Zw7.out; have := Zw8.out; have := Zw9.out; have := Zw10.out; have := Zw11.out; have := Zwm_g.out; have := Zw12.out; have := Zw13.out; have := Zw14.out; have := Zw15.out; have := Zw16.out; have := Zw17.out; omega)).below bd.out)⟩ (by omega)).mono ?_; rintro e wy ⟨_, rfl, ⟨y, rfl, oy⟩, b⟩; have by1 : Hid (Below w17.heap.size w17 wy) := bd.out.trans b; have oy1 : Hid (Ls wy y A2) := oy.ls (Nat.le_refl _); clear oy b)
      | (go_at_call 10; refine (eqW_any ⟨_, rfl, ((Ox2.out.rd.ls (by have := Zw11.out; have := Zwm_g.out; have := Zw12.out; have := Zw13.out; have := Zw14.out; have := Zw15.out; have := Zw16.out; have := Zw17.out; omega)).below by1.out)⟩ ⟨_, rfl, oy1.out⟩).mono ?_; rintro e w18 ⟨rfl, b⟩; have by2 : Hid (Below w17.heap.size w17 w18) := by1.out.trans (b.mono by1.out.size); clear b))
  have b := by2.out
  have Zw18 : Hid (w17.heap.size ≤ w18.heap.size) := b.size
  replace B0 : Hid (Below w.heap.size w w18) := B0.out.trans (b.mono (by have := Zw1.out; have := Zw2.out; have := Zw3.out; have := Zw4.out; have := Zw5.out; have := Zw6.out; have := Zw7.out; have := Zw8.out; have := Zw9.out; have := Zw10.out; have := Zw11.out; have := Zwm_g.out; have := Zw12.out; have := Zw13.out; have := Zw14.out; have := Zw15.out; have := Zw16.out; have := Zw17.out; omega))
  replace Rf0 : Hid (Rd w18 w.heap.size s0 A0) := Rf0.out.below b (by have := Zw1.out; have := Zw2.out; have := Zw3.out; have := Zw4.out; have := Zw5.out; have := Zw6.out; have := Zw7.out; have := Zw8.out; have := Zw9.out; have := Zw10.out; have := Zw11.out; have := Zwm_g.out; have := Zw12.out; have := Zw13.out; have := Zw14.out; have := Zw15.out; have := Zw16.out; have := Zw17.out; omega)
  replace Rf1 : Hid (Rd w18 w.heap.size s1 A1) := Rf1.out.below b (by have := Zw1.out; have := Zw2.out; have := Zw3.out; have := Zw4.out; have := Zw5.out; have := Zw6.out; have := Zw7.out; have := Zw8.out; have := Zw9.out; have := Zw10.out; have := Zw11.out; have := Zwm_g.out; have := Zw12.out; have := Zw13.out; have := Zw14.out; have := Zw15.out; have := Zw16.out; have := Zw17.out; omega)
  replace Rf2 : Hid (Rd w18 w.heap.size s2 A2) := Rf2.out.below b (by have := Zw1.out; have := Zw2.out; have := Zw3.out; have := Zw4.out; have := Zw5.out; have := Zw6.out; have := Zw7.out; have := Zw8.out; have := Zw9.out; have := Zw10.out; have := Zw11.out; have := Zwm_g.out; have := Zw12.out; have := Zw13.out; have := Zw14.out; have := Zw15.out; have := Zw16.out; have := Zw17.out; omega)
  replace Or0 : Hid (Rd w18 w5.heap.size (.slice rra R.length rrc) R) := Or0.out.below b (by have := Zw6.out; have := Zw7.out; have := Zw8.out; have := Zw9.out; have := Zw10.out; have := Zw11.out; have := Zwm_g.out; have := Zw12.out; have := Zw13.out; have := Zw14.out; have := Zw15.out; have := Zw16.out; have := Zw17.out; omega)
  replace Or1 : Hid (Rd w18 w5.heap.size (.slice rsa R2.length rsc) R2) := Or1.out.below b (by have := Zw6.out; have := Zw7.out; have := Zw8.out; have := Zw9.out; have := Zw10.out; have := Zw11.out; have := Zwm_g.out; have := Zw12.out; have := Zw13.out; have := Zw14.out; have := Zw15.out; have := Zw16.out; have := Zw17.out; omega)
  replace Ox0 : Hid (wh.Own w18 w5.heap.size w6.heap.size (.slice x0a A0.length x0c) A0) := Ox0.out.below b (by have := Zw7.out; have := Zw8.out; have := Zw9.out; have := Zw10.out; have := Zw11.out; have := Zwm_g.out; have := Zw12.out; have := Zw13.out; have := Zw14.out; have := Zw15.out; have := Zw16.out; have := Zw17.out; omega)
  replace Ox1 : Hid (wh.Own w18 w7.heap.size w8.heap.size (.slice x1a A1.length x1c) A1) := Ox1.out.below b (by have := Zw9.out; have := Zw10.out; have := Zw11.out; have := Zwm_g.out; have := Zw12.out; have := Zw13.out; have := Zw14.out; have := Zw15.out; have := Zw16.out; have := Zw17.out; omega)
  replace Ox2 : Hid (wh.Own w18 w9.heap.size w10.heap.size (.slice x2a A2.length x2c) A2) := Ox2.out.below b (by have := Zw11.out; have := Zwm_g.out; have := Zw12.out; have := Zw13.out; have := Zw14.out; have := Zw15.out; have := Zw16.out; have := Zw17.out; omega)
  replace Og0 : Hid (wh.Own w18 w11.heap.size wm_g.heap.size (.slice g0a R.length g0c) R) := Og0.out.below b (by have := Zw12.out; have := Zw13.out; have := Zw14.out; have := Zw15.out; have := Zw16.out; have := Zw17.out; omega)
  replace Og1 : Hid (wh.Own w18 wm_g.heap.size w12.heap.size (.slice g1a R2.length g1c) R2) := Og1.out.below b (by have := Zw13.out; have := Zw14.out; have := Zw15.out; have := Zw16.out; have := Zw17.out; omega)
  replace XP0 : Hid (Bx w18 w.heap.size s0) := XP0.out.kept b
  replace cXP0 : w18.cell? ⟨w.heap.size, 0, none⟩ = some s0 := XP0.out.cell
  replace XP1 : Hid (Bx w18 (w.heap.size + 1) s1) := XP1.out.kept b
  replace cXP1 : w18.cell? ⟨(w.heap.size + 1), 0, none⟩ = some s1 := XP1.out.cell
  replace XP2 : Hid (Bx w18 (w.heap.size + 1 + 1) s2) := XP2.out.kept b
  replace cXP2 : w18.cell? ⟨(w.heap.size + 1 + 1), 0, none⟩ = some s2 := XP2.out.cell
  replace XS0 : Hid (Bx w18 rF (.slice rra R.length rrc)) := XS0.out.kept b
  replace cXS0 : w18.cell? ⟨rF, 0, none⟩ = some (.slice rra R.length rrc) := XS0.out.cell
  replace XS1 : Hid (Bx w18 rG (.slice rsa R2.length rsc)) := XS1.out.kept b
  replace cXS1 : w18.cell? ⟨rG, 0, none⟩ = some (.slice rsa R2.length rsc) := XS1.out.cell
  replace XX0 : Hid (Bx w18 w6.heap.size (.slice x0a A0.length x0c)) := XX0.out.kept b
  replace cXX0 : w18.cell? ⟨w6.heap.size, 0, none⟩ = some (.slice x0a A0.length x0c) := XX0.out.cell
  replace XX1 : Hid (Bx w18 w8.heap.size (.slice x1a A1.length x1c)) := XX1.out.kept b
  replace cXX1 : w18.cell? ⟨w8.heap.size, 0, none⟩ = some (.slice x1a A1.length x1c) := XX1.out.cell
  replace XX2 : Hid (Bx w18 w10.heap.size (.slice x2a A2.length x2c)) := XX2.out.kept b
  replace cXX2 : w18.cell? ⟨w10.heap.size, 0, none⟩ = some (.slice x2a A2.length x2c) := XX2.out.cell
  replace XG0 : Hid (Bx w18 w12.heap.size (.slice g0a R.length g0c)) := XG0.out.kept b
  replace cXG0 : w18.cell? ⟨w12.heap.size, 0, none⟩ = some (.slice g0a R.length g0c) := XG0.out.cell
  replace XG1 : Hid (Bx w18 (w12.heap.size + 1) (.slice g1a R2.length g1c)) := XG1.out.kept b
  replace cXG1 : w18.cell? ⟨(w12.heap.size + 1), 0, none⟩ = some (.slice g1a R2.length g1c) := XG1.out.cell
  clear b bd by1 by2 oy1
  go_wp2_with fail
  refine (markW_any ⟨_, rfl, Ox0.out⟩ (by omega) (by omega) (by omega)).mono ?_
  rintro e w19 ⟨rfl, o, t⟩
  clear Ox0
  have Zw19 : Hid (w18.heap.size ≤ w19.heap.size) := t.size
  replace B0 : Hid (Below w.heap.size w w19) := B0.out.trans (t.below (by have := Zw1.out; have := Zw2.out; have := Zw3.out; have := Zw4.out; have := Zw5.out; omega) (by have := Zw1.out; have := Zw2.out; have := Zw3.out; have := Zw4.out; have := Zw5.out; have := Zw6.out; have := Zw7.out; have := Zw8.out; have := Zw9.out; have := Zw10.out; have := Zw11.out; have := Zwm_g.out; have := Zw12.out; have := Zw13.out; have := Zw14.out; have := Zw15.out; have := Zw16.out; have := Zw17.out; have := Zw18.out; omega))
  replace Rf0 : Hid (Rd w19 w.heap.size s0 A0) := Rf0.out.turned t (by have := Zw1.out; have := Zw2.out; have := Zw3.out; have := Zw4.out; have := Zw5.out; omega) (by have := Zw1.out; have := Zw2.out; have := Zw3.out; have := Zw4.out; have := Zw5.out; have := Zw6.out; have := Zw7.out; have := Zw8.out; have := Zw9.out; have := Zw10.out; have := Zw11.out; have := Zwm_g.out; have := Zw12.out; have := Zw13.out; have := Zw14.out; have := Zw15.out; have := Zw16.out; have := Zw17.out; have := Zw18.out; omega)
  replace Rf1 : Hid (Rd w19 w.heap.size s1 A1) := Rf1.out.turned t (by have := Zw1.out; have := Zw2.out; have := Zw3.out; have := Zw4.out; have := Zw5.out; omega) (by have := Zw1.out; have := Zw2.out; have := Zw3.out; have := Zw4.out; have := Zw5.out; have := Zw6.out; have := Zw7.out; have := Zw8.out; have := Zw9.out; have := Zw10.out; have := Zw11.out; have := Zwm_g.out; have := Zw12.out; have := Zw13.out; have := Zw14.out; have := Zw15.out; have := Zw16.out; have := Zw17.out; have := Zw18.out; omega)
  replace Rf2 : Hid (Rd w19 w.heap.size s2 A2) := Rf2.out.turned t (by have := Zw1.out; have := Zw2.out; have := Zw3.out; have := Zw4.out; have := Zw5.out; omega) (by have := Zw1.out; have := Zw2.out; have := Zw3.out; have := Zw4.out; have := Zw5.out; have := Zw6.out; have := Zw7.out; have := Zw8.out; have := Zw9.out; have := Zw10.out; have := Zw11.out; have := Zwm_g.out; have := Zw12.out; have := Zw13.out; have := Zw14.out; have := Zw15.out; have := Zw16.out; have := Zw17.out; have := Zw18.out; omega)
  replace Or0 : Hid (Rd w19 w5.heap.size (.slice rra R.length rrc) R) := Or0.out.turned t (Nat.le_refl _) (by have := Zw6.out; have := Zw7.out; have := Zw8.out; have := Zw9.out; have := Zw10.out; have := Zw11.out; have := Zwm_g.out; have := Zw12.out; have := Zw13.out; have := Zw14.out; have := Zw15.out; have := Zw16.out; have := Zw17.out; have := Zw18.out; omega)
  replace Or1 : Hid (Rd w19 w5.heap.size (.slice rsa R2.length rsc) R2) := Or1.out.turned t (Nat.le_refl _) (by have := Zw6.out; have := Zw7.out; have := Zw8.out; have := Zw9.out; have := Zw10.out; have := Zw11.out; have := Zwm_g.out; have := Zw12.out; have := Zw13.out; have := Zw14.out; have := Zw15.out; have := Zw16.out; have := Zw17.out; have := Zw18.out; omega)
  replace Ox1 : Hid (wh.Own w19 w7.heap.size w8.heap.size (.slice x1a A1.length x1c) A1) := Ox1.out.turned t (.inr (by have := Zw7.out; omega))
  replace Ox2 : Hid (wh.Own w19 w9.heap.size w10.heap.size (.slice x2a A2.length x2c) A2) := Ox2.out.turned t (.inr (by have := Zw7.out; have := Zw8.out; have := Zw9.out; omega))
  replace Og0 : Hid (wh.Own w19 w11.heap.size wm_g.heap.size (.slice g0a R.length g0c) R) := Og0.out.turned t (.inr (by have := Zw7.out; have := Zw8.out; have := Zw9.out; have := Zw10.out; have := Zw11.out; omega))
  replace Og1 : Hid (wh.Own w19 wm_g.heap.size w12.heap.size (.slice g1a R2.length g1c) R2) := Og1.out.turned t (.inr (by have := Zw7.out; have := Zw8.out; have := Zw9.out; have := Zw10.out; have := Zw11.out; have := Zwm_g.out; omega))
  replace XP0 : Hid (Bx w19 w.heap.size s0) := XP0.out.turned t (by have := Zw1.out; have := Zw2.out; have := Zw3.out; have := Zw4.out; have := Zw5.out; have := Zw6.out; have := Zw7.out; have := Zw8.out; have := Zw9.out; have := Zw10.out; have := Zw11.out; have := Zwm_g.out; have := Zw12.out; have := Zw13.out; have := Zw14.out; have := Zw15.out; have := Zw16.out; have := Zw17.out; have := Zw18.out; have := LXP0.out; omega)
  replace cXP0 : w19.cell? ⟨w.heap.size, 0, none⟩ = some s0 := XP0.out.cell
  replace XP1 : Hid (Bx w19 (w.heap.size + 1) s1) := XP1.out.turned t (by have := Zw1.out; have := Zw2.out; have := Zw3.out; have := Zw4.out; have := Zw5.out; have := Zw6.out; have := Zw7.out; have := Zw8.out; have := Zw9.out; have := Zw10.out; have := Zw11.out; have := Zwm_g.out; have := Zw12.out; have := Zw13.out; have := Zw14.out; have := Zw15.out; have := Zw16.out; have := Zw17.out; have := Zw18.out; have := LXP1.out; omega)
  replace cXP1 : w19.cell? ⟨(w.heap.size + 1), 0, none⟩ = some s1 := XP1.out.cell
  replace XP2 : Hid (Bx w19 (w.heap.size + 1 + 1) s2) := XP2.out.turned t (by have := Zw1.out; have := Zw2.out; have := Zw3.out; have := Zw4.out; have := Zw5.out; have := Zw6.out; have := Zw7.out; have := Zw8.out; have := Zw9.out; have := Zw10.out; have := Zw11.out; have := Zwm_g.out; have := Zw12.out; have := Zw13.out; have := Zw14.out; have := Zw15.out; have := Zw16.out; have := Zw17.out; have := Zw18.out; have := LXP2.out; omega)
  replace cXP2 : w19.cell? ⟨(w.heap.size + 1 + 1), 0, none⟩ = some s2 := XP2.out.cell
  replace XS0 : Hid (Bx w19 rF (.slice rra R.length rrc)) := XS0.out.turned t (by have := Zw1.out; have := Zw2.out; have := Zw3.out; have := Zw4.out; have := Zw5.out; have := Zw6.out; have := Zw7.out; have := Zw8.out; have := Zw9.out; have := Zw10.out; have := Zw11.out; have := Zwm_g.out; have := Zw12.out; have := Zw13.out; have := Zw14.out; have := Zw15.out; have := Zw16.out; have := Zw17.out; have := Zw18.out; have := LXS0.out; have := GXS0.out; omega)
  replace cXS0 : w19.cell? ⟨rF, 0, none⟩ = some (.slice rra R.length rrc) := XS0.out.cell
  replace XS1 : Hid (Bx w19 rG (.slice rsa R2.length rsc)) := XS1.out.turned t (by have := Zw1.out; have := Zw2.out; have := Zw3.out; have := Zw4.out; have := Zw5.out; have := Zw6.out; have := Zw7.out; have := Zw8.out; have := Zw9.out; have := Zw10.out; have := Zw11.out; have := Zwm_g.out; have := Zw12.out; have := Zw13.out; have := Zw14.out; have := Zw15.out; have := Zw16.out; have := Zw17.out; have := Zw18.out; have := LXS1.out; have := GXS1.out; omega)
  replace cXS1 : w19.cell? ⟨rG, 0, none⟩ = some (.slice rsa R2.length rsc) := XS1.out.cell
  replace XX0 : Hid (Bx w19 w6.heap.size (.slice x0a A0.length x0c)) := XX0.out.turned t (by have := Zw1.out; have := Zw2.out; have := Zw3.out; have := Zw4.out; have := Zw5.out; have := Zw6.out; have := Zw7.out; have := Zw8.out; have := Zw9.out; have := Zw10.out; have := Zw11.out; have := Zwm_g.out; have := Zw12.out; have := Zw13.out; have := Zw14.out; have := Zw15.out; have := Zw16.out; have := Zw17.out; have := Zw18.out; have := LXX0.out; omega)
  replace cXX0 : w19.cell? ⟨w6.heap.size, 0, none⟩ = some (.slice x0a A0.length x0c) := XX0.out.cell
  replace XX1 : Hid (Bx w19 w8.heap.size (.slice x1a A1.length x1c)) := XX1.out.turned t (by have := Zw1.out; have := Zw2.out; have := Zw3.out; have := Zw4.out; have := Zw5.out; have := Zw6.out; have := Zw7.out; have := Zw8.out; have := Zw9.out; have := Zw10.out; have := Zw11.out; have := Zwm_g.out; have := Zw12.out; have := Zw13.out; have := Zw14.out; have := Zw15.out; have := Zw16.out; have := Zw17.out; have := Zw18.out; have := LXX1.out; omega)
  replace cXX1 : w19.cell? ⟨w8.heap.size, 0, none⟩ = some (.slice x1a A1.length x1c) := XX1.out.cell
  replace XX2 : Hid (Bx w19 w10.heap.size (.slice x2a A2.length x2c)) := XX2.out.turned t (by have := Zw1.out; have := Zw2.out; have := Zw3.out; have := Zw4.out; have := Zw5.out; have := Zw6.out; have := Zw7.out; have := Zw8.out; have := Zw9.out; have := Zw10.out; have := Zw11.out; have := Zwm_g.out; have := Zw12.out; have := Zw13.out; have := Zw14.out; have := Zw15.out; have := Zw16.out; have := Zw17.out; have := Zw18.out; have := LXX2.out; omega)
  replace cXX2 : w19.cell? ⟨w10.heap.size, 0, none⟩ = some (.slice x2a A2.length x2c) := XX2.out.cell
  replace XG0 : Hid (Bx w19 w12.heap.size (.slice g0a R.length g0c)) := XG0.out.turned t (by have := Zw1.out; have := Zw2.out; have := Zw3.out; have := Zw4.out; have := Zw5.out; have := Zw6.out; have := Zw7.out; have := Zw8.out; have := Zw9.out; have := Zw10.out; have := Zw11.out; have := Zwm_g.out; have := Zw12.out; have := Zw13.out; have := Zw14.out; have := Zw15.out; have := Zw16.out; have := Zw17.out; have := Zw18.out; have := LXG0.out; omega)
  replace cXG0 : w19.cell? ⟨w12.heap.size, 0, none⟩ = some (.slice g0a R.length g0c) := XG0.out.cell
  replace XG1 : Hid (Bx w19 (w12.heap.size + 1) (.slice g1a R2.length g1c)) := XG1.out.turned t (by have := Zw1.out; have := Zw2.out; have := Zw3.out; have := Zw4.out; have := Zw5.out; have := Zw6.out; have := Zw7.out; have := Zw8.out; have := Zw9.out; have := Zw10.out; have := Zw11.out; have := Zwm_g.out; have := Zw12.out; have := Zw13.out; have := Zw14.out; have := Zw15.out; have := Zw16.out; have := Zw17.out; have := Zw18.out; have := LXG1.out; omega)
  replace cXG1 : w19.cell? ⟨(w12.heap.size + 1), 0, none⟩ = some (.slice g1a R2.length g1c) := XG1.out.cell
  obtain ⟨_, ho, o⟩ := o
  obtain rfl := agg_inj ho
  have Ox0 : Hid (wh.Own w19 w5.heap.size w6.heap.size (.slice x0a A0.length x0c) (mk (1) A0.length)) := o
  clear o t
  go_wp2_with fail
  refine (markW_any ⟨_, rfl, Ox1.out⟩ (by omega) (by omega) (by omega)).mono ?_
  rintro e w20 ⟨rfl, o, t⟩
  clear Ox1
  have Zw20 : Hid (w19.heap.size ≤ w20.heap.size) := t.size
  replace B0 : Hid (Below w.heap.size w w20) := B0.out.trans (t.below (by have := Zw1.out; have := Zw2.out; have := Zw3.out; have := Zw4.out; have := Zw5.out; have := Zw6.out; have := Zw7.out; omega) (by have := Zw1.out; have := Zw2.out; have := Zw3.out; have := Zw4.out; have := Zw5.out; have := Zw6.out; have := Zw7.out; have := Zw8.out; have := Zw9.out; have := Zw10.out; have := Zw11.out; have := Zwm_g.out; have := Zw12.out; have := Zw13.out; have := Zw14.out; have := Zw15.out; have := Zw16.out; have := Zw17.out; have := Zw18.out; have := Zw19.out; omega))
  replace Rf0 : Hid (Rd w20 w.heap.size s0 A0) := Rf0.out.turned t (by have := Zw1.out; have := Zw2.out; have := Zw3.out; have := Zw4.out; have := Zw5.out; have := Zw6.out; have := Zw7.out; omega) (by have := Zw1.out; have := Zw2.out; have := Zw3.out; have := Zw4.out; have := Zw5.out; have := Zw6.out; have := Zw7.out; have := Zw8.out; have := Zw9.out; have := Zw10.out; have := Zw11.out; have := Zwm_g.out; have := Zw12.out; have := Zw13.out; have := Zw14.out; have := Zw15.out; have := Zw16.out; have := Zw17.out; have := Zw18.out; have := Zw19.out; omega)
  replace Rf1 : Hid (Rd w20 w.heap.size s1 A1) := Rf1.out.turned t (by have := Zw1.out; have := Zw2.out; have := Zw3.out; have := Zw4.out; have := Zw5.out; have := Zw6.out; have := Zw7.out; omega) (by have := Zw1.out; have := Zw2.out; have := Zw3.out; have := Zw4.out; have := Zw5.out; have := Zw6.out; have := Zw7.out; have := Zw8.out; have := Zw9.out; have := Zw10.out; have := Zw11.out; have := Zwm_g.out; have := Zw12.out; have := Zw13.out; have := Zw14.out; have := Zw15.out; have := Zw16.out; have := Zw17.out; have := Zw18.out; have := Zw19.out; omega)
  replace Rf2 : Hid (Rd w20 w.heap.size s2 A2) := Rf2.out.turned t (by have := Zw1.out; have := Zw2.out; have := Zw3.out; have := Zw4.out; have := Zw5.out; have := Zw6.out; have := Zw7.out; omega) (by have := Zw1.out; have := Zw2.out; have := Zw3.out; have := Zw4.out; have := Zw5.out; have := Zw6.out; have := Zw7.out; have := Zw8.out; have := Zw9.out; have := Zw10.out; have := Zw11.out; have := Zwm_g.out; have := Zw12.out; have := Zw13.out; have := Zw14.out; have := Zw15.out; have := Zw16.out; have := Zw17.out; have := Zw18.out; have := Zw19.out; omega)
  replace Or0 : Hid (Rd w20 w5.heap.size (.slice rra R.length rrc) R) := Or0.out.turned t (by have := Zw6.out; have := Zw7.out; omega) (by have := Zw6.out; have := Zw7.out; have := Zw8.out; have := Zw9.out; have := Zw10.out; have := Zw11.out; have := Zwm_g.out; have := Zw12.out; have := Zw13.out; have := Zw14.out; have := Zw15.out; have := Zw16.out; have := Zw17.out; have := Zw18.out; have := Zw19.out; omega)
  replace Or1 : Hid (Rd w20 w5.heap.size (.slice rsa R2.length rsc) R2) := Or1.out.turned t (by have := Zw6.out; have := Zw7.out; omega) (by have := Zw6.out; have := Zw7.out; have := Zw8.out; have := Zw9.out; have := Zw10.out; have := Zw11.out; have := Zwm_g.out; have := Zw12.out; have := Zw13.out; have := Zw14.out; have := Zw15.out; have := Zw16.out; have := Zw17.out; have := Zw18.out; have := Zw19.out; omega)
  replace Ox2 : Hid (wh.Own w20 w9.heap.size w10.heap.size (.slice x2a A2.length x2c) A2) := Ox2.out.turned t (.inr (by have := Zw9.out; omega))
  replace Og0 : Hid (wh.Own w20 w11.heap.size wm_g.heap.size (.slice g0a R.length g0c) R) := Og0.out.turned t (.inr (by have := Zw9.out; have := Zw10.out; have := Zw11.out; omega))
  replace Og1 : Hid (wh.Own w20 wm_g.heap.size w12.heap.size (.slice g1a R2.length g1c) R2) := Og1.out.turned t (.inr (by have := Zw9.out; have := Zw10.out; have := Zw11.out; have := Zwm_g.out; omega))
  replace Ox0 : Hid (wh.Own w20 w5.heap.size w6.heap.size (.slice x0a A0.length x0c) (mk (1) A0.length)) := Ox0.out.turned t (.inl (by have := Zw7.out; omega))
  replace XP0 : Hid (Bx w20 w.heap.size s0) := XP0.out.turned t (by have := Zw1.out; have := Zw2.out; have := Zw3.out; have := Zw4.out; have := Zw5.out; have := Zw6.out; have := Zw7.out; have := Zw8.out; have := Zw9.out; have := Zw10.out; have := Zw11.out; have := Zwm_g.out; have := Zw12.out; have := Zw13.out; have := Zw14.out; have := Zw15.out; have := Zw16.out; have := Zw17.out; have := Zw18.out; have := Zw19.out; have := LXP0.out; omega)
  replace cXP0 : w20.cell? ⟨w.heap.size, 0, none⟩ = some s0 := XP0.out.cell
  replace XP1 : Hid (Bx w20 (w.heap.size + 1) s1) := XP1.out.turned t (by have := Zw1.out; have := Zw2.out; have := Zw3.out; have := Zw4.out; have := Zw5.out; have := Zw6.out; have := Zw7.out; have := Zw8.out; have := Zw9.out; have := Zw10.out; have := Zw11.out; have := Zwm_g.out; have := Zw12.out; have := Zw13.out; have := Zw14.out; have := Zw15.out; have := Zw16.out; have := Zw17.out; have := Zw18.out; have := Zw19.out; have := LXP1.out; omega)
  replace cXP1 : w20.cell? ⟨(w.heap.size + 1), 0, none⟩ = some s1 := XP1.out.cell
  replace XP2 : Hid (Bx w20 (w.heap.size + 1 + 1) s2) := XP2.out.turned t (by have := Zw1.out; have := Zw2.out; have := Zw3.out; have := Zw4.out; have := Zw5.out; have := Zw6.out; have := Zw7.out; have := Zw8.out; have := Zw9.out; have := Zw10.out; have := Zw11.out; have := Zwm_g.out; have := Zw12.out; have := Zw13.out; have := Zw14.out; have := Zw15.out; have := Zw16.out; have := Zw17.out; have := Zw18.out; have := Zw19.out; have := LXP2.out; omega)
  replace cXP2 : w20.cell? ⟨(w.heap.size + 1 + 1), 0, none⟩ = some s2 := XP2.out.cell
  replace XS0 : Hid (Bx w20 rF (.slice rra R.length rrc)) := XS0.out.turned t (by have := Zw1.out; have := Zw2.out; have := Zw3.out; have := Zw4.out; have := Zw5.out; have := Zw6.out; have := Zw7.out; have := Zw8.out; have := Zw9.out; have := Zw10.out; have := Zw11.out; have := Zwm_g.out; have := Zw12.out; have := Zw13.out; have := Zw14.out; have := Zw15.out; have := Zw16.out; have := Zw17.out; have := Zw18.out; have := Zw19.out; have := LXS0.out; have := GXS0.out; omega)
  replace cXS0 : w20.cell? ⟨rF, 0, none⟩ = some (.slice rra R.length rrc) := XS0.out.cell
  replace XS1 : Hid (Bx w20 rG (.slice rsa R2.length rsc)) := XS1.out.turned t (by have := Zw1.out; have := Zw2.out; have := Zw3.out; have := Zw4.out; have := Zw5.out; have := Zw6.out; have := Zw7.out; have := Zw8.out; have := Zw9.out; have := Zw10.out; have := Zw11.out; have := Zwm_g.out; have := Zw12.out; have := Zw13.out; have := Zw14.out; have := Zw15.out; have := Zw16.out; have := Zw17.out; have := Zw18.out; have := Zw19.out; have := LXS1.out; have := GXS1.out; omega)
  replace cXS1 : w20.cell? ⟨rG, 0, none⟩ = some (.slice rsa R2.length rsc) := XS1.out.cell
  replace XX0 : Hid (Bx w20 w6.heap.size (.slice x0a A0.length x0c)) := XX0.out.turned t (by have := Zw1.out; have := Zw2.out; have := Zw3.out; have := Zw4.out; have := Zw5.out; have := Zw6.out; have := Zw7.out; have := Zw8.out; have := Zw9.out; have := Zw10.out; have := Zw11.out; have := Zwm_g.out; have := Zw12.out; have := Zw13.out; have := Zw14.out; have := Zw15.out; have := Zw16.out; have := Zw17.out; have := Zw18.out; have := Zw19.out; have := LXX0.out; omega)
  replace cXX0 : w20.cell? ⟨w6.heap.size, 0, none⟩ = some (.slice x0a A0.length x0c) := XX0.out.cell
  replace XX1 : Hid (Bx w20 w8.heap.size (.slice x1a A1.length x1c)) := XX1.out.turned t (by have := Zw1.out; have := Zw2.out; have := Zw3.out; have := Zw4.out; have := Zw5.out; have := Zw6.out; have := Zw7.out; have := Zw8.out; have := Zw9.out; have := Zw10.out; have := Zw11.out; have := Zwm_g.out; have := Zw12.out; have := Zw13.out; have := Zw14.out; have := Zw15.out; have := Zw16.out; have := Zw17.out; have := Zw18.out; have := Zw19.out; have := LXX1.out; omega)
  replace cXX1 : w20.cell? ⟨w8.heap.size, 0, none⟩ = some (.slice x1a A1.length x1c) := XX1.out.cell
  replace XX2 : Hid (Bx w20 w10.heap.size (.slice x2a A2.length x2c)) := XX2.out.turned t (by have := Zw1.out; have := Zw2.out; have := Zw3.out; have := Zw4.out; have := Zw5.out; have := Zw6.out; have := Zw7.out; have := Zw8.out; have := Zw9.out; have := Zw10.out; have := Zw11.out; have := Zwm_g.out; have := Zw12.out; have := Zw13.out; have := Zw14.out; have := Zw15.out; have := Zw16.out; have := Zw17.out; have := Zw18.out; have := Zw19.out; have := LXX2.out; omega)
  replace cXX2 : w20.cell? ⟨w10.heap.size, 0, none⟩ = some (.slice x2a A2.length x2c) := XX2.out.cell
  replace XG0 : Hid (Bx w20 w12.heap.size (.slice g0a R.length g0c)) := XG0.out.turned t (by have := Zw1.out; have := Zw2.out; have := Zw3.out; have := Zw4.out; have := Zw5.out; have := Zw6.out; have := Zw7.out; have := Zw8.out; have := Zw9.out; have := Zw10.out; have := Zw11.out; have := Zwm_g.out; have := Zw12.out; have := Zw13.out; have := Zw14.out; have := Zw15.out; have := Zw16.out; have := Zw17.out; have := Zw18.out; have := Zw19.out; have := LXG0.out; omega)
  replace cXG0 : w20.cell? ⟨w12.heap.size, 0, none⟩ = some (.slice g0a R.length g0c) := XG0.out.cell
  replace XG1 : Hid (Bx w20 (w12.heap.size + 1) (.slice g1a R2.length g1c)) := XG1.out.turned t (by have := Zw1.out; have := Zw2.out; have := Zw3.out; have := Zw4.out; have := Zw5.out; have := Zw6.out; have := Zw7.out; have := Zw8.out; have := Zw9.out; have := Zw10.out; have := Zw11.out; have := Zwm_g.out; have := Zw12.out; have := Zw13.out; have := Zw14.out; have := Zw15.out; have := Zw16.out; have := Zw17.out; have := Zw18.out; have := Zw19.out; have := LXG1.out; omega)
  replace cXG1 : w20.cell? ⟨(w12.heap.size + 1), 0, none⟩ = some (.slice g1a R2.length g1c) := XG1.out.cell
  obtain ⟨_, ho, o⟩ := o
  obtain rfl := agg_inj ho
  have Ox1 : Hid (wh.Own w20 w7.heap.size w8.heap.size (.slice x1a A1.length x1c) (mk (1 + (A0.length : Int)) A1.length)) := o
  clear o t
  go_wp2_with fail
  refine (markW_any ⟨_, rfl, Ox2.out⟩ (by omega) (by omega) (by omega)).mono ?_
  rintro e w21 ⟨rfl, o, t⟩
  clear Ox2
  have Zw21 : Hid (w20.heap.size ≤ w21.heap.size) := t.size
  replace B0 : Hid (Below w.heap.size w w21) := B0.out.trans (t.below (by have := Zw1.out; have := Zw2.out; have := Zw3.out; have := Zw4.out; have := Zw5.out; have := Zw6.out; have := Zw7.out; have := Zw8.out; have := Zw9.out; omega) (by have := Zw1.out; have := Zw2.out; have := Zw3.out; have := Zw4.out; have := Zw5.out; have := Zw6.out; have := Zw7.out; have := Zw8.out; have := Zw9.out; have := Zw10.out; have := Zw11.out; have := Zwm_g.out; have := Zw12.out; have := Zw13.out; have := Zw14.out; have := Zw15.out; have := Zw16.out; have := Zw17.out; have := Zw18.out; have := Zw19.out; have := Zw20.out; omega))
  replace Rf0 : Hid (Rd w21 w.heap.size s0 A0) := Rf0.out.turned t (by have := Zw1.out; have := Zw2.out; have := Zw3.out; have := Zw4.out; have := Zw5.out; have := Zw6.out; have := Zw7.out; have := Zw8.out; have := Zw9.out; omega) (by have := Zw1.out; have := Zw2.out; have := Zw3.out; have := Zw4.out; have := Zw5.out; have := Zw6.out; have := Zw7.out; have := Zw8.out; have := Zw9.out; have := Zw10.out; have := Zw11.out; have := Zwm_g.out; have := Zw12.out; have := Zw13.out; have := Zw14.out; have := Zw15.out; have := Zw16.out; have := Zw17.out; have := Zw18.out; have := Zw19.out; have := Zw20.out; omega)
  replace Rf1 : Hid (Rd w21 w.heap.size s1 A1) := Rf1.out.turned t (by have := Zw1.out; have := Zw2.out; have := Zw3.out; have := Zw4.out; have := Zw5.out; have := Zw6.out; have := Zw7.out; have := Zw8.out; have := Zw9.out; omega) (by have := Zw1.out; have := Zw2.out; have := Zw3.out; have := Zw4.out; have := Zw5.out; have := Zw6.out; have := Zw7.out; have := Zw8.out; have := Zw9.out; have := Zw10.out; have := Zw11.out; have := Zwm_g.out; have := Zw12.out; have := Zw13.out; have := Zw14.out; have := Zw15.out; have := Zw16.out; have := Zw17.out; have := Zw18.out; have := Zw19.out; have := Zw20.out; omega)
  replace Rf2 : Hid (Rd w21 w.heap.size s2 A2) := Rf2.out.turned t (by have := Zw1.out; have := Zw2.out; have := Zw3.out; have := Zw4.out; have := Zw5.out; have := Zw6.out; have := Zw7.out; have := Zw8.out; have := Zw9.out; omega) (by have := Zw1.out; have := Zw2.out; have := Zw3.out; have := Zw4.out; have := Zw5.out; have := Zw6.out; have := Zw7.out; have := Zw8.out; have := Zw9.out; have := Zw10.out; have := Zw11.out; have := Zwm_g.out; have := Zw12.out; have := Zw13.out; have := Zw14.out; have := Zw15.out; have := Zw16.out; have := Zw17.out; have := Zw18.out; have := Zw19.out; have := Zw20.out; omega)
  replace Or0 : Hid (Rd w21 w5.heap.size (.slice rra R.length rrc) R) := Or0.out.turned t (by have := Zw6.out; have := Zw7.out; have := Zw8.out; have := Zw9.out; omega) (by have := Zw6.out; have := Zw7.out; have := Zw8.out; have := Zw9.out; have := Zw10.out; have := Zw11.out; have := Zwm_g.out; have := Zw12.out; have := Zw13.out; have := Zw14.out; have := Zw15.out; have := Zw16.out; have := Zw17.out; have := Zw18.out; have := Zw19.out; have := Zw20.out; omega)
  replace Or1 : Hid (Rd w21 w5.heap.size (.slice rsa R2.length rsc) R2) := Or1.out.turned t (by have := Zw6.out; have := Zw7.out; have := Zw8.out; have := Zw9.out; omega) (by have := Zw6.out; have := Zw7.out; have := Zw8.out; have := Zw9.out; have := Zw10.out; have := Zw11.out; have := Zwm_g.out; have := Zw12.out; have := Zw13.out; have := Zw14.out; have := Zw15.out; have := Zw16.out; have := Zw17.out; have := Zw18.out; have := Zw19.out; have := Zw20.out; omega)
  replace Og0 : Hid (wh.Own w21 w11.heap.size wm_g.heap.size (.slice g0a R.length g0c) R) := Og0.out.turned t (.inr (by have := Zw11.out; omega))
  replace Og1 : Hid (wh.Own w21 wm_g.heap.size w12.heap.size (.slice g1a R2.length g1c) R2) := Og1.out.turned t (.inr (by have := Zw11.out; have := Zwm_g.out; omega))
  replace Ox0 : Hid (wh.Own w21 w5.heap.size w6.heap.size (.slice x0a A0.length x0c) (mk (1) A0.length)) := Ox0.out.turned t (.inl (by have := Zw7.out; have := Zw8.out; have := Zw9.out; omega))
  replace Ox1 : Hid (wh.Own w21 w7.heap.size w8.heap.size (.slice x1a A1.length x1c) (mk (1 + (A0.length : Int)) A1.length)) := Ox1.out.turned t (.inl (by have := Zw9.out; omega))
  replace XP0 : Hid (Bx w21 w.heap.size s0) := XP0.out.turned t (by have := Zw1.out; have := Zw2.out; have := Zw3.out; have := Zw4.out; have := Zw5.out; have := Zw6.out; have := Zw7.out; have := Zw8.out; have := Zw9.out; have := Zw10.out; have := Zw11.out; have := Zwm_g.out; have := Zw12.out; have := Zw13.out; have := Zw14.out; have := Zw15.out; have := Zw16.out; have := Zw17.out; have := Zw18.out; have := Zw19.out; have := Zw20.out; have := LXP0.out; omega)
  replace cXP0 : w21.cell? ⟨w.heap.size, 0, none⟩ = some s0 := XP0.out.cell
  replace XP1 : Hid (Bx w21 (w.heap.size + 1) s1) := XP1.out.turned t (by have := Zw1.out; have := Zw2.out; have := Zw3.out; have := Zw4.out; have := Zw5.out; have := Zw6.out; have := Zw7.out; have := Zw8.out; have := Zw9.out; have := Zw10.out; have := Zw11.out; have := Zwm_g.out; have := Zw12.out; have := Zw13.out; have := Zw14.out; have := Zw15.out; have := Zw16.out; have := Zw17.out; have := Zw18.out; have := Zw19.out; have := Zw20.out; have := LXP1.out; omega)
  replace cXP1 : w21.cell? ⟨(w.heap.size + 1), 0, none⟩ = some s1 := XP1.out.cell
  replace XP2 : Hid (Bx w21 (w.heap.size + 1 + 1) s2) := XP2.out.turned t (by have := Zw1.out; have := Zw2.out; have := Zw3.out; have := Zw4.out; have := Zw5.out; have := Zw6.out; have := Zw7.out; have := Zw8.out; have := Zw9.out; have := Zw10.out; have := Zw11.out; have := Zwm_g.out; have := Zw12.out; have := Zw13.out; have := Zw14.out; have := Zw15.out; have := Zw16.out; have := Zw17.out; have := Zw18.out; have := Zw19.out; have := Zw20.out; have := LXP2.out; omega)
  replace cXP2 : w21.cell? ⟨(w.heap.size + 1 + 1), 0, none⟩ = some s2 := XP2.out.cell
  replace XS0 : Hid (Bx w21 rF (.slice rra R.length rrc)) := XS0.out.turned t (by have := Zw1.out; have := Zw2.out; have := Zw3.out; have := Zw4.out; have := Zw5.out; have := Zw6.out; have := Zw7.out; have := Zw8.out; have := Zw9.out; have := Zw10.out; have := Zw11.out; have := Zwm_g.out; have := Zw12.out; have := Zw13.out; have := Zw14.out; have := Zw15.out; have := Zw16.out; have := Zw17.out; have := Zw18.out; have := Zw19.out; have := Zw20.out; have := LXS0.out; have := GXS0.out; omega)
  replace cXS0 : w21.cell? ⟨rF, 0, none⟩ = some (.slice rra R.length rrc) := XS0.out.cell
  replace XS1 : Hid (Bx w21 rG (.slice rsa R2.length rsc)) := XS1.out.turned t (by have := Zw1.out; have := Zw2.out; have := Zw3.out; have := Zw4.out; have := Zw5.out; have := Zw6.out; have := Zw7.out; have := Zw8.out; have := Zw9.out; have := Zw10.out; have := Zw11.out; have := Zwm_g.out; have := Zw12.out; have := Zw13.out; have := Zw14.out; have := Zw15.out; have := Zw16.out; have := Zw17.out; have := Zw18.out; have := Zw19.out; have := Zw20.out; have := LXS1.out; have := GXS1.out; omega)
  replace cXS1 : w21.cell? ⟨rG, 0, none⟩ = some (.slice rsa R2.length rsc) := XS1.out.cell
  replace XX0 : Hid (Bx w21 w6.heap.size (.slice x0a A0.length x0c)) := XX0.out.turned t (by have := Zw1.out; have := Zw2.out; have := Zw3.out; have := Zw4.out; have := Zw5.out; have := Zw6.out; have := Zw7.out; have := Zw8.out; have := Zw9.out; have := Zw10.out; have := Zw11.out; have := Zwm_g.out; have := Zw12.out; have := Zw13.out; have := Zw14.out; have := Zw15.out; have := Zw16.out; have := Zw17.out; have := Zw18.out; have := Zw19.out; have := Zw20.out; have := LXX0.out; omega)
  replace cXX0 : w21.cell? ⟨w6.heap.size, 0, none⟩ = some (.slice x0a A0.length x0c) := XX0.out.cell
  replace XX1 : Hid (Bx w21 w8.heap.size (.slice x1a A1.length x1c)) := XX1.out.turned t (by have := Zw1.out; have := Zw2.out; have := Zw3.out; have := Zw4.out; have := Zw5.out; have := Zw6.out; have := Zw7.out; have := Zw8.out; have := Zw9.out; have := Zw10.out; have := Zw11.out; have := Zwm_g.out; have := Zw12.out; have := Zw13.out; have := Zw14.out; have := Zw15.out; have := Zw16.out; have := Zw17.out; have := Zw18.out; have := Zw19.out; have := Zw20.out; have := LXX1.out; omega)
  replace cXX1 : w21.cell? ⟨w8.heap.size, 0, none⟩ = some (.slice x1a A1.length x1c) := XX1.out.cell
  replace XX2 : Hid (Bx w21 w10.heap.size (.slice x2a A2.length x2c)) := XX2.out.turned t (by have := Zw1.out; have := Zw2.out; have := Zw3.out; have := Zw4.out; have := Zw5.out; have := Zw6.out; have := Zw7.out; have := Zw8.out; have := Zw9.out; have := Zw10.out; have := Zw11.out; have := Zwm_g.out; have := Zw12.out; have := Zw13.out; have := Zw14.out; have := Zw15.out; have := Zw16.out; have := Zw17.out; have := Zw18.out; have := Zw19.out; have := Zw20.out; have := LXX2.out; omega)
  replace cXX2 : w21.cell? ⟨w10.heap.size, 0, none⟩ = some (.slice x2a A2.length x2c) := XX2.out.cell
  replace XG0 : Hid (Bx w21 w12.heap.size (.slice g0a R.length g0c)) := XG0.out.turned t (by have := Zw1.out; have := Zw2.out; have := Zw3.out; have := Zw4.out; have := Zw5.out; have := Zw6.out; have := Zw7.out; have := Zw8.out; have := Zw9.out; have := Zw10.out; have := Zw11.out; have := Zwm_g.out; have := Zw12.out; have := Zw13.out; have := Zw14.out; have := Zw15.out; have := Zw16.out; have := Zw17.out; have := Zw18.out; have := Zw19.out; have := Zw20.out; have := LXG0.out; omega)
  replace cXG0 : w21.cell? ⟨w12.heap.size, 0, none⟩ = some (.slice g0a R.length g0c) := XG0.out.cell
  replace XG1 : Hid (Bx w21 (w12.heap.size + 1) (.slice g1a R2.length g1c)) := XG1.out.turned t (by have := Zw1.out; have := Zw2.out; have := Zw3.out; have := Zw4.out; have := Zw5.out; have := Zw6.out; have := Zw7.out; have := Zw8.out; have := Zw9.out; have := Zw10.out; have := Zw11.out; have := Zwm_g.out; have := Zw12.out; have := Zw13.out; have := Zw14.out; have := Zw15.out; have := Zw16.out; have := Zw17.out; have := Zw18.out; have := Zw19.out; have := Zw20.out; have := LXG1.out; omega)
  replace cXG1 : w21.cell? ⟨(w12.heap.size + 1), 0, none⟩ = some (.slice g1a R2.length g1c) := XG1.out.cell
  obtain ⟨_, ho, o⟩ := o
  obtain rfl := agg_inj ho
  have Ox2 : Hid (wh.Own w21 w9.heap.size w10.heap.size (.slice x2a A2.length x2c) (mk (1 + (A0.length : Int) + (A1.length : Int)) A2.length)) := o
  clear o t
  clear Ox0
  clear Ox1
  clear Ox2
  clear cXX0 XX0 LXX0
  clear cXX1 XX1 LXX1
  clear cXX2 XX2 LXX2
  go_wp2_with fail
  refine (eqW_any ⟨_, rfl, (Og0.out.rd.ls (by have := Zw12.out; have := Zw13.out; have := Zw14.out; have := Zw15.out; have := Zw16.out; have := Zw17.out; have := Zw18.out; have := Zw19.out; have := Zw20.out; have := Zw21.out; omega))⟩ ⟨_, rfl, (Or0.out.ls (by have := Zw6.out; have := Zw7.out; have := Zw8.out; have := Zw9.out; have := Zw10.out; have := Zw11.out; have := Zwm_g.out; have := Zw12.out; have := Zw13.out; have := Zw14.out; have := Zw15.out; have := Zw16.out; have := Zw17.out; have := Zw18.out; have := Zw19.out; have := Zw20.out; have := Zw21.out; omega))⟩).mono ?_
  rintro e w22 ⟨rfl, b⟩
  have Zw22 : Hid (w21.heap.size ≤ w22.heap.size) := b.size
  replace B0 : Hid (Below w.heap.size w w22) := B0.out.trans (b.mono (by have := Zw1.out; have := Zw2.out; have := Zw3.out; have := Zw4.out; have := Zw5.out; have := Zw6.out; have := Zw7.out; have := Zw8.out; have := Zw9.out; have := Zw10.out; have := Zw11.out; have := Zwm_g.out; have := Zw12.out; have := Zw13.out; have := Zw14.out; have := Zw15.out; have := Zw16.out; have := Zw17.out; have := Zw18.out; have := Zw19.out; have := Zw20.out; have := Zw21.out; omega))
  replace Rf0 : Hid (Rd w22 w.heap.size s0 A0) := Rf0.out.below b (by have := Zw1.out; have := Zw2.out; have := Zw3.out; have := Zw4.out; have := Zw5.out; have := Zw6.out; have := Zw7.out; have := Zw8.out; have := Zw9.out; have := Zw10.out; have := Zw11.out; have := Zwm_g.out; have := Zw12.out; have := Zw13.out; have := Zw14.out; have := Zw15.out; have := Zw16.out; have := Zw17.out; have := Zw18.out; have := Zw19.out; have := Zw20.out; have := Zw21.out; omega)
  replace Rf1 : Hid (Rd w22 w.heap.size s1 A1) := Rf1.out.below b (by have := Zw1.out; have := Zw2.out; have := Zw3.out; have := Zw4.out; have := Zw5.out; have := Zw6.out; have := Zw7.out; have := Zw8.out; have := Zw9.out; have := Zw10.out; have := Zw11.out; have := Zwm_g.out; have := Zw12.out; have := Zw13.out; have := Zw14.out; have := Zw15.out; have := Zw16.out; have := Zw17.out; have := Zw18.out; have := Zw19.out; have := Zw20.out; have := Zw21.out; omega)
  replace Rf2 : Hid (Rd w22 w.heap.size s2 A2) := Rf2.out.below b (by have := Zw1.out; have := Zw2.out; have := Zw3.out; have := Zw4.out; have := Zw5.out; have := Zw6.out; have := Zw7.out; have := Zw8.out; have := Zw9.out; have := Zw10.out; have := Zw11.out; have := Zwm_g.out; have := Zw12.out; have := Zw13.out; have := Zw14.out; have := Zw15.out; have := Zw16.out; have := Zw17.out; have := Zw18.out; have := Zw19.out; have := Zw20.out; have := Zw21.out; omega)
  replace Or0 : Hid (Rd w22 w5.heap.size (.slice rra R.length rrc) R) := Or0.out.below b (by have := Zw6.out; have := Zw7.out; have := Zw8.out; have := Zw9.out; have := Zw10.out; have := Zw11.out; have := Zwm_g.out; have := Zw12.out; have := Zw13.out; have := Zw14.out; have := Zw15.out; have := Zw16.out; have := Zw17.out; have := Zw18.out; have := Zw19.out; have := Zw20.out; have := Zw21.out; omega)
  replace Or1 : Hid (Rd w22 w5.heap.size (.slice rsa R2.length rsc) R2) := Or1.out.below b (by have := Zw6.out; have := Zw7.out; have := Zw8.out; have := Zw9.out; have := Zw10.out; have := Zw11.out; have := Zwm_g.out; have := Zw12.out; have := Zw13.out; have := Zw14.out; have := Zw15.out; have := Zw16.out; have := Zw17.out; have := Zw18.out; have := Zw19.out; have := Zw20.out; have := Zw21.out; omega)
  replace Og0 : Hid (wh.Own w22 w11.heap.size wm_g.heap.size (.slice g0a R.length g0c) R) := Og0.out.below b (by have := Zw12.out; have := Zw13.out; have := Zw14.out; have := Zw15.out; have := Zw16.out; have := Zw17.out; have := Zw18.out; have := Zw19.out; have := Zw20.out; have := Zw21.out; omega)
  replace Og1 : Hid (wh.Own w22 wm_g.heap.size w12.heap.size (.slice g1a R2.length g1c) R2) := Og1.out.below b (by have := Zw13.out; have := Zw14.out; have := Zw15.out; have := Zw16.out; have := Zw17.out; have := Zw18.out; have := Zw19.out; have := Zw20.out; have := Zw21.out; omega)
  replace XP0 : Hid (Bx w22 w.heap.size s0) := XP0.out.kept b
  replace cXP0 : w22.cell? ⟨w.heap.size, 0, none⟩ = some s0 := XP0.out.cell
  replace XP1 : Hid (Bx w22 (w.heap.size + 1) s1) := XP1.out.kept b
  replace cXP1 : w22.cell? ⟨(w.heap.size + 1), 0, none⟩ = some s1 := XP1.out.cell
  replace XP2 : Hid (Bx w22 (w.heap.size + 1 + 1) s2) := XP2.out.kept b
  replace cXP2 : w22.cell? ⟨(w.heap.size + 1 + 1), 0, none⟩ = some s2 := XP2.out.cell
  replace XS0 : Hid (Bx w22 rF (.slice rra R.length rrc)) := XS0.out.kept b
  replace cXS0 : w22.cell? ⟨rF, 0, none⟩ = some (.slice rra R.length rrc) := XS0.out.cell
  replace XS1 : Hid (Bx w22 rG (.slice rsa R2.length rsc)) := XS1.out.kept b
  replace cXS1 : w22.cell? ⟨rG, 0, none⟩ = some (.slice rsa R2.length rsc) := XS1.out.cell
  replace XG0 : Hid (Bx w22 w12.heap.size (.slice g0a R.length g0c)) := XG0.out.kept b
  replace cXG0 : w22.cell? ⟨w12.heap.size, 0, none⟩ = some (.slice g0a R.length g0c) := XG0.out.cell
  replace XG1 : Hid (Bx w22 (w12.heap.size + 1) (.slice g1a R2.length g1c)) := XG1.out.kept b
  replace cXG1 : w22.cell? ⟨(w12.heap.size + 1), 0, none⟩ = some (.slice g1a R2.length g1c) := XG1.out.cell
  clear b
  go_wp2_with fail
  refine (eqW_any ⟨_, rfl, (Og1.out.rd.ls (by have := Zw13.out; have := Zw14.out; have := Zw15.out; have := Zw16.out; have := Zw17.out; have := Zw18.out; have := Zw19.out; have := Zw20.out; have := Zw21.out; have := Zw22.out; omega))⟩ ⟨_, rfl, (Or1.out.ls (by have := Zw6.out; have := Zw7.out; have := Zw8.out; have := Zw9.out; have := Zw10.out; have := Zw11.out; have := Zwm_g.out; have := Zw12.out; have := Zw13.out; have := Zw14.out; have := Zw15.out; have := Zw16.out; have := Zw17.out; have := Zw18.out; have := Zw19.out; have := Zw20.out; have := Zw21.out; have := Zw22.out; omega))⟩).mono ?_
  rintro e w23 ⟨rfl, b⟩
  have Zw23 : Hid (w22.heap.size ≤ w23.heap.size) := b.size
  replace B0 : Hid (Below w.heap.size w w23) := B0.out.trans (b.mono (by have := Zw1.out; have := Zw2.out; have := Zw3.out; have := Zw4.out; have := Zw5.out; have := Zw6.out; have := Zw7.out; have := Zw8.out; have := Zw9.out; have := Zw10.out; have := Zw11.out; have := Zwm_g.out; have := Zw12.out; have := Zw13.out; have := Zw14.out; have := Zw15.out; have := Zw16.out; have := Zw17.out; have := Zw18.out; have := Zw19.out; have := Zw20.out; have := Zw21.out; have := Zw22.out; omega))
  replace Rf0 : Hid (Rd w23 w.heap.size s0 A0) := Rf0.out.below b (by have := Zw1.out; have := Zw2.out; have := Zw3.out; have := Zw4.out; have := Zw5.out; have := Zw6.out; have := Zw7.out; have := Zw8.out; have := Zw9.out; have := Zw10.out; have := Zw11.out; have := Zwm_g.out; have := Zw12.out; have := Zw13.out; have := Zw14.out; have := Zw15.out; have := Zw16.out; have := Zw17.out; have := Zw18.out; have := Zw19.out; have := Zw20.out; have := Zw21.out; have := Zw22.out; omega)
  replace Rf1 : Hid (Rd w23 w.heap.size s1 A1) := Rf1.out.below b (by have := Zw1.out; have := Zw2.out; have := Zw3.out; have := Zw4.out; have := Zw5.out; have := Zw6.out; have := Zw7.out; have := Zw8.out; have := Zw9.out; have := Zw10.out; have := Zw11.out; have := Zwm_g.out; have := Zw12.out; have := Zw13.out; have := Zw14.out; have := Zw15.out; have := Zw16.out; have := Zw17.out; have := Zw18.out; have := Zw19.out; have := Zw20.out; have := Zw21.out; have := Zw22.out; omega)
  replace Rf2 : Hid (Rd w23 w.heap.size s2 A2) := Rf2.out.below b (by have := Zw1.out; have := Zw2.out; have := Zw3.out; have := Zw4.out; have := Zw5.out; have := Zw6.out; have := Zw7.out; have := Zw8.out; have := Zw9.out; have := Zw10.out; have := Zw11.out; have := Zwm_g.out; have := Zw12.out; have := Zw13.out; have := Zw14.out; have := Zw15.out; have := Zw16.out; have := Zw17.out; have := Zw18.out; have := Zw19.out; have := Zw20.out; have := Zw21.out; have := Zw22.out; omega)
  replace Or0 : Hid (Rd w23 w5.heap.size (.slice rra R.length rrc) R) := Or0.out.below b (by have := Zw6.out; have := Zw7.out; have := Zw8.out; have := Zw9.out; have := Zw10.out; have := Zw11.out; have := Zwm_g.out; have := Zw12.out; have := Zw13.out; have := Zw14.out; have := Zw15.out; have := Zw16.out; have := Zw17.out; have := Zw18.out; have := Zw19.out; have := Zw20.out; have := Zw21.out; have := Zw22.out; omega)
  replace Or1 : Hid (Rd w23 w5.heap.size (.slice rsa R2.length rsc) R2) := Or1.out.below b (by have := Zw6.out; have := Zw7.out; have := Zw8.out; have := Zw9.out; have := Zw10.out; have := Zw11.out; have := Zwm_g.out; have := Zw12.out; have := Zw13.out; have := Zw14.out; have := Zw15.out; have := Zw16.out; have := Zw17.out; have := Zw18.out; have := Zw19.out; have := Zw20.out; have := Zw21.out; have := Zw22.out; omega)
  replace Og0 : Hid (wh.Own w23 w11.heap.size wm_g.heap.size (.slice g0a R.length g0c) R) := Og0.out.below b (by have := Zw12.out; have := Zw13.out; have := Zw14.out; have := Zw15.out; have := Zw16.out; have := Zw17.out; have := Zw18.out; have := Zw19.out; have := Zw20.out; have := Zw21.out; have := Zw22.out; omega)
  replace Og1 : Hid (wh.Own w23 wm_g.heap.size w12.heap.size (.slice g1a R2.length g1c) R2) := Og1.out.below b (by have := Zw13.out; have := Zw14.out; have := Zw15.out; have := Zw16.out; have := Zw17.out; have := Zw18.out; have := Zw19.out; have := Zw20.out; have := Zw21.out; have := Zw22.out; omega)
  replace XP0 : Hid (Bx w23 w.heap.size s0) := XP0.out.kept b
  replace cXP0 : w23.cell? ⟨w.heap.size, 0, none⟩ = some s0 := XP0.out.cell
  replace XP1 : Hid (Bx w23 (w.heap.size + 1) s1) := XP1.out.kept b
  replace cXP1 : w23.cell? ⟨(w.heap.size + 1), 0, none⟩ = some s1 := XP1.out.cell
  replace XP2 : Hid (Bx w23 (w.heap.size + 1 + 1) s2) := XP2.out.kept b
  replace cXP2 : w23.cell? ⟨(w.heap.size + 1 + 1), 0, none⟩ = some s2 := XP2.out.cell
  replace XS0 : Hid (Bx w23 rF (.slice rra R.length rrc)) := XS0.out.kept b
  replace cXS0 : w23.cell? ⟨rF, 0, none⟩ = some (.slice rra R.length rrc) := XS0.out.cell
  replace XS1 : Hid (Bx w23 rG (.slice rsa R2.length rsc)) := XS1.out.kept b
  replace cXS1 : w23.cell? ⟨rG, 0, none⟩ = some (.slice rsa R2.length rsc) := XS1.out.cell
  replace XG0 : Hid (Bx w23 w12.heap.size (.slice g0a R.length g0c)) := XG0.out.kept b
  replace cXG0 : w23.cell? ⟨w12.heap.size, 0, none⟩ = some (.slice g0a R.length g0c) := XG0.out.cell
  replace XG1 : Hid (Bx w23 (w12.heap.size + 1) (.slice g1a R2.length g1c)) := XG1.out.kept b
  replace cXG1 : w23.cell? ⟨(w12.heap.size + 1), 0, none⟩ = some (.slice g1a R2.length g1c) := XG1.out.cell
  clear b
  go_wp2_with fail
  refine (markW_any ⟨_, rfl, Og0.out⟩ (by omega) (by omega) (by omega)).mono ?_
  rintro e w24 ⟨rfl, o, t⟩
  clear Og0
  have Zw24 : Hid (w23.heap.size ≤ w24.heap.size) := t.size
  replace B0 : Hid (Below w.heap.size w w24) := B0.out.trans (t.below (by have := Zw1.out; have := Zw2.out; have := Zw3.out; have := Zw4.out; have := Zw5.out; have := Zw6.out; have := Zw7.out; have := Zw8.out; have := Zw9.out; have := Zw10.out; have := Zw11.out; omega) (by have := Zw1.out; have := Zw2.out; have := Zw3.out; have := Zw4.out; have := Zw5.out; have := Zw6.out; have := Zw7.out; have := Zw8.out; have := Zw9.out; have := Zw10.out; have := Zw11.out; have := Zwm_g.out; have := Zw12.out; have := Zw13.out; have := Zw14.out; have := Zw15.out; have := Zw16.out; have := Zw17.out; have := Zw18.out; have := Zw19.out; have := Zw20.out; have := Zw21.out; have := Zw22.out; have := Zw23.out; omega))
  replace Rf0 : Hid (Rd w24 w.heap.size s0 A0) := Rf0.out.turned t (by have := Zw1.out; have := Zw2.out; have := Zw3.out; have := Zw4.out; have := Zw5.out; have := Zw6.out; have := Zw7.out; have := Zw8.out; have := Zw9.out; have := Zw10.out; have := Zw11.out; omega) (by have := Zw1.out; have := Zw2.out; have := Zw3.out; have := Zw4.out; have := Zw5.out; have := Zw6.out; have := Zw7.out; have := Zw8.out; have := Zw9.out; have := Zw10.out; have := Zw11.out; have := Zwm_g.out; have := Zw12.out; have := Zw13.out; have := Zw14.out; have := Zw15.out; have := Zw16.out; have := Zw17.out; have := Zw18.out; have := Zw19.out; have := Zw20.out; have := Zw21.out; have := Zw22.out; have := Zw23.out; omega)
  replace Rf1 : Hid (Rd w24 w.heap.size s1 A1) := Rf1.out.turned t (by have := Zw1.out; have := Zw2.out; have := Zw3.out; have := Zw4.out; have := Zw5.out; have := Zw6.out; have := Zw7.out; have := Zw8.out; have := Zw9.out; have := Zw10.out; have := Zw11.out; omega) (by have := Zw1.out; have := Zw2.out; have := Zw3.out; have := Zw4.out; have := Zw5.out; have := Zw6.out; have := Zw7.out; have := Zw8.out; have := Zw9.out; have := Zw10.out; have := Zw11.out; have := Zwm_g.out; have := Zw12.out; have := Zw13.out; have := Zw14.out; have := Zw15.out; have := Zw16.out; have := Zw17.out; have := Zw18.out; have := Zw19.out; have := Zw20.out; have := Zw21.out; have := Zw22.out; have := Zw23.out; omega)
  replace Rf2 : Hid (Rd w24 w.heap.size s2 A2) := Rf2.out.turned t (by have := Zw1.out; have := Zw2.out; have := Zw3.out; have := Zw4.out; have := Zw5.out; have := Zw6.out; have := Zw7.out; have := Zw8.out; have := Zw9.out; have := Zw10.out; have := Zw11.out; omega) (by have := Zw1.out; have := Zw2.out; have := Zw3.out; have := Zw4.out; have := Zw5.out; have := Zw6.out; have := Zw7.out; have := Zw8.out; have := Zw9.out; have := Zw10.out; have := Zw11.out; have := Zwm_g.out; have := Zw12.out; have := Zw13.out; have := Zw14.out; have := Zw15.out; have := Zw16.out; have := Zw17.out; have := Zw18.out; have := Zw19.out; have := Zw20.out; have := Zw21.out; have := Zw22.out; have := Zw23.out; omega)
  replace Or0 : Hid (Rd w24 w5.heap.size (.slice rra R.length rrc) R) := Or0.out.turned t (by have := Zw6.out; have := Zw7.out; have := Zw8.out; have := Zw9.out; have := Zw10.out; have := Zw11.out; omega) (by have := Zw6.out; have := Zw7.out; have := Zw8.out; have := Zw9.out; have := Zw10.out; have := Zw11.out; have := Zwm_g.out; have := Zw12.out; have := Zw13.out; have := Zw14.out; have := Zw15.out; have := Zw16.out; have := Zw17.out; have := Zw18.out; have := Zw19.out; have := Zw20.out; have := Zw21.out; have := Zw22.out; have := Zw23.out; omega)
  replace Or1 : Hid (Rd w24 w5.heap.size (.slice rsa R2.length rsc) R2) := Or1.out.turned t (by have := Zw6.out; have := Zw7.out; have := Zw8.out; have := Zw9.out; have := Zw10.out; have := Zw11.out; omega) (by have := Zw6.out; have := Zw7.out; have := Zw8.out; have := Zw9.out; have := Zw10.out; have := Zw11.out; have := Zwm_g.out; have := Zw12.out; have := Zw13.out; have := Zw14.out; have := Zw15.out; have := Zw16.out; have := Zw17.out; have := Zw18.out; have := Zw19.out; have := Zw20.out; have := Zw21.out; have := Zw22.out; have := Zw23.out; omega)
  replace Og1 : Hid (wh.Own w24 wm_g.heap.size w12.heap.size (.slice g1a R2.length g1c) R2) := Og1.out.turned t (.inr (Nat.le_refl _))
  replace XP0 : Hid (Bx w24 w.heap.size s0) := XP0.out.turned t (by have := Zw1.out; have := Zw2.out; have := Zw3.out; have := Zw4.out; have := Zw5.out; have := Zw6.out; have := Zw7.out; have := Zw8.out; have := Zw9.out; have := Zw10.out; have := Zw11.out; have := Zwm_g.out; have := Zw12.out; have := Zw13.out; have := Zw14.out; have := Zw15.out; have := Zw16.out; have := Zw17.out; have := Zw18.out; have := Zw19.out; have := Zw20.out; have := Zw21.out; have := Zw22.out; have := Zw23.out; have := LXP0.out; omega)
  replace cXP0 : w24.cell? ⟨w.heap.size, 0, none⟩ = some s0 := XP0.out.cell
  replace XP1 : Hid (Bx w24 (w.heap.size + 1) s1) := XP1.out.turned t (by have := Zw1.out; have := Zw2.out; have := Zw3.out; have := Zw4.out; have := Zw5.out; have := Zw6.out; have := Zw7.out; have := Zw8.out; have := Zw9.out; have := Zw10.out; have := Zw11.out; have := Zwm_g.out; have := Zw12.out; have := Zw13.out; have := Zw14.out; have := Zw15.out; have := Zw16.out; have := Zw17.out; have := Zw18.out; have := Zw19.out; have := Zw20.out; have := Zw21.out; have := Zw22.out; have := Zw23.out; have := LXP1.out; omega)
  replace cXP1 : w24.cell? ⟨(w.heap.size + 1), 0, none⟩ = some s1 := XP1.out.cell
  replace XP2 : Hid (Bx w24 (w.heap.size + 1 + 1) s2) := XP2.out.turned t (by have := Zw1.out; have := Zw2.out; have := Zw3.out; have := Zw4.out; have := Zw5.out; have := Zw6.out; have := Zw7.out; have := Zw8.out; have := Zw9.out; have := Zw10.out; have := Zw11.out; have := Zwm_g.out; have := Zw12.out; have := Zw13.out; have := Zw14.out; have := Zw15.out; have := Zw16.out; have := Zw17.out; have := Zw18.out; have := Zw19.out; have := Zw20.out; have := Zw21.out; have := Zw22.out; have := Zw23.out; have := LXP2.out; omega)
  replace cXP2 : w24.cell? ⟨(w.heap.size + 1 + 1), 0, none⟩ = some s2 := XP2.out.cell
  replace XS0 : Hid (Bx w24 rF (.slice rra R.length rrc)) := XS0.out.turned t (by have := Zw1.out; have := Zw2.out; have := Zw3.out; have := Zw4.out; have := Zw5.out; have := Zw6.out; have := Zw7.out; have := Zw8.out; have := Zw9.out; have := Zw10.out; have := Zw11.out; have := Zwm_g.out; have := Zw12.out; have := Zw13.out; have := Zw14.out; have := Zw15.out; have := Zw16.out; have := Zw17.out; have := Zw18.out; have := Zw19.out; have := Zw20.out; have := Zw21.out; have := Zw22.out; have := Zw23.out; have := LXS0.out; have := GXS0.out; omega)
  replace cXS0 : w24.cell? ⟨rF, 0, none⟩ = some (.slice rra R.length rrc) := XS0.out.cell
  replace XS1 : Hid (Bx w24 rG (.slice rsa R2.length rsc)) := XS1.out.turned t (by have := Zw1.out; have := Zw2.out; have := Zw3.out; have := Zw4.out; have := Zw5.out; have := Zw6.out; have := Zw7.out; have := Zw8.out; have := Zw9.out; have := Zw10.out; have := Zw11.out; have := Zwm_g.out; have := Zw12.out; have := Zw13.out; have := Zw14.out; have := Zw15.out; have := Zw16.out; have := Zw17.out; have := Zw18.out; have := Zw19.out; have := Zw20.out; have := Zw21.out; have := Zw22.out; have := Zw23.out; have := LXS1.out; have := GXS1.out; omega)
  replace cXS1 : w24.cell? ⟨rG, 0, none⟩ = some (.slice rsa R2.length rsc) := XS1.out.cell
  replace XG0 : Hid (Bx w24 w12.heap.size (.slice g0a R.length g0c)) := XG0.out.turned t (by have := Zw1.out; have := Zw2.out; have := Zw3.out; have := Zw4.out; have := Zw5.out; have := Zw6.out; have := Zw7.out; have := Zw8.out; have := Zw9.out; have := Zw10.out; have := Zw11.out; have := Zwm_g.out; have := Zw12.out; have := Zw13.out; have := Zw14.out; have := Zw15.out; have := Zw16.out; have := Zw17.out; have := Zw18.out; have := Zw19.out; have := Zw20.out; have := Zw21.out; have := Zw22.out; have := Zw23.out; have := LXG0.out; omega)
  replace cXG0 : w24.cell? ⟨w12.heap.size, 0, none⟩ = some (.slice g0a R.length g0c) := XG0.out.cell
  replace XG1 : Hid (Bx w24 (w12.heap.size + 1) (.slice g1a R2.length g1c)) := XG1.out.turned t (by have := Zw1.out; have := Zw2.out; have := Zw3.out; have := Zw4.out; have := Zw5.out; have := Zw6.out; have := Zw7.out; have := Zw8.out; have := Zw9.out; have := Zw10.out; have := Zw11.out; have := Zwm_g.out; have := Zw12.out; have := Zw13.out; have := Zw14.out; have := Zw15.out; have := Zw16.out; have := Zw17.out; have := Zw18.out; have := Zw19.out; have := Zw20.out; have := Zw21.out; have := Zw22.out; have := Zw23.out; have := LXG1.out; omega)
  replace cXG1 : w24.cell? ⟨(w12.heap.size + 1), 0, none⟩ = some (.slice g1a R2.length g1c) := XG1.out.cell
  obtain ⟨_, ho, o⟩ := o
  obtain rfl := agg_inj ho
  have Og0 : Hid (wh.Own w24 w11.heap.size wm_g.heap.size (.slice g0a R.length g0c) (mk (1) R.length)) := o
  clear o t
  go_wp2_with fail
  refine (markW_any ⟨_, rfl, Og1.out⟩ (by omega) (by omega) (by omega)).mono ?_
  rintro e w25 ⟨rfl, o, t⟩
  clear Og1
  have Zw25 : Hid (w24.heap.size ≤ w25.heap.size) := t.size
  replace B0 : Hid (Below w.heap.size w w25) := B0.out.trans (t.below (by have := Zw1.out; have := Zw2.out; have := Zw3.out; have := Zw4.out; have := Zw5.out; have := Zw6.out; have := Zw7.out; have := Zw8.out; have := Zw9.out; have := Zw10.out; have := Zw11.out; have := Zwm_g.out; omega) (by have := Zw1.out; have := Zw2.out; have := Zw3.out; have := Zw4.out; have := Zw5.out; have := Zw6.out; have := Zw7.out; have := Zw8.out; have := Zw9.out; have := Zw10.out; have := Zw11.out; have := Zwm_g.out; have := Zw12.out; have := Zw13.out; have := Zw14.out; have := Zw15.out; have := Zw16.out; have := Zw17.out; have := Zw18.out; have := Zw19.out; have := Zw20.out; have := Zw21.out; have := Zw22.out; have := Zw23.out; have := Zw24.out; omega))
  replace Rf0 : Hid (Rd w25 w.heap.size s0 A0) := Rf0.out.turned t (by have := Zw1.out; have := Zw2.out; have := Zw3.out; have := Zw4.out; have := Zw5.out; have := Zw6.out; have := Zw7.out; have := Zw8.out; have := Zw9.out; have := Zw10.out; have := Zw11.out; have := Zwm_g.out; omega) (by have := Zw1.out; have := Zw2.out; have := Zw3.out; have := Zw4.out; have := Zw5.out; have := Zw6.out; have := Zw7.out; have := Zw8.out; have := Zw9.out; have := Zw10.out; have := Zw11.out; have := Zwm_g.out; have := Zw12.out; have := Zw13.out; have := Zw14.out; have := Zw15.out; have := Zw16.out; have := Zw17.out; have := Zw18.out; have := Zw19.out; have := Zw20.out; have := Zw21.out; have := Zw22.out; have := Zw23.out; have := Zw24.out; omega)
  replace Rf1 : Hid (Rd w25 w.heap.size s1 A1) := Rf1.out.turned t (by have := Zw1.out; have := Zw2.out; have := Zw3.out; have := Zw4.out; have := Zw5.out; have := Zw6.out; have := Zw7.out; have := Zw8.out; have := Zw9.out; have := Zw10.out; have := Zw11.out; have := Zwm_g.out; omega) (by have := Zw1.out; have := Zw2.out; have := Zw3.out; have := Zw4.out; have := Zw5.out; have := Zw6.out; have := Zw7.out; have := Zw8.out; have := Zw9.out; have := Zw10.out; have := Zw11.out; have := Zwm_g.out; have := Zw12.out; have := Zw13.out; have := Zw14.out; have := Zw15.out; have := Zw16.out; have := Zw17.out; have := Zw18.out; have := Zw19.out; have := Zw20.out; have := Zw21.out; have := Zw22.out; have := Zw23.out; have := Zw24.out; omega)
  replace Rf2 : Hid (Rd w25 w.heap.size s2 A2) := Rf2.out.turned t (by have := Zw1.out; have := Zw2.out; have := Zw3.out; have := Zw4.out; have := Zw5.out; have := Zw6.out; have := Zw7.out; have := Zw8.out; have := Zw9.out; have := Zw10.out; have := Zw11.out; have := Zwm_g.out; omega) (by have := Zw1.out; have := Zw2.out; have := Zw3.out; have := Zw4.out; have := Zw5.out; have := Zw6.out; have := Zw7.out; have := Zw8.out; have := Zw9.out; have := Zw10.out; have := Zw11.out; have := Zwm_g.out; have := Zw12.out; have := Zw13.out; have := Zw14.out; have := Zw15.out; have := Zw16.out; have := Zw17.out; have := Zw18.out; have := Zw19.out; have := Zw20.out; have := Zw21.out; have := Zw22.out; have := Zw23.out; have := Zw24.out; omega)
  replace Or0 : Hid (Rd w25 w5.heap.size (.slice rra R.length rrc) R) := Or0.out.turned t (by have := Zw6.out; have := Zw7.out; have := Zw8.out; have := Zw9.out; have := Zw10.out; have := Zw11.out; have := Zwm_g.out; omega) (by have := Zw6.out; have := Zw7.out; have := Zw8.out; have := Zw9.out; have := Zw10.out; have := Zw11.out; have := Zwm_g.out; have := Zw12.out; have := Zw13.out; have := Zw14.out; have := Zw15.out; have := Zw16.out; have := Zw17.out; have := Zw18.out; have := Zw19.out; have := Zw20.out; have := Zw21.out; have := Zw22.out; have := Zw23.out; have := Zw24.out; omega)
  replace Or1 : Hid (Rd w25 w5.heap.size (.slice rsa R2.length rsc) R2) := Or1.out.turned t (by have := Zw6.out; have := Zw7.out; have := Zw8.out; have := Zw9.out; have := Zw10.out; have := Zw11.out; have := Zwm_g.out; omega) (by have := Zw6.out; have := Zw7.out; have := Zw8.out; have := Zw9.out; have := Zw10.out; have := Zw11.out; have := Zwm_g.out; have := Zw12.out; have := Zw13.out; have := Zw14.out; have := Zw15.out; have := Zw16.out; have := Zw17.out; have := Zw18.out; have := Zw19.out; have := Zw20.out; have := Zw21.out; have := Zw22.out; have := Zw23.out; have := Zw24.out; omega)
  replace Og0 : Hid (wh.Own w25 w11.heap.size wm_g.heap.size (.slice g0a R.length g0c) (mk (1) R.length)) := Og0.out.turned t (.inl (Nat.le_refl _))
  replace XP0 : Hid (Bx w25 w.heap.size s0) := XP0.out.turned t (by have := Zw1.out; have := Zw2.out; have := Zw3.out; have := Zw4.out; have := Zw5.out; have := Zw6.out; have := Zw7.out; have := Zw8.out; have := Zw9.out; have := Zw10.out; have := Zw11.out; have := Zwm_g.out; have := Zw12.out; have := Zw13.out; have := Zw14.out; have := Zw15.out; have := Zw16.out; have := Zw17.out; have := Zw18.out; have := Zw19.out; have := Zw20.out; have := Zw21.out; have := Zw22.out; have := Zw23.out; have := Zw24.out; have := LXP0.out; omega)
  replace cXP0 : w25.cell? ⟨w.heap.size, 0, none⟩ = some s0 := XP0.out.cell
  replace XP1 : Hid (Bx w25 (w.heap.size + 1) s1) := XP1.out.turned t (by have := Zw1.out; have := Zw2.out; have := Zw3.out; have := Zw4.out; have := Zw5.out; have := Zw6.out; have := Zw7.out; have := Zw8.out; have := Zw9.out; have := Zw10.out; have := Zw11.out; have := Zwm_g.out; have := Zw12.out; have := Zw13.out; have := Zw14.out; have := Zw15.out; have := Zw16.out; have := Zw17.out; have := Zw18.out; have := Zw19.out; have := Zw20.out; have := Zw21.out; have := Zw22.out; have := Zw23.out; have := Zw24.out; have := LXP1.out; omega)
  replace cXP1 : w25.cell? ⟨(w.heap.size + 1), 0, none⟩ = some s1 := XP1.out.cell
  replace XP2 : Hid (Bx w25 (w.heap.size + 1 + 1) s2) := XP2.out.turned t (by have := Zw1.out; have := Zw2.out; have := Zw3.out; have := Zw4.out; have := Zw5.out; have := Zw6.out; have := Zw7.out; have := Zw8.out; have := Zw9.out; have := Zw10.out; have := Zw11.out; have := Zwm_g.out; have := Zw12.out; have := Zw13.out; have := Zw14.out; have := Zw15.out; have := Zw16.out; have := Zw17.out; have := Zw18.out; have := Zw19.out; have := Zw20.out; have := Zw21.out; have := Zw22.out; have := Zw23.out; have := Zw24.out; have := LXP2.out; omega)
  replace cXP2 : w25.cell? ⟨(w.heap.size + 1 + 1), 0, none⟩ = some s2 := XP2.out.cell
  replace XS0 : Hid (Bx w25 rF (.slice rra R.length rrc)) := XS0.out.turned t (by have := Zw1.out; have := Zw2.out; have := Zw3.out; have := Zw4.out; have := Zw5.out; have := Zw6.out; have := Zw7.out; have := Zw8.out; have := Zw9.out; have := Zw10.out; have := Zw11.out; have := Zwm_g.out; have := Zw12.out; have := Zw13.out; have := Zw14.out; have := Zw15.out; have := Zw16.out; have := Zw17.out; have := Zw18.out; have := Zw19.out; have := Zw20.out; have := Zw21.out; have := Zw22.out; have := Zw23.out; have := Zw24.out; have := LXS0.out; have := GXS0.out; omega)
  replace cXS0 : w25.cell? ⟨rF, 0, none⟩ = some (.slice rra R.length rrc) := XS0.out.cell
  replace XS1 : Hid (Bx w25 rG (.slice rsa R2.length rsc)) := XS1.out.turned t (by have := Zw1.out; have := Zw2.out; have := Zw3.out; have := Zw4.out; have := Zw5.out; have := Zw6.out; have := Zw7.out; have := Zw8.out; have := Zw9.out; have := Zw10.out; have := Zw11.out; have := Zwm_g.out; have := Zw12.out; have := Zw13.out; have := Zw14.out; have := Zw15.out; have := Zw16.out; have := Zw17.out; have := Zw18.out; have := Zw19.out; have := Zw20.out; have := Zw21.out; have := Zw22.out; have := Zw23.out; have := Zw24.out; have := LXS1.out; have := GXS1.out; omega)
  replace cXS1 : w25.cell? ⟨rG, 0, none⟩ = some (.slice rsa R2.length rsc) := XS1.out.cell
  replace XG0 : Hid (Bx w25 w12.heap.size (.slice g0a R.length g0c)) := XG0.out.turned t (by have := Zw1.out; have := Zw2.out; have := Zw3.out; have := Zw4.out; have := Zw5.out; have := Zw6.out; have := Zw7.out; have := Zw8.out; have := Zw9.out; have := Zw10.out; have := Zw11.out; have := Zwm_g.out; have := Zw12.out; have := Zw13.out; have := Zw14.out; have := Zw15.out; have := Zw16.out; have := Zw17.out; have := Zw18.out; have := Zw19.out; have := Zw20.out; have := Zw21.out; have := Zw22.out; have := Zw23.out; have := Zw24.out; have := LXG0.out; omega)
  replace cXG0 : w25.cell? ⟨w12.heap.size, 0, none⟩ = some (.slice g0a R.length g0c) := XG0.out.cell
  replace XG1 : Hid (Bx w25 (w12.heap.size + 1) (.slice g1a R2.length g1c)) := XG1.out.turned t (by have := Zw1.out; have := Zw2.out; have := Zw3.out; have := Zw4.out; have := Zw5.out; have := Zw6.out; have := Zw7.out; have := Zw8.out; have := Zw9.out; have := Zw10.out; have := Zw11.out; have := Zwm_g.out; have := Zw12.out; have := Zw13.out; have := Zw14.out; have := Zw15.out; have := Zw16.out; have := Zw17.out; have := Zw18.out; have := Zw19.out; have := Zw20.out; have := Zw21.out; have := Zw22.out; have := Zw23.out; have := Zw24.out; have := LXG1.out; omega)
  replace cXG1 : w25.cell? ⟨(w12.heap.size + 1), 0, none⟩ = some (.slice g1a R2.length g1c) := XG1.out.cell
  obtain ⟨_, ho, o⟩ := o
  obtain rfl := agg_inj ho
  have Og1 : Hid (wh.Own w25 wm_g.heap.size w12.heap.size (.slice g1a R2.length g1c) (mk (1 + (R.length : Int)) R2.length)) := o
  clear o t
  go_wp2_with fail
  refine (heldW_any ⟨_, rfl, (Og0.out.rd.ls (by have := Zw12.out; have := Zw13.out; have := Zw14.out; have := Zw15.out; have := Zw16.out; have := Zw17.out; have := Zw18.out; have := Zw19.out; have := Zw20.out; have := Zw21.out; have := Zw22.out; have := Zw23.out; have := Zw24.out; have := Zw25.out; omega))⟩ (by omega) (by omega) (by omega)).mono ?_
  rintro e w26 ⟨rfl, b⟩
  have Zw26 : Hid (w25.heap.size ≤ w26.heap.size) := b.size
  replace B0 : Hid (Below w.heap.size w w26) := B0.out.trans (b.mono (by have := Zw1.out; have := Zw2.out; have := Zw3.out; have := Zw4.out; have := Zw5.out; have := Zw6.out; have := Zw7.out; have := Zw8.out; have := Zw9.out; have := Zw10.out; have := Zw11.out; have := Zwm_g.out; have := Zw12.out; have := Zw13.out; have := Zw14.out; have := Zw15.out; have := Zw16.out; have := Zw17.out; have := Zw18.out; have := Zw19.out; have := Zw20.out; have := Zw21.out; have := Zw22.out; have := Zw23.out; have := Zw24.out; have := Zw25.out; omega))
  replace Rf0 : Hid (Rd w26 w.heap.size s0 A0) := Rf0.out.below b (by have := Zw1.out; have := Zw2.out; have := Zw3.out; have := Zw4.out; have := Zw5.out; have := Zw6.out; have := Zw7.out; have := Zw8.out; have := Zw9.out; have := Zw10.out; have := Zw11.out; have := Zwm_g.out; have := Zw12.out; have := Zw13.out; have := Zw14.out; have := Zw15.out; have := Zw16.out; have := Zw17.out; have := Zw18.out; have := Zw19.out; have := Zw20.out; have := Zw21.out; have := Zw22.out; have := Zw23.out; have := Zw24.out; have := Zw25.out; omega)
  replace Rf1 : Hid (Rd w26 w.heap.size s1 A1) := Rf1.out.below b (by have := Zw1.out; have := Zw2.out; have := Zw3.out; have := Zw4.out; have := Zw5.out; have := Zw6.out; have := Zw7.out; have := Zw8.out; have := Zw9.out; have := Zw10.out; have := Zw11.out; have := Zwm_g.out; have := Zw12.out; have := Zw13.out; have := Zw14.out; have := Zw15.out; have := Zw16.out; have := Zw17.out; have := Zw18.out; have := Zw19.out; have := Zw20.out; have := Zw21.out; have := Zw22.out; have := Zw23.out; have := Zw24.out; have := Zw25.out; omega)
  replace Rf2 : Hid (Rd w26 w.heap.size s2 A2) := Rf2.out.below b (by have := Zw1.out; have := Zw2.out; have := Zw3.out; have := Zw4.out; have := Zw5.out; have := Zw6.out; have := Zw7.out; have := Zw8.out; have := Zw9.out; have := Zw10.out; have := Zw11.out; have := Zwm_g.out; have := Zw12.out; have := Zw13.out; have := Zw14.out; have := Zw15.out; have := Zw16.out; have := Zw17.out; have := Zw18.out; have := Zw19.out; have := Zw20.out; have := Zw21.out; have := Zw22.out; have := Zw23.out; have := Zw24.out; have := Zw25.out; omega)
  replace Or0 : Hid (Rd w26 w5.heap.size (.slice rra R.length rrc) R) := Or0.out.below b (by have := Zw6.out; have := Zw7.out; have := Zw8.out; have := Zw9.out; have := Zw10.out; have := Zw11.out; have := Zwm_g.out; have := Zw12.out; have := Zw13.out; have := Zw14.out; have := Zw15.out; have := Zw16.out; have := Zw17.out; have := Zw18.out; have := Zw19.out; have := Zw20.out; have := Zw21.out; have := Zw22.out; have := Zw23.out; have := Zw24.out; have := Zw25.out; omega)
  replace Or1 : Hid (Rd w26 w5.heap.size (.slice rsa R2.length rsc) R2) := Or1.out.below b (by have := Zw6.out; have := Zw7.out; have := Zw8.out; have := Zw9.out; have := Zw10.out; have := Zw11.out; have := Zwm_g.out; have := Zw12.out; have := Zw13.out; have := Zw14.out; have := Zw15.out; have := Zw16.out; have := Zw17.out; have := Zw18.out; have := Zw19.out; have := Zw20.out; have := Zw21.out; have := Zw22.out; have := Zw23.out; have := Zw24.out; have := Zw25.out; omega)
  replace Og0 : Hid (wh.Own w26 w11.heap.size wm_g.heap.size (.slice g0a R.length g0c) (mk (1) R.length)) := Og0.out.below b (by have := Zw12.out; have := Zw13.out; have := Zw14.out; have := Zw15.out; have := Zw16.out; have := Zw17.out; have := Zw18.out; have := Zw19.out; have := Zw20.out; have := Zw21.out; have := Zw22.out; have := Zw23.out; have := Zw24.out; have := Zw25.out; omega)
  replace Og1 : Hid (wh.Own w26 wm_g.heap.size w12.heap.size (.slice g1a R2.length g1c) (mk (1 + (R.length : Int)) R2.length)) := Og1.out.below b (by have := Zw13.out; have := Zw14.out; have := Zw15.out; have := Zw16.out; have := Zw17.out; have := Zw18.out; have := Zw19.out; have := Zw20.out; have := Zw21.out; have := Zw22.out; have := Zw23.out; have := Zw24.out; have := Zw25.out; omega)
  replace XP0 : Hid (Bx w26 w.heap.size s0) := XP0.out.kept b
  replace cXP0 : w26.cell? ⟨w.heap.size, 0, none⟩ = some s0 := XP0.out.cell
  replace XP1 : Hid (Bx w26 (w.heap.size + 1) s1) := XP1.out.kept b
  replace cXP1 : w26.cell? ⟨(w.heap.size + 1), 0, none⟩ = some s1 := XP1.out.cell
  replace XP2 : Hid (Bx w26 (w.heap.size + 1 + 1) s2) := XP2.out.kept b
  replace cXP2 : w26.cell? ⟨(w.heap.size + 1 + 1), 0, none⟩ = some s2 := XP2.out.cell
  replace XS0 : Hid (Bx w26 rF (.slice rra R.length rrc)) := XS0.out.kept b
  replace cXS0 : w26.cell? ⟨rF, 0, none⟩ = some (.slice rra R.length rrc) := XS0.out.cell
  replace XS1 : Hid (Bx w26 rG (.slice rsa R2.length rsc)) := XS1.out.kept b
  replace cXS1 : w26.cell? ⟨rG, 0, none⟩ = some (.slice rsa R2.length rsc) := XS1.out.cell
  replace XG0 : Hid (Bx w26 w12.heap.size (.slice g0a R.length g0c)) := XG0.out.kept b
  replace cXG0 : w26.cell? ⟨w12.heap.size, 0, none⟩ = some (.slice g0a R.length g0c) := XG0.out.cell
  replace XG1 : Hid (Bx w26 (w12.heap.size + 1) (.slice g1a R2.length g1c)) := XG1.out.kept b
  replace cXG1 : w26.cell? ⟨(w12.heap.size + 1), 0, none⟩ = some (.slice g1a R2.length g1c) := XG1.out.cell
  clear b
  go_wp2_with fail
  refine (heldW_any ⟨_, rfl, (Og1.out.rd.ls (by have := Zw13.out; have := Zw14.out; have := Zw15.out; have := Zw16.out; have := Zw17.out; have := Zw18.out; have := Zw19.out; have := Zw20.out; have := Zw21.out; have := Zw22.out; have := Zw23.out; have := Zw24.out; have := Zw25.out; have := Zw26.out; omega))⟩ (by omega) (by omega) (by omega)).mono ?_
  rintro e w27 ⟨rfl, b⟩
  have Zw27 : Hid (w26.heap.size ≤ w27.heap.size) := b.size
  replace B0 : Hid (Below w.heap.size w w27) := B0.out.trans (b.mono (by have := Zw1.out; have := Zw2.out; have := Zw3.out; have := Zw4.out; have := Zw5.out; have := Zw6.out; have := Zw7.out; have := Zw8.out; have := Zw9.out; have := Zw10.out; have := Zw11.out; have := Zwm_g.out; have := Zw12.out; have := Zw13.out; have := Zw14.out; have := Zw15.out; have := Zw16.out; have := Zw17.out; have := Zw18.out; have := Zw19.out; have := Zw20.out; have := Zw21.out; have := Zw22.out; have := Zw23.out; have := Zw24.out; have := Zw25.out; have := Zw26.out; omega))
  replace Rf0 : Hid (Rd w27 w.heap.size s0 A0) := Rf0.out.below b (by have := Zw1.out; have := Zw2.out; have := Zw3.out; have := Zw4.out; have := Zw5.out; have := Zw6.out; have := Zw7.out; have := Zw8.out; have := Zw9.out; have := Zw10.out; have := Zw11.out; have := Zwm_g.out; have := Zw12.out; have := Zw13.out; have := Zw14.out; have := Zw15.out; have := Zw16.out; have := Zw17.out; have := Zw18.out; have := Zw19.out; have := Zw20.out; have := Zw21.out; have := Zw22.out; have := Zw23.out; have := Zw24.out; have := Zw25.out; have := Zw26.out; omega)
  replace Rf1 : Hid (Rd w27 w.heap.size s1 A1) := Rf1.out.below b (by have := Zw1.out; have := Zw2.out; have := Zw3.out; have := Zw4.out; have := Zw5.out; have := Zw6.out; have := Zw7.out; have := Zw8.out; have := Zw9.out; have := Zw10.out; have := Zw11.out; have := Zwm_g.out; have := Zw12.out; have := Zw13.out; have := Zw14.out; have := Zw15.out; have := Zw16.out; have := Zw17.out; have := Zw18.out; have := Zw19.out; have := Zw20.out; have := Zw21.out; have := Zw22.out; have := Zw23.out; have := Zw24.out; have := Zw25.out; have := Zw26.out; omega)
  replace Rf2 : Hid (Rd w27 w.heap.size s2 A2) := Rf2.out.below b (by have := Zw1.out; have := Zw2.out; have := Zw3.out; have := Zw4.out; have := Zw5.out; have := Zw6.out; have := Zw7.out; have := Zw8.out; have := Zw9.out; have := Zw10.out; have := Zw11.out; have := Zwm_g.out; have := Zw12.out; have := Zw13.out; have := Zw14.out; have := Zw15.out; have := Zw16.out; have := Zw17.out; have := Zw18.out; have := Zw19.out; have := Zw20.out; have := Zw21.out; have := Zw22.out; have := Zw23.out; have := Zw24.out; have := Zw25.out; have := Zw26.out; omega)
  replace Or0 : Hid (Rd w27 w5.heap.size (.slice rra R.length rrc) R) := Or0.out.below b (by have := Zw6.out; have := Zw7.out; have := Zw8.out; have := Zw9.out; have := Zw10.out; have := Zw11.out; have := Zwm_g.out; have := Zw12.out; have := Zw13.out; have := Zw14.out; have := Zw15.out; have := Zw16.out; have := Zw17.out; have := Zw18.out; have := Zw19.out; have := Zw20.out; have := Zw21.out; have := Zw22.out; have := Zw23.out; have := Zw24.out; have := Zw25.out; have := Zw26.out; omega)
  replace Or1 : Hid (Rd w27 w5.heap.size (.slice rsa R2.length rsc) R2) := Or1.out.below b (by have := Zw6.out; have := Zw7.out; have := Zw8.out; have := Zw9.out; have := Zw10.out; have := Zw11.out; have := Zwm_g.out; have := Zw12.out; have := Zw13.out; have := Zw14.out; have := Zw15.out; have := Zw16.out; have := Zw17.out; have := Zw18.out; have := Zw19.out; have := Zw20.out; have := Zw21.out; have := Zw22.out; have := Zw23.out; have := Zw24.out; have := Zw25.out; have := Zw26.out; omega)
  replace Og0 : Hid (wh.Own w27 w11.heap.size wm_g.heap.size (.slice g0a R.length g0c) (mk (1) R.length)) := Og0.out.below b (by have := Zw12.out; have := Zw13.out; have := Zw14.out; have := Zw15.out; have := Zw16.out; have := Zw17.out; have := Zw18.out; have := Zw19.out; have := Zw20.out; have := Zw21.out; have := Zw22.out; have := Zw23.out; have := Zw24.out; have := Zw25.out; have := Zw26.out; omega)
  replace Og1 : Hid (wh.Own w27 wm_g.heap.size w12.heap.size (.slice g1a R2.length g1c) (mk (1 + (R.length : Int)) R2.length)) := Og1.out.below b (by have := Zw13.out; have := Zw14.out; have := Zw15.out; have := Zw16.out; have := Zw17.out; have := Zw18.out; have := Zw19.out; have := Zw20.out; have := Zw21.out; have := Zw22.out; have := Zw23.out; have := Zw24.out; have := Zw25.out; have := Zw26.out; omega)
  replace XP0 : Hid (Bx w27 w.heap.size s0) := XP0.out.kept b
  replace cXP0 : w27.cell? ⟨w.heap.size, 0, none⟩ = some s0 := XP0.out.cell
  replace XP1 : Hid (Bx w27 (w.heap.size + 1) s1) := XP1.out.kept b
  replace cXP1 : w27.cell? ⟨(w.heap.size + 1), 0, none⟩ = some s1 := XP1.out.cell
  replace XP2 : Hid (Bx w27 (w.heap.size + 1 + 1) s2) := XP2.out.kept b
  replace cXP2 : w27.cell? ⟨(w.heap.size + 1 + 1), 0, none⟩ = some s2 := XP2.out.cell
  replace XS0 : Hid (Bx w27 rF (.slice rra R.length rrc)) := XS0.out.kept b
  replace cXS0 : w27.cell? ⟨rF, 0, none⟩ = some (.slice rra R.length rrc) := XS0.out.cell
  replace XS1 : Hid (Bx w27 rG (.slice rsa R2.length rsc)) := XS1.out.kept b
  replace cXS1 : w27.cell? ⟨rG, 0, none⟩ = some (.slice rsa R2.length rsc) := XS1.out.cell
  replace XG0 : Hid (Bx w27 w12.heap.size (.slice g0a R.length g0c)) := XG0.out.kept b
  replace cXG0 : w27.cell? ⟨w12.heap.size, 0, none⟩ = some (.slice g0a R.length g0c) := XG0.out.cell
  replace XG1 : Hid (Bx w27 (w12.heap.size + 1) (.slice g1a R2.length g1c)) := XG1.out.kept b
  replace cXG1 : w27.cell? ⟨(w12.heap.size + 1), 0, none⟩ = some (.slice g1a R2.length g1c) := XG1.out.cell
  clear b
  go_wp2_with fail
  go_upto_region 42 with fail
  go_cut [22, 23, 24] (fun sx sy sz wx => ∃ (bF bG : Nat) (ra : Option Addr) (rc : Nat) (sa : Option Addr) (sc : Nat), sx = .pointer (some ⟨bF, 0, none⟩) ∧ sy = .pointer (some ⟨bG, 0, none⟩) ∧ sz = .bool ok ∧ Hid (Fin2 w27 wx bF (.slice ra R.length rc) R bG (.slice sa R2.length sc) R2))
  case first =>
    as_aux_lemma =>
      have zzw1 := Zw1.out
      have zzw2 := Zw2.out
      have zzw3 := Zw3.out
      have zzw4 := Zw4.out
      have zzw5 := Zw5.out
      have zzw6 := Zw6.out
      have zzw7 := Zw7.out
      have zzw8 := Zw8.out
      have zzw9 := Zw9.out
      have zzw10 := Zw10.out
      have zzw11 := Zw11.out
      have zzwm_g := Zwm_g.out
      have zzw12 := Zw12.out
      have zzw13 := Zw13.out
      have zzw14 := Zw14.out
      have zzw15 := Zw15.out
      have zzw16 := Zw16.out
      have zzw17 := Zw17.out
      have zzw18 := Zw18.out
      have zzw19 := Zw19.out
      have zzw20 := Zw20.out
      have zzw21 := Zw21.out
      have zzw22 := Zw22.out
      have zzw23 := Zw23.out
      have zzw24 := Zw24.out
      have zzw25 := Zw25.out
      have zzw26 := Zw26.out
      have zzw27 := Zw27.out
      refine inv.wp_region_inv (by kernel_rfl) [(0, 145), (1, 146), (2, 147), (3, 148), (4, 149), (5, 150), (6, 151), (7, 152), (8, 144), (9, 153), (10, 154), (11, 155), (12, 22), (13, 23), (16, 24)] (by decide) (lpr.F w27 s0 s1 s2 A0 A1 A2 a3 R R2 ok) (by kernel_rfl) (lpr.F.start _ _ _ _ _ _ _ _ _ _ _) ?hs ?he
      case he =>
        rintro l x w9 hl ⟨bA, bB, lo, hi, s, sb, g⟩
        have t (i : Nat) (h : i < 17) : l i = true := hl i h
        have hF : Hid (Fin2 w27 w9 bA s R bB sb R2) := g.fin (t 7 (by decide)) (t 12 (by decide)) (t 13 (by decide)) (t 14 (by decide)) (t 15 (by decide))
        obtain ⟨_, _, _, _, h5, h6⟩ := g.f7 (t 7 (by decide))
        obtain ⟨ra, rc, rfl⟩ := h5.shape
        obtain ⟨sa, sc, rfl⟩ := h6.shape
        simp only [inv.puts, List.foldl, Act.put, List.setIfInBounds_toArray, List.set_cons_zero, List.set_cons_succ]
        rw [(g.f12 (t 12 (by decide))).1, (g.f13 (t 13 (by decide))).1, g.f16 (t 16 (by decide))]
        clear hl g t h5 h6
        go_wp2_with fail
        go_meet
        exact ⟨bA, bB, ra, rc, sa, sc, rfl, rfl, rfl, hF⟩
      case hs =>
        refine inv.Each.cons (m := 1) (by decide) ?s0 ?_
        case s0 =>
          rintro l x w8 hd hl hw ⟨bA, bB, lo, hi, s, sb, g⟩ K hK
          simp only [inv.puts, List.foldl, Act.put, List.setIfInBounds_toArray, List.set_cons_zero, List.set_cons_succ]
          have c0 : w8.cell? ⟨w.heap.size, 0, none⟩ = some s0 := (XP0.out.kept g.bw).cell
          have hF9 := (g.step0).f
          clear g hd hw
          go_simp
          have h9 := hK.out _ _ hF9
          simp only [inv.puts, List.foldl, Act.put, List.setIfInBounds_toArray, List.set_cons_zero, List.set_cons_succ, inv.updv, Nat.reduceEqDiff, ↓reduceIte] at h9
          exact h9
        refine inv.Each.cons (m := 2) (by decide) ?s1 ?_
        case s1 =>
          rintro l x w8 hd hl hw ⟨bA, bB, lo, hi, s, sb, g⟩ K hK
          have d0 : l 0 = true := hw ⟨0, .data⟩ (by simp) rfl
          simp only [inv.puts, List.foldl, Act.put, List.setIfInBounds_toArray, List.set_cons_zero, List.set_cons_succ]
          have e9 := g.f0 d0
          rw [e9]
          go_simp
          go_at_call_of 8 (Value.agg #[s0])
          refine (toW_any ⟨_, rfl, (((Rf0.out.ls (by have := Zw1.out; have := Zw2.out; have := Zw3.out; have := Zw4.out; have := Zw5.out; have := Zw6.out; have := Zw7.out; have := Zw8.out; have := Zw9.out; have := Zw10.out; have := Zw11.out; have := Zwm_g.out; have := Zw12.out; have := Zw13.out; have := Zw14.out; have := Zw15.out; have := Zw16.out; have := Zw17.out; have := Zw18.out; have := Zw19.out; have := Zw20.out; have := Zw21.out; have := Zw22.out; have := Zw23.out; have := Zw24.out; have := Zw25.out; have := Zw26.out; have := Zw27.out; omega)).below g.bw))⟩ (by omega)).mono ?_
          rintro e w9 ⟨_, rfl, ⟨t0, rfl, ot⟩, b⟩
          have hF9 := (((g.world b).step1 ⟨_, rfl, ot.ls (Nat.le_refl _)⟩)).f
          clear g hd hw b ot
          have h9 := hK.out _ _ hF9
          simp only [inv.puts, List.foldl, Act.put, List.setIfInBounds_toArray, List.set_cons_zero, List.set_cons_succ, inv.updv, Nat.reduceEqDiff, ↓reduceIte] at h9
          rw [e9] at h9
          exact h9
        refine inv.Each.cons (m := 3) (by decide) ?s2 ?_
        case s2 =>
          rintro l x w8 hd hl hw ⟨bA, bB, lo, hi, s, sb, g⟩ K hK
          simp only [inv.puts, List.foldl, Act.put, List.setIfInBounds_toArray, List.set_cons_zero, List.set_cons_succ]
          have c0 : w8.cell? ⟨(w.heap.size + 1), 0, none⟩ = some s1 := (XP1.out.kept g.bw).cell
          have hF9 := (g.step2).f
          clear g hd hw
          go_simp
          have h9 := hK.out _ _ hF9
          simp only [inv.puts, List.foldl, Act.put, List.setIfInBounds_toArray, List.set_cons_zero, List.set_cons_succ, inv.updv, Nat.reduceEqDiff, ↓reduceIte] at h9
          exact h9
        refine inv.Each.cons (m := 4) (by decide) ?s3 ?_
        case s3 =>
          rintro l x w8 hd hl hw ⟨bA, bB, lo, hi, s, sb, g⟩ K hK
          have d2 : l 2 = true := hw ⟨2, .data⟩ (by simp) rfl
          simp only [inv.puts, List.foldl, Act.put, List.setIfInBounds_toArray, List.set_cons_zero, List.set_cons_succ]
          have e9 := g.f2 d2
          rw [e9]
          go_simp
          go_at_call_of 8 (Value.agg #[s1])
          refine (toW_any ⟨_, rfl, (((Rf1.out.ls (by have := Zw1.out; have := Zw2.out; have := Zw3.out; have := Zw4.out; have := Zw5.out; have := Zw6.out; have := Zw7.out; have := Zw8.out; have := Zw9.out; have := Zw10.out; have := Zw11.out; have := Zwm_g.out; have := Zw12.out; have := Zw13.out; have := Zw14.out; have := Zw15.out; have := Zw16.out; have := Zw17.out; have := Zw18.out; have := Zw19.out; have := Zw20.out; have := Zw21.out; have := Zw22.out; have := Zw23.out; have := Zw24.out; have := Zw25.out; have := Zw26.out; have := Zw27.out; omega)).below g.bw))⟩ (by omega)).mono ?_
          rintro e w9 ⟨_, rfl, ⟨t0, rfl, ot⟩, b⟩
          have hF9 := (((g.world b).step3 ⟨_, rfl, ot.ls (Nat.le_refl _)⟩)).f
          clear g hd hw b ot
          have h9 := hK.out _ _ hF9
          simp only [inv.puts, List.foldl, Act.put, List.setIfInBounds_toArray, List.set_cons_zero, List.set_cons_succ, inv.updv, Nat.reduceEqDiff, ↓reduceIte] at h9
          rw [e9] at h9
          exact h9
        refine inv.Each.cons (m := 5) (by decide) ?s4 ?_
        case s4 =>
          rintro l x w8 hd hl hw ⟨bA, bB, lo, hi, s, sb, g⟩ K hK
          simp only [inv.puts, List.foldl, Act.put, List.setIfInBounds_toArray, List.set_cons_zero, List.set_cons_succ]
          have c0 : w8.cell? ⟨(w.heap.size + 1 + 1), 0, none⟩ = some s2 := (XP2.out.kept g.bw).cell
          have hF9 := (g.step4).f
          clear g hd hw
          go_simp
          have h9 := hK.out _ _ hF9
          simp only [inv.puts, List.foldl, Act.put, List.setIfInBounds_toArray, List.set_cons_zero, List.set_cons_succ, inv.updv, Nat.reduceEqDiff, ↓reduceIte] at h9
          exact h9
        refine inv.Each.cons (m := 6) (by decide) ?s5 ?_
        case s5 =>
          rintro l x w8 hd hl hw ⟨bA, bB, lo, hi, s, sb, g⟩ K hK
          have d4 : l 4 = true := hw ⟨4, .data⟩ (by simp) rfl
          simp only [inv.puts, List.foldl, Act.put, List.setIfInBounds_toArray, List.set_cons_zero, List.set_cons_succ]
          have e9 := g.f4 d4
          rw [e9]
          go_simp
          go_at_call_of 8 (Value.agg #[s2])
          refine (toW_any ⟨_, rfl, (((Rf2.out.ls (by have := Zw1.out; have := Zw2.out; have := Zw3.out; have := Zw4.out; have := Zw5.out; have := Zw6.out; have := Zw7.out; have := Zw8.out; have := Zw9.out; have := Zw10.out; have := Zw11.out; have := Zwm_g.out; have := Zw12.out; have := Zw13.out; have := Zw14.out; have := Zw15.out; have := Zw16.out; have := Zw17.out; have := Zw18.out; have := Zw19.out; have := Zw20.out; have := Zw21.out; have := Zw22.out; have := Zw23.out; have := Zw24.out; have := Zw25.out; have := Zw26.out; have := Zw27.out; omega)).below g.bw))⟩ (by omega)).mono ?_
          rintro e w9 ⟨_, rfl, ⟨t0, rfl, ot⟩, b⟩
          have hF9 := (((g.world b).step5 ⟨_, rfl, ot.ls (Nat.le_refl _)⟩)).f
          clear g hd hw b ot
          have h9 := hK.out _ _ hF9
          simp only [inv.puts, List.foldl, Act.put, List.setIfInBounds_toArray, List.set_cons_zero, List.set_cons_succ, inv.updv, Nat.reduceEqDiff, ↓reduceIte] at h9
          rw [e9] at h9
          exact h9
        refine inv.Each.cons (m := 7) (by decide) ?s6 ?_
        case s6 =>
          rintro l x w8 hd hl hw ⟨bA, bB, lo, hi, s, sb, g⟩ K hK
          simp only [inv.puts, List.foldl, Act.put, List.setIfInBounds_toArray, List.set_cons_zero, List.set_cons_succ]
          have hF9 := (g.step6).f
          clear g hd hw
          go_simp
          have h9 := hK.out _ _ hF9
          simp only [inv.puts, List.foldl, Act.put, List.setIfInBounds_toArray, List.set_cons_zero, List.set_cons_succ, inv.updv, Nat.reduceEqDiff, ↓reduceIte] at h9
          exact h9
        refine inv.Each.cons (m := 8) (by decide) ?s7 ?_
        case s7 =>
          rintro l x w8 hd hl hw ⟨bA, bB, lo, hi, s, sb, g⟩ K hK
          have d1 : l 1 = true := hw ⟨1, .data⟩ (by simp) rfl
          have d3 : l 3 = true := hw ⟨3, .data⟩ (by simp) rfl
          have d5 : l 5 = true := hw ⟨5, .data⟩ (by simp) rfl
          have d6 : l 6 = true := hw ⟨6, .data⟩ (by simp) rfl
          simp only [inv.puts, List.foldl, Act.put, List.setIfInBounds_toArray, List.set_cons_zero, List.set_cons_succ]
          have n8 : l 8 = false := hd.no (j := 8) (e := ⟨7, .data⟩) rfl (by simp) rfl hl
          have n9 : l 9 = false := hd.no (j := 9) (e := ⟨8, .data⟩) rfl (by simp) rfl n8
          have n10 : l 10 = false := hd.no (j := 10) (e := ⟨8, .data⟩) rfl (by simp) rfl n8
          have n11 : l 11 = false := hd.no (j := 11) (e := ⟨8, .data⟩) rfl (by simp) rfl n8
          have n14 : l 14 = false := hd.no (j := 14) (e := ⟨9, .data⟩) rfl (by simp) rfl n9
          have n15 : l 15 = false := hd.no (j := 15) (e := ⟨10, .data⟩) rfl (by simp) rfl n10
          obtain ⟨_, u0, k0⟩ := g.f1 d1 hl; obtain ⟨_, u1, k1⟩ := g.f3 d3 hl; obtain ⟨_, u2, k2⟩ := g.f5 d5 hl
          have u6 := g.f6 d6
          rw [u0, u1, u2, u6]
          go_simp
          go_at_call 9
          refine (HJ.out w8 _ _ _ k0 k1 k2).mono ?_
          rintro e w9 ⟨_, _, rfl, ⟨t0, rfl, o0⟩, ⟨t1, rfl, o1⟩, b⟩
          have hF9 := ((g.world b).step7 n8 n9 n10 n11 n14 n15 g.bw.size b.size (Nat.le_refl _) o0 o1 (fun h => (g.f12 h).2.2.1.lt) (fun h => (g.f13 h).2.2.1.lt)).f
          clear g hd hw b o0 o1 k0 k1 k2
          have h9 := hK.out _ _ hF9
          simp only [inv.puts, List.foldl, Act.put, List.setIfInBounds_toArray, List.set_cons_zero, List.set_cons_succ, inv.updv, Nat.reduceEqDiff, ↓reduceIte] at h9
          rw [u0, u1, u2, u6] at h9
          exact h9
        refine inv.Each.cons (m := 9) (by decide) ?s8 ?_
        case s8 =>
          rintro l x w8 hd hl hw ⟨bA, bB, lo, hi, s, sb, g⟩ K hK
          have d7 : l 7 = true := hw ⟨7, .data⟩ (by simp) rfl
          simp only [inv.puts, List.foldl, Act.put, List.setIfInBounds_toArray, List.set_cons_zero, List.set_cons_succ]
          have e9 := (g.f7 d7).1
          rw [e9]
          have hF9 := (g.step8).f
          clear g hd hw
          go_simp
          have h9 := hK.out _ _ hF9
          simp only [inv.puts, List.foldl, Act.put, List.setIfInBounds_toArray, List.set_cons_zero, List.set_cons_succ, inv.updv, Nat.reduceEqDiff, ↓reduceIte] at h9
          rw [e9] at h9
          exact h9
        refine inv.Each.cons (m := 10) (by decide) ?s9 ?_
        case s9 =>
          rintro l x w8 hd hl hw ⟨bA, bB, lo, hi, s, sb, g⟩ K hK
          have d8 : l 8 = true := hw ⟨8, .data⟩ (by simp) rfl
          simp only [inv.puts, List.foldl, Act.put, List.setIfInBounds_toArray, List.set_cons_zero, List.set_cons_succ]
          have e9 := g.f8 d8
          rw [e9]
          have hF9 := (g.step9).f
          clear g hd hw
          go_simp
          have h9 := hK.out _ _ hF9
          simp only [inv.puts, List.foldl, Act.put, List.setIfInBounds_toArray, List.set_cons_zero, List.set_cons_succ, inv.updv, Nat.reduceEqDiff, ↓reduceIte] at h9
          rw [e9] at h9
          exact h9
        refine inv.Each.cons (m := 11) (by decide) ?s10 ?_
        case s10 =>
          rintro l x w8 hd hl hw ⟨bA, bB, lo, hi, s, sb, g⟩ K hK
          have d8 : l 8 = true := hw ⟨8, .data⟩ (by simp) rfl
          simp only [inv.puts, List.foldl, Act.put, List.setIfInBounds_toArray, List.set_cons_zero, List.set_cons_succ]
          have e9 := g.f8 d8
          rw [e9]
          have hF9 := (g.step10).f
          clear g hd hw
          go_simp
          have h9 := hK.out _ _ hF9
          simp only [inv.puts, List.foldl, Act.put, List.setIfInBounds_toArray, List.set_cons_zero, List.set_cons_succ, inv.updv, Nat.reduceEqDiff, ↓reduceIte] at h9
          rw [e9] at h9
          exact h9
        refine inv.Each.cons (m := 12) (by decide) ?s11 ?_
        case s11 =>
          rintro l x w8 hd hl hw ⟨bA, bB, lo, hi, s, sb, g⟩ K hK
          have d8 : l 8 = true := hw ⟨8, .data⟩ (by simp) rfl
          simp only [inv.puts, List.foldl, Act.put, List.setIfInBounds_toArray, List.set_cons_zero, List.set_cons_succ]
          have e9 := g.f8 d8
          rw [e9]
          have hF9 := (g.step11).f
          clear g hd hw
          go_simp
          have h9 := hK.out _ _ hF9
          simp only [inv.puts, List.foldl, Act.put, List.setIfInBounds_toArray, List.set_cons_zero, List.set_cons_succ, inv.updv, Nat.reduceEqDiff, ↓reduceIte] at h9
          rw [e9] at h9
          exact h9
        refine inv.Each.cons (m := 13) (by decide) ?s12 ?_
        case s12 =>
          rintro l x w8 hd hl hw ⟨bA, bB, lo, hi, s, sb, g⟩ K hK
          simp only [inv.puts, List.foldl, Act.put, List.setIfInBounds_toArray, List.set_cons_zero, List.set_cons_succ]
          have n14 : l 14 = false := hd.no (j := 14) (e := ⟨12, .data⟩) rfl (by simp) rfl hl
          have hF9 := (g.step12 n14).f
          clear g hd hw
          go_simp
          have h9 := hK.out _ _ hF9
          simp only [inv.puts, List.foldl, Act.put, List.setIfInBounds_toArray, List.set_cons_zero, List.set_cons_succ, inv.updv, Nat.reduceEqDiff, ↓reduceIte] at h9
          exact h9
        refine inv.Each.cons (m := 14) (by decide) ?s13 ?_
        case s13 =>
          rintro l x w8 hd hl hw ⟨bA, bB, lo, hi, s, sb, g⟩ K hK
          simp only [inv.puts, List.foldl, Act.put, List.setIfInBounds_toArray, List.set_cons_zero, List.set_cons_succ]
          have n15 : l 15 = false := hd.no (j := 15) (e := ⟨13, .data⟩) rfl (by simp) rfl hl
          have hF9 := (g.step13 n15).f
          clear g hd hw
          go_simp
          have h9 := hK.out _ _ hF9
          simp only [inv.puts, List.foldl, Act.put, List.setIfInBounds_toArray, List.set_cons_zero, List.set_cons_succ, inv.updv, Nat.reduceEqDiff, ↓reduceIte] at h9
          exact h9
        refine inv.Each.cons (m := 15) (by decide) ?s14 ?_
        case s14 =>
          rintro l x w8 hd hl hw ⟨bA, bB, lo, hi, s, sb, g⟩ K hK
          have d7 : l 7 = true := hw ⟨7, .chain⟩ (by simp) rfl
          have d12 : l 12 = true := hw ⟨12, .phase⟩ (by simp) rfl
          have d13 : l 13 = true := hw ⟨13, .phase⟩ (by simp) rfl
          have d9 : l 9 = true := hw ⟨9, .data⟩ (by simp) rfl
          simp only [inv.puts, List.foldl, Act.put, List.setIfInBounds_toArray, List.set_cons_zero, List.set_cons_succ]
          obtain ⟨h1, h2, h3, h4, h5, h6⟩ := g.f7 d7; obtain ⟨ra, rc, rfl⟩ := h5.shape; obtain ⟨sa, sc, rfl⟩ := h6.shape; clear h1 h2 h3 h4 h5 h6
          have e8 := (g.f12 d12).1; have e9 := g.f9 d9
          have bx := (g.f12 d12).2.2.1; rw [hl] at bx; have cb : w8.cell? ⟨bA, 0, none⟩ = some (.slice none 0 0) := bx.cell; have fb := bx.free
          rw [e8, e9]
          have hF9 := (g.step14 d12 d13 d7 undef).f
          clear g hd hw bx
          go_simp
          have h9 := hK.out _ _ hF9
          simp only [inv.puts, List.foldl, Act.put, List.setIfInBounds_toArray, List.set_cons_zero, List.set_cons_succ, inv.updv, Nat.reduceEqDiff, ↓reduceIte] at h9
          rw [e8, e9] at h9
          exact h9
        refine inv.Each.cons (m := 16) (by decide) ?s15 ?_
        case s15 =>
          rintro l x w8 hd hl hw ⟨bA, bB, lo, hi, s, sb, g⟩ K hK
          have d7 : l 7 = true := hw ⟨7, .phase⟩ (by simp) rfl
          have d12 : l 12 = true := hw ⟨12, .phase⟩ (by simp) rfl
          have d13 : l 13 = true := hw ⟨13, .phase⟩ (by simp) rfl
          have d10 : l 10 = true := hw ⟨10, .data⟩ (by simp) rfl
          simp only [inv.puts, List.foldl, Act.put, List.setIfInBounds_toArray, List.set_cons_zero, List.set_cons_succ]
          obtain ⟨h1, h2, h3, h4, h5, h6⟩ := g.f7 d7; obtain ⟨ra, rc, rfl⟩ := h5.shape; obtain ⟨sa, sc, rfl⟩ := h6.shape; clear h1 h2 h3 h4 h5 h6
          have e8 := (g.f13 d13).1; have e9 := g.f10 d10
          have bx := (g.f13 d13).2.2.1; rw [hl] at bx; have cb : w8.cell? ⟨bB, 0, none⟩ = some (.slice none 0 0) := bx.cell; have fb := bx.free
          rw [e8, e9]
          have hF9 := (g.step15 d13 d12 d7 undef).f
          clear g hd hw bx
          go_simp
          have h9 := hK.out _ _ hF9
          simp only [inv.puts, List.foldl, Act.put, List.setIfInBounds_toArray, List.set_cons_zero, List.set_cons_succ, inv.updv, Nat.reduceEqDiff, ↓reduceIte] at h9
          rw [e8, e9] at h9
          exact h9
        refine inv.Each.cons (m := 17) (by decide) ?s16 ?_
        case s16 =>
          rintro l x w8 hd hl hw ⟨bA, bB, lo, hi, s, sb, g⟩ K hK
          have d11 : l 11 = true := hw ⟨11, .data⟩ (by simp) rfl
          simp only [inv.puts, List.foldl, Act.put, List.setIfInBounds_toArray, List.set_cons_zero, List.set_cons_succ]
          have e9 := g.f11 d11
          rw [e9]
          have hF9 := (g.step16).f
          clear g hd hw
          go_simp
          have h9 := hK.out _ _ hF9
          simp only [inv.puts, List.foldl, Act.put, List.setIfInBounds_toArray, List.set_cons_zero, List.set_cons_succ, inv.updv, Nat.reduceEqDiff, ↓reduceIte] at h9
          rw [e9] at h9
          exact h9
        exact inv.Each.nil
  case rest =>
  obtain ⟨hF, hG, hra, hrc, hsa, hsc, rfl, rfl, rfl, hF⟩ := hcut
  obtain ⟨hF1, hG1, hFG, hF2, hG2, hF3, hG3, b⟩ := hF.out
  generalize hwc : wc = w28 at *
  clear hwc hF hFG
  have Zw28 : Hid (w27.heap.size ≤ w28.heap.size) := b.size
  replace B0 : Hid (Below w.heap.size w w28) := B0.out.trans (b.mono (by have := Zw1.out; have := Zw2.out; have := Zw3.out; have := Zw4.out; have := Zw5.out; have := Zw6.out; have := Zw7.out; have := Zw8.out; have := Zw9.out; have := Zw10.out; have := Zw11.out; have := Zwm_g.out; have := Zw12.out; have := Zw13.out; have := Zw14.out; have := Zw15.out; have := Zw16.out; have := Zw17.out; have := Zw18.out; have := Zw19.out; have := Zw20.out; have := Zw21.out; have := Zw22.out; have := Zw23.out; have := Zw24.out; have := Zw25.out; have := Zw26.out; have := Zw27.out; omega))
  replace Rf0 : Hid (Rd w28 w.heap.size s0 A0) := Rf0.out.below b (by have := Zw1.out; have := Zw2.out; have := Zw3.out; have := Zw4.out; have := Zw5.out; have := Zw6.out; have := Zw7.out; have := Zw8.out; have := Zw9.out; have := Zw10.out; have := Zw11.out; have := Zwm_g.out; have := Zw12.out; have := Zw13.out; have := Zw14.out; have := Zw15.out; have := Zw16.out; have := Zw17.out; have := Zw18.out; have := Zw19.out; have := Zw20.out; have := Zw21.out; have := Zw22.out; have := Zw23.out; have := Zw24.out; have := Zw25.out; have := Zw26.out; have := Zw27.out; omega)
  replace Rf1 : Hid (Rd w28 w.heap.size s1 A1) := Rf1.out.below b (by have := Zw1.out; have := Zw2.out; have := Zw3.out; have := Zw4.out; have := Zw5.out; have := Zw6.out; have := Zw7.out; have := Zw8.out; have := Zw9.out; have := Zw10.out; have := Zw11.out; have := Zwm_g.out; have := Zw12.out; have := Zw13.out; have := Zw14.out; have := Zw15.out; have := Zw16.out; have := Zw17.out; have := Zw18.out; have := Zw19.out; have := Zw20.out; have := Zw21.out; have := Zw22.out; have := Zw23.out; have := Zw24.out; have := Zw25.out; have := Zw26.out; have := Zw27.out; omega)
  replace Rf2 : Hid (Rd w28 w.heap.size s2 A2) := Rf2.out.below b (by have := Zw1.out; have := Zw2.out; have := Zw3.out; have := Zw4.out; have := Zw5.out; have := Zw6.out; have := Zw7.out; have := Zw8.out; have := Zw9.out; have := Zw10.out; have := Zw11.out; have := Zwm_g.out; have := Zw12.out; have := Zw13.out; have := Zw14.out; have := Zw15.out; have := Zw16.out; have := Zw17.out; have := Zw18.out; have := Zw19.out; have := Zw20.out; have := Zw21.out; have := Zw22.out; have := Zw23.out; have := Zw24.out; have := Zw25.out; have := Zw26.out; have := Zw27.out; omega)
  replace Or0 : Hid (Rd w28 w5.heap.size (.slice rra R.length rrc) R) := Or0.out.below b (by have := Zw6.out; have := Zw7.out; have := Zw8.out; have := Zw9.out; have := Zw10.out; have := Zw11.out; have := Zwm_g.out; have := Zw12.out; have := Zw13.out; have := Zw14.out; have := Zw15.out; have := Zw16.out; have := Zw17.out; have := Zw18.out; have := Zw19.out; have := Zw20.out; have := Zw21.out; have := Zw22.out; have := Zw23.out; have := Zw24.out; have := Zw25.out; have := Zw26.out; have := Zw27.out; omega)
  replace Or1 : Hid (Rd w28 w5.heap.size (.slice rsa R2.length rsc) R2) := Or1.out.below b (by have := Zw6.out; have := Zw7.out; have := Zw8.out; have := Zw9.out; have := Zw10.out; have := Zw11.out; have := Zwm_g.out; have := Zw12.out; have := Zw13.out; have := Zw14.out; have := Zw15.out; have := Zw16.out; have := Zw17.out; have := Zw18.out; have := Zw19.out; have := Zw20.out; have := Zw21.out; have := Zw22.out; have := Zw23.out; have := Zw24.out; have := Zw25.out; have := Zw26.out; have := Zw27.out; omega)
  replace Og0 : Hid (wh.Own w28 w11.heap.size wm_g.heap.size (.slice g0a R.length g0c) (mk (1) R.length)) := Og0.out.below b (by have := Zw12.out; have := Zw13.out; have := Zw14.out; have := Zw15.out; have := Zw16.out; have := Zw17.out; have := Zw18.out; have := Zw19.out; have := Zw20.out; have := Zw21.out; have := Zw22.out; have := Zw23.out; have := Zw24.out; have := Zw25.out; have := Zw26.out; have := Zw27.out; omega)
  replace Og1 : Hid (wh.Own w28 wm_g.heap.size w12.heap.size (.slice g1a R2.length g1c) (mk (1 + (R.length : Int)) R2.length)) := Og1.out.below b (by have := Zw13.out; have := Zw14.out; have := Zw15.out; have := Zw16.out; have := Zw17.out; have := Zw18.out; have := Zw19.out; have := Zw20.out; have := Zw21.out; have := Zw22.out; have := Zw23.out; have := Zw24.out; have := Zw25.out; have := Zw26.out; have := Zw27.out; omega)
  replace XP0 : Hid (Bx w28 w.heap.size s0) := XP0.out.kept b
  replace cXP0 : w28.cell? ⟨w.heap.size, 0, none⟩ = some s0 := XP0.out.cell
  replace XP1 : Hid (Bx w28 (w.heap.size + 1) s1) := XP1.out.kept b
  replace cXP1 : w28.cell? ⟨(w.heap.size + 1), 0, none⟩ = some s1 := XP1.out.cell
  replace XP2 : Hid (Bx w28 (w.heap.size + 1 + 1) s2) := XP2.out.kept b
  replace cXP2 : w28.cell? ⟨(w.heap.size + 1 + 1), 0, none⟩ = some s2 := XP2.out.cell
  replace XS0 : Hid (Bx w28 rF (.slice rra R.length rrc)) := XS0.out.kept b
  replace cXS0 : w28.cell? ⟨rF, 0, none⟩ = some (.slice rra R.length rrc) := XS0.out.cell
  replace XS1 : Hid (Bx w28 rG (.slice rsa R2.length rsc)) := XS1.out.kept b
  replace cXS1 : w28.cell? ⟨rG, 0, none⟩ = some (.slice rsa R2.length rsc) := XS1.out.cell
  replace XG0 : Hid (Bx w28 w12.heap.size (.slice g0a R.length g0c)) := XG0.out.kept b
  replace cXG0 : w28.cell? ⟨w12.heap.size, 0, none⟩ = some (.slice g0a R.length g0c) := XG0.out.cell
  replace XG1 : Hid (Bx w28 (w12.heap.size + 1) (.slice g1a R2.length g1c)) := XG1.out.kept b
  replace cXG1 : w28.cell? ⟨(w12.heap.size + 1), 0, none⟩ = some (.slice g1a R2.length g1c) := XG1.out.cell
  have Oh0 : Hid (Rd w28 w28.heap.size (.slice hra R.length hrc) R) := hF3
  have XH0 : Hid (Bx w28 hF (.slice hra R.length hrc)) := hF2
  have cXH0 : w28.cell? ⟨hF, 0, none⟩ = some (.slice hra R.length hrc) := XH0.out.cell
  have LXH0 : Hid (hF < w28.heap.size) := XH0.out.lt
  have GXH0 : Hid (w27.heap.size ≤ hF) := hF1
  have Oh1 : Hid (Rd w28 w28.heap.size (.slice hsa R2.length hsc) R2) := hG3
  have XH1 : Hid (Bx w28 hG (.slice hsa R2.length hsc)) := hG2
  have cXH1 : w28.cell? ⟨hG, 0, none⟩ = some (.slice hsa R2.length hsc) := XH1.out.cell
  have LXH1 : Hid (hG < w28.heap.size) := XH1.out.lt
  have GXH1 : Hid (w27.heap.size ≤ hG) := hG1
  clear hF1 hG1 hF2 hG2 hF3 hG3 b
  go_wp2_with fail
  refine (eqW_any ⟨_, rfl, (Oh0.out.ls (Nat.le_refl _))⟩ ⟨_, rfl, (Or0.out.ls (by have := Zw6.out; have := Zw7.out; have := Zw8.out; have := Zw9.out; have := Zw10.out; have := Zw11.out; have := Zwm_g.out; have := Zw12.out; have := Zw13.out; have := Zw14.out; have := Zw15.out; have := Zw16.out; have := Zw17.out; have := Zw18.out; have := Zw19.out; have := Zw20.out; have := Zw21.out; have := Zw22.out; have := Zw23.out; have := Zw24.out; have := Zw25.out; have := Zw26.out; have := Zw27.out; have := Zw28.out; omega))⟩).mono ?_
  rintro e w29 ⟨rfl, b⟩
  have Zw29 : Hid (w28.heap.size ≤ w29.heap.size) := b.size
  replace B0 : Hid (Below w.heap.size w w29) := B0.out.trans (b.mono (by have := Zw1.out; have := Zw2.out; have := Zw3.out; have := Zw4.out; have := Zw5.out; have := Zw6.out; have := Zw7.out; have := Zw8.out; have := Zw9.out; have := Zw10.out; have := Zw11.out; have := Zwm_g.out; have := Zw12.out; have := Zw13.out; have := Zw14.out; have := Zw15.out; have := Zw16.out; have := Zw17.out; have := Zw18.out; have := Zw19.out; have := Zw20.out; have := Zw21.out; have := Zw22.out; have := Zw23.out; have := Zw24.out; have := Zw25.out; have := Zw26.out; have := Zw27.out; have := Zw28.out; omega))
  replace Rf0 : Hid (Rd w29 w.heap.size s0 A0) := Rf0.out.below b (by have := Zw1.out; have := Zw2.out; have := Zw3.out; have := Zw4.out; have := Zw5.out; have := Zw6.out; have := Zw7.out; have := Zw8.out; have := Zw9.out; have := Zw10.out; have := Zw11.out; have := Zwm_g.out; have := Zw12.out; have := Zw13.out; have := Zw14.out; have := Zw15.out; have := Zw16.out; have := Zw17.out; have := Zw18.out; have := Zw19.out; have := Zw20.out; have := Zw21.out; have := Zw22.out; have := Zw23.out; have := Zw24.out; have := Zw25.out; have := Zw26.out; have := Zw27.out; have := Zw28.out; omega)
  replace Rf1 : Hid (Rd w29 w.heap.size s1 A1) := Rf1.out.below b (by have := Zw1.out; have := Zw2.out; have := Zw3.out; have := Zw4.out; have := Zw5.out; have := Zw6.out; have := Zw7.out; have := Zw8.out; have := Zw9.out; have := Zw10.out; have := Zw11.out; have := Zwm_g.out; have := Zw12.out; have := Zw13.out; have := Zw14.out; have := Zw15.out; have := Zw16.out; have := Zw17.out; have := Zw18.out; have := Zw19.out; have := Zw20.out; have := Zw21.out; have := Zw22.out; have := Zw23.out; have := Zw24.out; have := Zw25.out; have := Zw26.out; have := Zw27.out; have := Zw28.out; omega)
  replace Rf2 : Hid (Rd w29 w.heap.size s2 A2) := Rf2.out.below b (by have := Zw1.out; have := Zw2.out; have := Zw3.out; have := Zw4.out; have := Zw5.out; have := Zw6.out; have := Zw7.out; have := Zw8.out; have := Zw9.out; have := Zw10.out; have := Zw11.out; have := Zwm_g.out; have := Zw12.out; have := Zw13.out; have := Zw14.out; have := Zw15.out; have := Zw16.out; have := Zw17.out; have := Zw18.out; have := Zw19.out; have := Zw20.out; have := Zw21.out; have := Zw22.out; have := Zw23.out; have := Zw24.out; have := Zw25.out; have := Zw26.out; have := Zw27.out; have := Zw28.out; omega)
  replace Or0 : Hid (Rd w29 w5.heap.size (.slice rra R.length rrc) R) := Or0.out.below b (by have := Zw6.out; have := Zw7.out; have := Zw8.out; have := Zw9.out; have := Zw10.out; have := Zw11.out; have := Zwm_g.out; have := Zw12.out; have := Zw13.out; have := Zw14.out; have := Zw15.out; have := Zw16.out; have := Zw17.out; have := Zw18.out; have := Zw19.out; have := Zw20.out; have := Zw21.out; have := Zw22.out; have := Zw23.out; have := Zw24.out; have := Zw25.out; have := Zw26.out; have := Zw27.out; have := Zw28.out; omega)
  replace Or1 : Hid (Rd w29 w5.heap.size (.slice rsa R2.length rsc) R2) := Or1.out.below b (by have := Zw6.out; have := Zw7.out; have := Zw8.out; have := Zw9.out; have := Zw10.out; have := Zw11.out; have := Zwm_g.out; have := Zw12.out; have := Zw13.out; have := Zw14.out; have := Zw15.out; have := Zw16.out; have := Zw17.out; have := Zw18.out; have := Zw19.out; have := Zw20.out; have := Zw21.out; have := Zw22.out; have := Zw23.out; have := Zw24.out; have := Zw25.out; have := Zw26.out; have := Zw27.out; have := Zw28.out; omega)
  replace Og0 : Hid (wh.Own w29 w11.heap.size wm_g.heap.size (.slice g0a R.length g0c) (mk (1) R.length)) := Og0.out.below b (by have := Zw12.out; have := Zw13.out; have := Zw14.out; have := Zw15.out; have := Zw16.out; have := Zw17.out; have := Zw18.out; have := Zw19.out; have := Zw20.out; have := Zw21.out; have := Zw22.out; have := Zw23.out; have := Zw24.out; have := Zw25.out; have := Zw26.out; have := Zw27.out; have := Zw28.out; omega)
  replace Og1 : Hid (wh.Own w29 wm_g.heap.size w12.heap.size (.slice g1a R2.length g1c) (mk (1 + (R.length : Int)) R2.length)) := Og1.out.below b (by have := Zw13.out; have := Zw14.out; have := Zw15.out; have := Zw16.out; have := Zw17.out; have := Zw18.out; have := Zw19.out; have := Zw20.out; have := Zw21.out; have := Zw22.out; have := Zw23.out; have := Zw24.out; have := Zw25.out; have := Zw26.out; have := Zw27.out; have := Zw28.out; omega)
  replace Oh0 : Hid (Rd w29 w28.heap.size (.slice hra R.length hrc) R) := Oh0.out.below b (Nat.le_refl _)
  replace Oh1 : Hid (Rd w29 w28.heap.size (.slice hsa R2.length hsc) R2) := Oh1.out.below b (Nat.le_refl _)
  replace XP0 : Hid (Bx w29 w.heap.size s0) := XP0.out.kept b
  replace cXP0 : w29.cell? ⟨w.heap.size, 0, none⟩ = some s0 := XP0.out.cell
  replace XP1 : Hid (Bx w29 (w.heap.size + 1) s1) := XP1.out.kept b
  replace cXP1 : w29.cell? ⟨(w.heap.size + 1), 0, none⟩ = some s1 := XP1.out.cell
  replace XP2 : Hid (Bx w29 (w.heap.size + 1 + 1) s2) := XP2.out.kept b
  replace cXP2 : w29.cell? ⟨(w.heap.size + 1 + 1), 0, none⟩ = some s2 := XP2.out.cell
  replace XS0 : Hid (Bx w29 rF (.slice rra R.length rrc)) := XS0.out.kept b
  replace cXS0 : w29.cell? ⟨rF, 0, none⟩ = some (.slice rra R.length rrc) := XS0.out.cell
  replace XS1 : Hid (Bx w29 rG (.slice rsa R2.length rsc)) := XS1.out.kept b
  replace cXS1 : w29.cell? ⟨rG, 0, none⟩ = some (.slice rsa R2.length rsc) := XS1.out.cell
  replace XG0 : Hid (Bx w29 w12.heap.size (.slice g0a R.length g0c)) := XG0.out.kept b
  replace cXG0 : w29.cell? ⟨w12.heap.size, 0, none⟩ = some (.slice g0a R.length g0c) := XG0.out.cell
  replace XG1 : Hid (Bx w29 (w12.heap.size + 1) (.slice g1a R2.length g1c)) := XG1.out.kept b
  replace cXG1 : w29.cell? ⟨(w12.heap.size + 1), 0, none⟩ = some (.slice g1a R2.length g1c) := XG1.out.cell
  replace XH0 : Hid (Bx w29 hF (.slice hra R.length hrc)) := XH0.out.kept b
  replace cXH0 : w29.cell? ⟨hF, 0, none⟩ = some (.slice hra R.length hrc) := XH0.out.cell
  replace XH1 : Hid (Bx w29 hG (.slice hsa R2.length hsc)) := XH1.out.kept b
  replace cXH1 : w29.cell? ⟨hG, 0, none⟩ = some (.slice hsa R2.length hsc) := XH1.out.cell
  clear b
  go_wp2_with fail
  refine (eqW_any ⟨_, rfl, (Oh1.out.ls (by have := Zw29.out; omega))⟩ ⟨_, rfl, (Or1.out.ls (by have := Zw6.out; have := Zw7.out; have := Zw8.out; have := Zw9.out; have := Zw10.out; have := Zw11.out; have := Zwm_g.out; have := Zw12.out; have := Zw13.out; have := Zw14.out; have := Zw15.out; have := Zw16.out; have := Zw17.out; have := Zw18.out; have := Zw19.out; have := Zw20.out; have := Zw21.out; have := Zw22.out; have := Zw23.out; have := Zw24.out; have := Zw25.out; have := Zw26.out; have := Zw27.out; have := Zw28.out; have := Zw29.out; omega))⟩).mono ?_
  rintro e w30 ⟨rfl, b⟩
  have Zw30 : Hid (w29.heap.size ≤ w30.heap.size) := b.size
  replace B0 : Hid (Below w.heap.size w w30) := B0.out.trans (b.mono (by have := Zw1.out; have := Zw2.out; have := Zw3.out; have := Zw4.out; have := Zw5.out; have := Zw6.out; have := Zw7.out; have := Zw8.out; have := Zw9.out; have := Zw10.out; have := Zw11.out; have := Zwm_g.out; have := Zw12.out; have := Zw13.out; have := Zw14.out; have := Zw15.out; have := Zw16.out; have := Zw17.out; have := Zw18.out; have := Zw19.out; have := Zw20.out; have := Zw21.out; have := Zw22.out; have := Zw23.out; have := Zw24.out; have := Zw25.out; have := Zw26.out; have := Zw27.out; have := Zw28.out; have := Zw29.out; omega))
  replace Rf0 : Hid (Rd w30 w.heap.size s0 A0) := Rf0.out.below b (by have := Zw1.out; have := Zw2.out; have := Zw3.out; have := Zw4.out; have := Zw5.out; have := Zw6.out; have := Zw7.out; have := Zw8.out; have := Zw9.out; have := Zw10.out; have := Zw11.out; have := Zwm_g.out; have := Zw12.out; have := Zw13.out; have := Zw14.out; have := Zw15.out; have := Zw16.out; have := Zw17.out; have := Zw18.out; have := Zw19.out; have := Zw20.out; have := Zw21.out; have := Zw22.out; have := Zw23.out; have := Zw24.out; have := Zw25.out; have := Zw26.out; have := Zw27.out; have := Zw28.out; have := Zw29.out; omega)
  replace Rf1 : Hid (Rd w30 w.heap.size s1 A1) := Rf1.out.below b (by have := Zw1.out; have := Zw2.out; have := Zw3.out; have := Zw4.out; have := Zw5.out; have := Zw6.out; have := Zw7.out; have := Zw8.out; have := Zw9.out; have := Zw10.out; have := Zw11.out; have := Zwm_g.out; have := Zw12.out; have := Zw13.out; have := Zw14.out; have := Zw15.out; have := Zw16.out; have := Zw17.out; have := Zw18.out; have := Zw19.out; have := Zw20.out; have := Zw21.out; have := Zw22.out; have := Zw23.out; have := Zw24.out; have := Zw25.out; have := Zw26.out; have := Zw27.out; have := Zw28.out; have := Zw29.out; omega)
  replace Rf2 : Hid (Rd w30 w.heap.size s2 A2) := Rf2.out.below b (by have := Zw1.out; have := Zw2.out; have := Zw3.out; have := Zw4.out; have := Zw5.out; have := Zw6.out; have := Zw7.out; have := Zw8.out; have := Zw9.out; have := Zw10.out; have := Zw11.out; have := Zwm_g.out; have := Zw12.out; have := Zw13.out; have := Zw14.out; have := Zw15.out; have := Zw16.out; have := Zw17.out; have := Zw18.out; have := Zw19.out; have := Zw20.out; have := Zw21.out; have := Zw22.out; have := Zw23.out; have := Zw24.out; have := Zw25.out; have := Zw26.out; have := Zw27.out; have := Zw28.out; have := Zw29.out; omega)
  replace Or0 : Hid (Rd w30 w5.heap.size (.slice rra R.length rrc) R) := Or0.out.below b (by have := Zw6.out; have := Zw7.out; have := Zw8.out; have := Zw9.out; have := Zw10.out; have := Zw11.out; have := Zwm_g.out; have := Zw12.out; have := Zw13.out; have := Zw14.out; have := Zw15.out; have := Zw16.out; have := Zw17.out; have := Zw18.out; have := Zw19.out; have := Zw20.out; have := Zw21.out; have := Zw22.out; have := Zw23.out; have := Zw24.out; have := Zw25.out; have := Zw26.out; have := Zw27.out; have := Zw28.out; have := Zw29.out; omega)
  replace Or1 : Hid (Rd w30 w5.heap.size (.slice rsa R2.length rsc) R2) := Or1.out.below b (by have := Zw6.out; have := Zw7.out; have := Zw8.out; have := Zw9.out; have := Zw10.out; have := Zw11.out; have := Zwm_g.out; have := Zw12.out; have := Zw13.out; have := Zw14.out; have := Zw15.out; have := Zw16.out; have := Zw17.out; have := Zw18.out; have := Zw19.out; have := Zw20.out; have := Zw21.out; have := Zw22.out; have := Zw23.out; have := Zw24.out; have := Zw25.out; have := Zw26.out; have := Zw27.out; have := Zw28.out; have := Zw29.out; omega)
  replace Og0 : Hid (wh.Own w30 w11.heap.size wm_g.heap.size (.slice g0a R.length g0c) (mk (1) R.length)) := Og0.out.below b (by have := Zw12.out; have := Zw13.out; have := Zw14.out; have := Zw15.out; have := Zw16.out; have := Zw17.out; have := Zw18.out; have := Zw19.out; have := Zw20.out; have := Zw21.out; have := Zw22.out; have := Zw23.out; have := Zw24.out; have := Zw25.out; have := Zw26.out; have := Zw27.out; have := Zw28.out; have := Zw29.out; omega)
  replace Og1 : Hid (wh.Own w30 wm_g.heap.size w12.heap.size (.slice g1a R2.length g1c) (mk (1 + (R.length : Int)) R2.length)) := Og1.out.below b (by have := Zw13.out; have := Zw14.out; have := Zw15.out; have := Zw16.out; have := Zw17.out; have := Zw18.out; have := Zw19.out; have := Zw20.out; have := Zw21.out; have := Zw22.out; have := Zw23.out; have := Zw24.out; have := Zw25.out; have := Zw26.out; have := Zw27.out; have := Zw28.out; have := Zw29.out; omega)
  replace Oh0 : Hid (Rd w30 w28.heap.size (.slice hra R.length hrc) R) := Oh0.out.below b (by have := Zw29.out; omega)
  replace Oh1 : Hid (Rd w30 w28.heap.size (.slice hsa R2.length hsc) R2) := Oh1.out.below b (by have := Zw29.out; omega)
  replace XP0 : Hid (Bx w30 w.heap.size s0) := XP0.out.kept b
  replace cXP0 : w30.cell? ⟨w.heap.size, 0, none⟩ = some s0 := XP0.out.cell
  replace XP1 : Hid (Bx w30 (w.heap.size + 1) s1) := XP1.out.kept b
  replace cXP1 : w30.cell? ⟨(w.heap.size + 1), 0, none⟩ = some s1 := XP1.out.cell
  replace XP2 : Hid (Bx w30 (w.heap.size + 1 + 1) s2) := XP2.out.kept b
  replace cXP2 : w30.cell? ⟨(w.heap.size + 1 + 1), 0, none⟩ = some s2 := XP2.out.cell
  replace XS0 : Hid (Bx w30 rF (.slice rra R.length rrc)) := XS0.out.kept b
  replace cXS0 : w30.cell? ⟨rF, 0, none⟩ = some (.slice rra R.length rrc) := XS0.out.cell
  replace XS1 : Hid (Bx w30 rG (.slice rsa R2.length rsc)) := XS1.out.kept b
  replace cXS1 : w30.cell? ⟨rG, 0, none⟩ = some (.slice rsa R2.length rsc) := XS1.out.cell
  replace XG0 : Hid (Bx w30 w12.heap.size (.slice g0a R.length g0c)) := XG0.out.kept b
  replace cXG0 : w30.cell? ⟨w12.heap.size, 0, none⟩ = some (.slice g0a R.length g0c) := XG0.out.cell
  replace XG1 : Hid (Bx w30 (w12.heap.size + 1) (.slice g1a R2.length g1c)) := XG1.out.kept b
  replace cXG1 : w30.cell? ⟨(w12.heap.size + 1), 0, none⟩ = some (.slice g1a R2.length g1c) := XG1.out.cell
  replace XH0 : Hid (Bx w30 hF (.slice hra R.length hrc)) := XH0.out.kept b
  replace cXH0 : w30.cell? ⟨hF, 0, none⟩ = some (.slice hra R.length hrc) := XH0.out.cell
  replace XH1 : Hid (Bx w30 hG (.slice hsa R2.length hsc)) := XH1.out.kept b
  replace cXH1 : w30.cell? ⟨hG, 0, none⟩ = some (.slice hsa R2.length hsc) := XH1.out.cell
  clear b
  clear Oh0
  clear Oh1
  clear cXH0 XH0 LXH0 GXH0
  clear cXH1 XH1 LXH1 GXH1
  go_wp2_with fail
  refine (heldW_any ⟨_, rfl, (Og0.out.rd.ls (by have := Zw12.out; have := Zw13.out; have := Zw14.out; have := Zw15.out; have := Zw16.out; have := Zw17.out; have := Zw18.out; have := Zw19.out; have := Zw20.out; have := Zw21.out; have := Zw22.out; have := Zw23.out; have := Zw24.out; have := Zw25.out; have := Zw26.out; have := Zw27.out; have := Zw28.out; have := Zw29.out; have := Zw30.out; omega))⟩ (by omega) (by omega) (by omega)).mono ?_
  rintro e w31 ⟨rfl, b⟩
  have Zw31 : Hid (w30.heap.size ≤ w31.heap.size) := b.size
  replace B0 : Hid (Below w.heap.size w w31) := B0.out.trans (b.mono (by have := Zw1.out; have := Zw2.out; have := Zw3.out; have := Zw4.out; have := Zw5.out; have := Zw6.out; have := Zw7.out; have := Zw8.out; have := Zw9.out; have := Zw10.out; have := Zw11.out; have := Zwm_g.out; have := Zw12.out; have := Zw13.out; have := Zw14.out; have := Zw15.out; have := Zw16.out; have := Zw17.out; have := Zw18.out; have := Zw19.out; have := Zw20.out; have := Zw21.out; have := Zw22.out; have := Zw23.out; have := Zw24.out; have := Zw25.out; have := Zw26.out; have := Zw27.out; have := Zw28.out; have := Zw29.out; have := Zw30.out; omega))
  replace Rf0 : Hid (Rd w31 w.heap.size s0 A0) := Rf0.out.below b (by have := Zw1.out; have := Zw2.out; have := Zw3.out; have := Zw4.out; have := Zw5.out; have := Zw6.out; have := Zw7.out; have := Zw8.out; have := Zw9.out; have := Zw10.out; have := Zw11.out; have := Zwm_g.out; have := Zw12.out; have := Zw13.out; have := Zw14.out; have := Zw15.out; have := Zw16.out; have := Zw17.out; have := Zw18.out; have := Zw19.out; have := Zw20.out; have := Zw21.out; have := Zw22.out; have := Zw23.out; have := Zw24.out; have := Zw25.out; have := Zw26.out; have := Zw27.out; have := Zw28.out; have := Zw29.out; have := Zw30.out; omega)
  replace Rf1 : Hid (Rd w31 w.heap.size s1 A1) := Rf1.out.below b (by have := Zw1.out; have := Zw2.out; have := Zw3.out; have := Zw4.out; have := Zw5.out; have := Zw6.out; have := Zw7.out; have := Zw8.out; have := Zw9.out; have := Zw10.out; have := Zw11.out; have := Zwm_g.out; have := Zw12.out; have := Zw13.out; have := Zw14.out; have := Zw15.out; have := Zw16.out; have := Zw17.out; have := Zw18.out; have := Zw19.out; have := Zw20.out; have := Zw21.out; have := Zw22.out; have := Zw23.out; have := Zw24.out; have := Zw25.out; have := Zw26.out; have := Zw27.out; have := Zw28.out; have := Zw29.out; have := Zw30.out; omega)
  replace Rf2 : Hid (Rd w31 w.heap.size s2 A2) := Rf2.out.below b (by have := Zw1.out; have := Zw2.out; have := Zw3.out; have := Zw4.out; have := Zw5.out; have := Zw6.out; have := Zw7.out; have := Zw8.out; have := Zw9.out; have := Zw10.out; have := Zw11.out; have := Zwm_g.out; have := Zw12.out; have := Zw13.out; have := Zw14.out; have := Zw15.out; have := Zw16.out; have := Zw17.out; have := Zw18.out; have := Zw19.out; have := Zw20.out; have := Zw21.out; have := Zw22.out; have := Zw23.out; have := Zw24.out; have := Zw25.out; have := Zw26.out; have := Zw27.out; have := Zw28.out; have := Zw29.out; have := Zw30.out; omega)
  replace Or0 : Hid (Rd w31 w5.heap.size (.slice rra R.length rrc) R) := Or0.out.below b (by have := Zw6.out; have := Zw7.out; have := Zw8.out; have := Zw9.out; have := Zw10.out; have := Zw11.out; have := Zwm_g.out; have := Zw12.out; have := Zw13.out; have := Zw14.out; have := Zw15.out; have := Zw16.out; have := Zw17.out; have := Zw18.out; have := Zw19.out; have := Zw20.out; have := Zw21.out; have := Zw22.out; have := Zw23.out; have := Zw24.out; have := Zw25.out; have := Zw26.out; have := Zw27.out; have := Zw28.out; have := Zw29.out; have := Zw30.out; omega)
  replace Or1 : Hid (Rd w31 w5.heap.size (.slice rsa R2.length rsc) R2) := Or1.out.below b (by have := Zw6.out; have := Zw7.out; have := Zw8.out; have := Zw9.out; have := Zw10.out; have := Zw11.out; have := Zwm_g.out; have := Zw12.out; have := Zw13.out; have := Zw14.out; have := Zw15.out; have := Zw16.out; have := Zw17.out; have := Zw18.out; have := Zw19.out; have := Zw20.out; have := Zw21.out; have := Zw22.out; have := Zw23.out; have := Zw24.out; have := Zw25.out; have := Zw26.out; have := Zw27.out; have := Zw28.out; have := Zw29.out; have := Zw30.out; omega)
  replace Og0 : Hid (wh.Own w31 w11.heap.size wm_g.heap.size (.slice g0a R.length g0c) (mk (1) R.length)) := Og0.out.below b (by have := Zw12.out; have := Zw13.out; have := Zw14.out; have := Zw15.out; have := Zw16.out; have := Zw17.out; have := Zw18.out; have := Zw19.out; have := Zw20.out; have := Zw21.out; have := Zw22.out; have := Zw23.out; have := Zw24.out; have := Zw25.out; have := Zw26.out; have := Zw27.out; have := Zw28.out; have := Zw29.out; have := Zw30.out; omega)
  replace Og1 : Hid (wh.Own w31 wm_g.heap.size w12.heap.size (.slice g1a R2.length g1c) (mk (1 + (R.length : Int)) R2.length)) := Og1.out.below b (by have := Zw13.out; have := Zw14.out; have := Zw15.out; have := Zw16.out; have := Zw17.out; have := Zw18.out; have := Zw19.out; have := Zw20.out; have := Zw21.out; have := Zw22.out; have := Zw23.out; have := Zw24.out; have := Zw25.out; have := Zw26.out; have := Zw27.out; have := Zw28.out; have := Zw29.out; have := Zw30.out; omega)
  replace XP0 : Hid (Bx w31 w.heap.size s0) := XP0.out.kept b
  replace cXP0 : w31.cell? ⟨w.heap.size, 0, none⟩ = some s0 := XP0.out.cell
  replace XP1 : Hid (Bx w31 (w.heap.size + 1) s1) := XP1.out.kept b
  replace cXP1 : w31.cell? ⟨(w.heap.size + 1), 0, none⟩ = some s1 := XP1.out.cell
  replace XP2 : Hid (Bx w31 (w.heap.size + 1 + 1) s2) := XP2.out.kept b
  replace cXP2 : w31.cell? ⟨(w.heap.size + 1 + 1), 0, none⟩ = some s2 := XP2.out.cell
  replace XS0 : Hid (Bx w31 rF (.slice rra R.length rrc)) := XS0.out.kept b
  replace cXS0 : w31.cell? ⟨rF, 0, none⟩ = some (.slice rra R.length rrc) := XS0.out.cell
  replace XS1 : Hid (Bx w31 rG (.slice rsa R2.length rsc)) := XS1.out.kept b
  replace cXS1 : w31.cell? ⟨rG, 0, none⟩ = some (.slice rsa R2.length rsc) := XS1.out.cell
  replace XG0 : Hid (Bx w31 w12.heap.size (.slice g0a R.length g0c)) := XG0.out.kept b
  replace cXG0 : w31.cell? ⟨w12.heap.size, 0, none⟩ = some (.slice g0a R.length g0c) := XG0.out.cell
  replace XG1 : Hid (Bx w31 (w12.heap.size + 1) (.slice g1a R2.length g1c)) := XG1.out.kept b
  replace cXG1 : w31.cell? ⟨(w12.heap.size + 1), 0, none⟩ = some (.slice g1a R2.length g1c) := XG1.out.cell
  clear b
  go_wp2_with fail
  refine (heldW_any ⟨_, rfl, (Og1.out.rd.ls (by have := Zw13.out; have := Zw14.out; have := Zw15.out; have := Zw16.out; have := Zw17.out; have := Zw18.out; have := Zw19.out; have := Zw20.out; have := Zw21.out; have := Zw22.out; have := Zw23.out; have := Zw24.out; have := Zw25.out; have := Zw26.out; have := Zw27.out; have := Zw28.out; have := Zw29.out; have := Zw30.out; have := Zw31.out; omega))⟩ (by omega) (by omega) (by omega)).mono ?_
  rintro e w32 ⟨rfl, b⟩
  have Zw32 : Hid (w31.heap.size ≤ w32.heap.size) := b.size
  replace B0 : Hid (Below w.heap.size w w32) := B0.out.trans (b.mono (by have := Zw1.out; have := Zw2.out; have := Zw3.out; have := Zw4.out; have := Zw5.out; have := Zw6.out; have := Zw7.out; have := Zw8.out; have := Zw9.out; have := Zw10.out; have := Zw11.out; have := Zwm_g.out; have := Zw12.out; have := Zw13.out; have := Zw14.out; have := Zw15.out; have := Zw16.out; have := Zw17.out; have := Zw18.out; have := Zw19.out; have := Zw20.out; have := Zw21.out; have := Zw22.out; have := Zw23.out; have := Zw24.out; have := Zw25.out; have := Zw26.out; have := Zw27.out; have := Zw28.out; have := Zw29.out; have := Zw30.out; have := Zw31.out; omega))
  replace Rf0 : Hid (Rd w32 w.heap.size s0 A0) := Rf0.out.below b (by have := Zw1.out; have := Zw2.out; have := Zw3.out; have := Zw4.out; have := Zw5.out; have := Zw6.out; have := Zw7.out; have := Zw8.out; have := Zw9.out; have := Zw10.out; have := Zw11.out; have := Zwm_g.out; have := Zw12.out; have := Zw13.out; have := Zw14.out; have := Zw15.out; have := Zw16.out; have := Zw17.out; have := Zw18.out; have := Zw19.out; have := Zw20.out; have := Zw21.out; have := Zw22.out; have := Zw23.out; have := Zw24.out; have := Zw25.out; have := Zw26.out; have := Zw27.out; have := Zw28.out; have := Zw29.out; have := Zw30.out; have := Zw31.out; omega)
  replace Rf1 : Hid (Rd w32 w.heap.size s1 A1) := Rf1.out.below b (by have := Zw1.out; have := Zw2.out; have := Zw3.out; have := Zw4.out; have := Zw5.out; have := Zw6.out; have := Zw7.out; have := Zw8.out; have := Zw9.out; have := Zw10.out; have := Zw11.out; have := Zwm_g.out; have := Zw12.out; have := Zw13.out; have := Zw14.out; have := Zw15.out; have := Zw16.out; have := Zw17.out; have := Zw18.out; have := Zw19.out; have := Zw20.out; have := Zw21.out; have := Zw22.out; have := Zw23.out; have := Zw24.out; have := Zw25.out; have := Zw26.out; have := Zw27.out; have := Zw28.out; have := Zw29.out; have := Zw30.out; have := Zw31.out; omega)
  replace Rf2 : Hid (Rd w32 w.heap.size s2 A2) := Rf2.out.below b (by have := Zw1.out; have := Zw2.out; have := Zw3.out; have := Zw4.out; have := Zw5.out; have := Zw6.out; have := Zw7.out; have := Zw8.out; have := Zw9.out; have := Zw10.out; have := Zw11.out; have := Zwm_g.out; have := Zw12.out; have := Zw13.out; have := Zw14.out; have := Zw15.out; have := Zw16.out; have := Zw17.out; have := Zw18.out; have := Zw19.out; have := Zw20.out; have := Zw21.out; have := Zw22.out; have := Zw23.out; have := Zw24.out; have := Zw25.out; have := Zw26.out; have := Zw27.out; have := Zw28.out; have := Zw29.out; have := Zw30.out; have := Zw31.out; omega)
  replace Or0 : Hid (Rd w32 w5.heap.size (.slice rra R.length rrc) R) := Or0.out.below b (by have := Zw6.out; have := Zw7.out; have := Zw8.out; have := Zw9.out; have := Zw10.out; have := Zw11.out; have := Zwm_g.out; have := Zw12.out; have := Zw13.out; have := Zw14.out; have := Zw15.out; have := Zw16.out; have := Zw17.out; have := Zw18.out; have := Zw19.out; have := Zw20.out; have := Zw21.out; have := Zw22.out; have := Zw23.out; have := Zw24.out; have := Zw25.out; have := Zw26.out; have := Zw27.out; have := Zw28.out; have := Zw29.out; have := Zw30.out; have := Zw31.out; omega)
  replace Or1 : Hid (Rd w32 w5.heap.size (.slice rsa R2.length rsc) R2) := Or1.out.below b (by have := Zw6.out; have := Zw7.out; have := Zw8.out; have := Zw9.out; have := Zw10.out; have := Zw11.out; have := Zwm_g.out; have := Zw12.out; have := Zw13.out; have := Zw14.out; have := Zw15.out; have := Zw16.out; have := Zw17.out; have := Zw18.out; have := Zw19.out; have := Zw20.out; have := Zw21.out; have := Zw22.out; have := Zw23.out; have := Zw24.out; have := Zw25.out; have := Zw26.out; have := Zw27.out; have := Zw28.out; have := Zw29.out; have := Zw30.out; have := Zw31.out; omega)
  replace Og0 : Hid (wh.Own w32 w11.heap.size wm_g.heap.size (.slice g0a R.length g0c) (mk (1) R.length)) := Og0.out.below b (by have := Zw12.out; have := Zw13.out; have := Zw14.out; have := Zw15.out; have := Zw16.out; have := Zw17.out; have := Zw18.out; have := Zw19.out; have := Zw20.out; have := Zw21.out; have := Zw22.out; have := Zw23.out; have := Zw24.out; have := Zw25.out; have := Zw26.out; have := Zw27.out; have := Zw28.out; have := Zw29.out; have := Zw30.out; have := Zw31.out; omega)
  replace Og1 : Hid (wh.Own w32 wm_g.heap.size w12.heap.size (.slice g1a R2.length g1c) (mk (1 + (R.length : Int)) R2.length)) := Og1.out.below b (by have := Zw13.out; have := Zw14.out; have := Zw15.out; have := Zw16.out; have := Zw17.out; have := Zw18.out; have := Zw19.out; have := Zw20.out; have := Zw21.out; have := Zw22.out; have := Zw23.out; have := Zw24.out; have := Zw25.out; have := Zw26.out; have := Zw27.out; have := Zw28.out; have := Zw29.out; have := Zw30.out; have := Zw31.out; omega)
  replace XP0 : Hid (Bx w32 w.heap.size s0) := XP0.out.kept b
  replace cXP0 : w32.cell? ⟨w.heap.size, 0, none⟩ = some s0 := XP0.out.cell
  replace XP1 : Hid (Bx w32 (w.heap.size + 1) s1) := XP1.out.kept b
  replace cXP1 : w32.cell? ⟨(w.heap.size + 1), 0, none⟩ = some s1 := XP1.out.cell
  replace XP2 : Hid (Bx w32 (w.heap.size + 1 + 1) s2) := XP2.out.kept b
  replace cXP2 : w32.cell? ⟨(w.heap.size + 1 + 1), 0, none⟩ = some s2 := XP2.out.cell
  replace XS0 : Hid (Bx w32 rF (.slice rra R.length rrc)) := XS0.out.kept b
  replace cXS0 : w32.cell? ⟨rF, 0, none⟩ = some (.slice rra R.length rrc) := XS0.out.cell
  replace XS1 : Hid (Bx w32 rG (.slice rsa R2.length rsc)) := XS1.out.kept b
  replace cXS1 : w32.cell? ⟨rG, 0, none⟩ = some (.slice rsa R2.length rsc) := XS1.out.cell
  replace XG0 : Hid (Bx w32 w12.heap.size (.slice g0a R.length g0c)) := XG0.out.kept b
  replace cXG0 : w32.cell? ⟨w12.heap.size, 0, none⟩ = some (.slice g0a R.length g0c) := XG0.out.cell
  replace XG1 : Hid (Bx w32 (w12.heap.size + 1) (.slice g1a R2.length g1c)) := XG1.out.kept b
  replace cXG1 : w32.cell? ⟨(w12.heap.size + 1), 0, none⟩ = some (.slice g1a R2.length g1c) := XG1.out.cell
  clear b
  go_wp2_with fail
  go_ret
  exact ⟨rfl, B0.out⟩
end Go.Proofs.Ytfhcfeafohcjpaa.fnExactLiftPairW
