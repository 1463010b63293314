/- The law FnExactCountPrimes: its walk, over what both sides answer. -/
import Derived.Test.YtledglanaacaeacCountPrimesF
import Derived.Test.YtledglanaacaeacWw
import Derived.Deep.RegionHeld3
import Derived.Deep.DeepCutAuto
namespace Go.Proofs.Ytledglanaacaeac.fnExactCountPrimesW
open Go.RowKit Go.Proofs.Ytledglanaacaeac.wh

set_option maxRecDepth 100000 in
set_option maxHeartbeats 4000000 in
theorem walk (a0 : Int) (a1 : Int) (w : World) (b0 : (Lit.int .i64 a0).wf = true) (b1 : (Lit.int .i64 a1).wf = true) :
    Calls Try.prog 7 #[.int .i64 a0, .int .i64 a1] w fun e w' => e = .returned (.bool true) ∧ Below w.heap.size w w' := by
  obtain ⟨z, hz⟩ : ∃ r : Int, r = fCountPrimes.z a0 a1 := ⟨_, rfl⟩
  obtain ⟨ok, hok⟩ : ∃ r : Bool, r = fCountPrimes.ok a0 a1 := ⟨_, rfl⟩
  have HS : Hid (∀ (w : World), Calls Try.prog 28 #[.int .i64 a0, .int .i64 a1] w (fun e w' => e = .returned (.tuple #[.int .i64 z, .bool ok]) ∧ Below w.heap.size w w')) := fun w   => by rw [hz, hok]; exact fCountPrimes.spec_any  a0 b0 a1 b1
  have HI : Hid (∀ (w : World), Calls Try.prog 29 #[.int .i64 a0, .int .i64 a1] w (fun e w' => e = .returned (.tuple #[.int .i64 z, .bool ok]) ∧ Below w.heap.size w w')) := fun w   => by rw [hz, hok]; exact fCountPrimes.impl_any  a0 b0 a1 b1
  clear hz hok
  clear b0 b1
  have B0 : Hid (Below w.heap.size w w) := Below.refl _ _
  go_enter Try.func7, Try.ntmps7
  go_wp2_with fail
  refine (HS.out w  ).mono ?_
  rintro e w1 ⟨rfl, b⟩
  have Zw1 : Hid (w.heap.size ≤ w1.heap.size) := b.size
  replace B0 : Hid (Below w.heap.size w w1) := B0.out.trans (b.mono (Nat.le_refl _))
  clear b
  go_wp2_with fail
  refine (HI.out w1  ).mono ?_
  rintro e w2 ⟨rfl, b⟩
  have Zw2 : Hid (w1.heap.size ≤ w2.heap.size) := b.size
  replace B0 : Hid (Below w.heap.size w w2) := B0.out.trans (b.mono (by have := Zw1.out; omega))
  clear b
  go_wp2_with fail
  go_ret
  exact ⟨rfl, B0.out⟩
end Go.Proofs.Ytledglanaacaeac.fnExactCountPrimesW
