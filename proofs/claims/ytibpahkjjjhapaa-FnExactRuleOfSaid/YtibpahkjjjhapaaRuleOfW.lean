/- RuleOf and its model return the same of every kind and every n. -/
import Derived.Test.YtibpahkjjjhapaaFaR
import Derived.Test.YtibpahkjjjhapaaSameFloatW
import Derived.Deep.RegionWith
import Derived.Deep.QuietTactic
import Derived.BigQuiet
import Derived.RegionTactic
import Derived.Deep.RegionHeld3
namespace Go.Proofs.Ytibpahkjjjhapaa.fnExactRuleOfW
open Go.RowKit Go.Fl Go.Fa Go.Proofs.Ytibpahkjjjhapaa.fa Go.Proofs.Ytibpahkjjjhapaa.sameFloat

def A (f : Nat → Nat → Nat) (k n : Int) : Nat := if inF k n = true then f k.toNat n.toNat else 0
def Post (k n : Int) (w : World) (e : Ending) (w' : World) : Prop := e = .returned (.tuple #[.float .f32 (A ra k n), .float .f32 (A rb k n), .float .f32 (A rc k n), .bool (inF k n)]) ∧ Below w.heap.size w w'
theorem post_no {k n : Int} (h : inF k n = false) {w w' : World} (hb : Below w.heap.size w w') : Post k n w (.returned (.tuple #[.float .f32 0, .float .f32 0, .float .f32 0, .bool false])) w' := by
  have e : ∀ f, A f k n = 0 := fun f => if_neg (by rw [h]; decide)
  unfold Post
  rw [e, e, e, h]
  exact ⟨rfl, hb⟩
theorem post_yes {k n : Nat} (h : inF k n = true) {w w' : World} (hb : Below w.heap.size w w') : Post k n w (.returned (.tuple #[.float .f32 (ra k n), .float .f32 (rb k n), .float .f32 (rc k n), .bool true])) w' := by
  have e : ∀ f, A f k n = f k n := fun f => by unfold A; rw [if_pos h, Int.toNat_natCast, Int.toNat_natCast]
  unfold Post
  rw [e, e, e, h]
  exact ⟨rfl, hb⟩
theorem in_nat {k n : Int} (h : inF k n = true) : ∃ a b : Nat, k = a ∧ n = b ∧ a ≤ 4 ∧ b ≤ 16 := by
  have h' : 0 ≤ k ∧ k ≤ 4 ∧ 0 ≤ n ∧ n ≤ 16 := of_decide_eq_true h
  exact ⟨k.toNat, n.toNat, by omega, by omega, by omega, by omega⟩

theorem spec_any (k n : Int) (w : World) : Calls Try.prog 7 #[.int .i64 k, .int .i64 n] w (Post k n w) := by
  cases hv : inF k n with
  | false =>
    have HV : Hid (inF k n = false) := hv
    clear hv
    go_enter Try.func7, Try.ntmps7
    go_wp2_with fail
    refine (sin_any _ _ _).mono ?_
    rintro e w1 ⟨rfl, hw⟩
    rw [hw, HV.out]
    clear hw
    go_wp2_with fail
    go_returns
    exact post_no HV.out (Below.refl _ _)
  | true =>
    obtain ⟨k, n, rfl, rfl, hk, hn⟩ := in_nat hv
    have HV : Hid (inF k n = true) := hv
    clear hv
    go_enter Try.func7, Try.ntmps7
    go_wp2_with fail
    refine (sin_any _ _ _).mono ?_
    rintro e w1 ⟨rfl, hw⟩
    rw [hw, HV.out]
    clear hw
    go_wp2_with fail
    refine (srule_any k n hk (by omega) _).mono ?_
    rintro e w1 ⟨rfl, hw⟩
    rw [hw]
    clear hw
    go_wp2_with fail
    go_returns
    exact post_yes HV.out (Below.refl _ _)
theorem impl_any (k n : Int) (w : World) : Calls Try.prog 8 #[.int .i64 k, .int .i64 n] w (Post k n w) := by
  cases hv : inF k n with
  | false =>
    have HV : Hid (inF k n = false) := hv
    clear hv
    go_enter Try.func8, Try.ntmps8
    go_wp2_with fail
    refine (iin_any _ _ _).mono ?_
    rintro e w1 ⟨rfl, hw⟩
    rw [hw, HV.out]
    clear hw
    go_wp2_with fail
    go_returns
    exact post_no HV.out (Below.refl _ _)
  | true =>
    obtain ⟨k, n, rfl, rfl, hk, hn⟩ := in_nat hv
    have HV : Hid (inF k n = true) := hv
    clear hv
    go_enter Try.func8, Try.ntmps8
    go_wp2_with fail
    refine (iin_any _ _ _).mono ?_
    rintro e w1 ⟨rfl, hw⟩
    rw [hw, HV.out]
    clear hw
    go_wp2_with fail
    refine (irule_any k n hk (by omega) _).mono ?_
    rintro e w1 ⟨rfl, b1⟩
    have B1 : Hid (Below w.heap.size w w1) := b1
    clear b1
    have hs0 := st0 w1
    have hs1 := st1 w1
    have hs2 := st2 w1
    go_wp2_with fail
    clear hs0 hs1 hs2
    obtain ⟨w2, hw2⟩ : ∃ x, x = w1.alloc (.cells #[.float .f32 (ra k n), .float .f32 (rb k n), .float .f32 (rc k n)] 42) := ⟨_, rfl⟩
    have g0 : w2.heap[w1.heap.size]? = some (.cells #[.float .f32 (ra k n), .float .f32 (rb k n), .float .f32 (rc k n)] 42 (0, 0)) := by rw [hw2]; exact heap_alloc_new w1 _
    have c0 : w2.cell? ⟨w1.heap.size, 0, none⟩ = some (.float .f32 (ra k n)) := by rw [cell_of_row _ _ 0 _ _ _ g0]; rfl
    have c1 : w2.cell? ⟨w1.heap.size, 1, none⟩ = some (.float .f32 (rb k n)) := by rw [cell_of_row _ _ 1 _ _ _ g0]; rfl
    have c2 : w2.cell? ⟨w1.heap.size, 2, none⟩ = some (.float .f32 (rc k n)) := by rw [cell_of_row _ _ 2 _ _ _ g0]; rfl
    have B2 : Hid (Below w.heap.size w w2) := by show Below _ _ _; rw [hw2]; exact B1.out.alloc B1.out.size _
    rw [← hw2]
    clear hw2 g0 B1
    have P2 : ∀ m, Hid (Post k n w (.returned (.tuple #[.float .f32 (ra k n), .float .f32 (rb k n), .float .f32 (rc k n), .bool true])) (w2.drewN m)) := fun m => post_yes HV.out (Go.Pst.below_drewN B2.out m)
    have P0 : Hid (Post k n w (.returned (.tuple #[.float .f32 (ra k n), .float .f32 (rb k n), .float .f32 (rc k n), .bool true])) w2) := post_yes HV.out B2.out
    generalize ra k n = za at *
    generalize rb k n = zb at *
    generalize rc k n = zc at *
    go_quiet (fail)
    go_wp2_with fail
    go_returns
    first | exact P0.out | exact (P2 _).out


theorem walk (k n : Int) (_wk : (Lit.int .i64 k).wf = true) (_wn : (Lit.int .i64 n).wf = true) (w : World) : Calls Try.prog 3 #[.int .i64 k, .int .i64 n] w fun e w' => e = .returned (.bool true) ∧ Below w.heap.size w w' := by
  have huf : (Try.prog.underlying 22).isSome = true := by rw [Try.underlying22]; rfl
  go_enter Try.func3, Try.ntmps3
  go_wp2_with fail
  refine (spec_any k n _).mono ?_
  rintro e w1 ⟨rfl, b1⟩
  have B1 : Hid (Below w.heap.size w w1) := b1
  clear b1
  go_wp2_with fail
  refine (impl_any k n _).mono ?_
  rintro e w2 ⟨rfl, b2⟩
  have B2 : Hid (Below w.heap.size w w2) := B1.out.trans (b2.mono B1.out.size)
  clear b2 B1
  generalize A ra k n = a at *
  generalize A rb k n = b at *
  generalize A rc k n = c at *
  generalize inF k n = g at *
  go_wp2_with (first | (refine wpList_cvw rfl 22 26 _ rfl .f32 .f64 (by decide) _ rfl huf Try.underlying26 (fits_wide _) ?_; intro x q hr hw) | (refine wpList_cv rfl 22 26 _ rfl .f32 .f64 (by decide) _ rfl huf Try.underlying26 (fits_wide _) ?_; intro x q hr hw) | (go_at_call 9; refine (same_any _ _ (Sm.trans (by assumption) (Sm.symm (by assumption))) _).mono ?_; rintro e w' ⟨rfl, q, rfl⟩))
  go_ret
  refine ⟨rfl, ?_⟩
  repeat' first | exact B2.out | refine Go.Pst.below_drewN ?_ _
end Go.Proofs.Ytibpahkjjjhapaa.fnExactRuleOfW
