/- Products over primes: the program's half; what a whole over a prime gives. -/
import Derived.Test.YtfhcfeafohcjpaaFnO
import Derived.Test.YtfhcfeafohcjpaaFnP
namespace Go.Pl
theorem over_val {L : List Int} {p : Int} (h : over L p = true) : isP p = true ∧ Val L ∧ inR 0 (p - 1) L := by
  unfold over at h
  simp only [Bool.and_eq_true, decide_eq_true_eq] at h
  exact ⟨h.1, val_iff.1 h.2.1, h.2.2⟩
theorem over_bd {a b : List Int} {p : Int} (ha : inR 0 (p - 1) a) (hb : inR 0 (p - 1) b) (hp : 2 ≤ p ∧ p ≤ 13) (i k : Nat) : -1000000000000 ≤ at' a i * at' b k ∧ at' a i * at' b k ≤ 1000000000000 := by
  have := mul_le (A := 12) (B := 12) (by have := ha.at (by omega) (by omega) i; omega) (by have := hb.at (by omega) (by omega) k; omega) (a := at' a i) (b := at' b k)
  omega
end Go.Pl
namespace Go.Proofs.Ytfhcfeafohcjpaa.wh
open Go.RowKit Go.Pl

set_option maxRecDepth 100000 in
theorem pover_any {va vb : Value} {A B : List Int} {w : World} (ha : Ls w va A) (hb : Ls w vb B) (hA : 1 ≤ A.length ∧ A.length ≤ 40) (hB : 1 ≤ B.length ∧ B.length ≤ 40) (hM : ∀ i k, -1000000000000 ≤ at' A i * at' B k ∧ at' A i * at' B k ≤ 1000000000000) (p : Int) (hp : 1 ≤ p ∧ p ≤ 1000000) :
    Calls Try.prog 65 #[va, vb, .int .i64 p] w fun e w' => ∃ v', e = .returned v' ∧ Own w' w.heap.size w'.heap.size v' (trim (mods (prod A B) p)) ∧ Below w.heap.size w w' := by
  have HC := prod_any ha hb hA hB hM
  have HL : Hid (prod A B ≠ [] ∧ (prod A B).length ≤ 1000) := ⟨prod_ne hA.1 hB.1, by rw [prod_len]; omega⟩
  obtain ⟨ao, cap, rfl⟩ := ha.shape
  obtain ⟨bo, cap1, rfl⟩ := hb.shape
  clear ha hb hA hB hM
  go_enter Try.func65, Try.ntmps65
  go_wp2_with fail
  refine HC.mono ?_
  rintro e w1 ⟨v1, rfl, o, b⟩
  obtain ⟨ao1, cap1, rfl⟩ := o.shape
  have O1 : Hid (Ls w1 (.slice ao1 (prod A B).length cap1) (prod A B)) := o.ls (Nat.le_refl _)
  have B1 : Hid (Below w.heap.size w w1) := b
  clear o b HC
  go_wp2_with fail
  refine (tover_any O1.out HL.out.1 HL.out.2 p hp).mono ?_
  rintro e w2 ⟨v2, rfl, o, b⟩
  have O2 : Hid (Own w2 w.heap.size w2.heap.size v2 (trim (mods (prod A B) p))) := o.wide B1.out.size (Nat.le_refl _)
  have B2 : Hid (Below w.heap.size w w2) := B1.out.trans (b.mono B1.out.size)
  clear o b
  go_wp2_with fail
  go_ret
  exact ⟨_, rfl, O2.out, B2.out⟩
end Go.Proofs.Ytfhcfeafohcjpaa.wh
