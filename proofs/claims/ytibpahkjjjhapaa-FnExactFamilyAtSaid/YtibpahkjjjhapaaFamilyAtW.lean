/- FamilyAt and its model return the same of every kind, n and number. -/
import Derived.Test.YtibpahkjjjhapaaFamilyRowF
namespace Go.Proofs.Ytibpahkjjjhapaa.fnExactFamilyAtW
open Go.RowKit Go.Fl Go.Fa Go.Proofs.Ytibpahkjjjhapaa.fls Go.Proofs.Ytibpahkjjjhapaa.fa Go.Proofs.Ytibpahkjjjhapaa.fFamilyRow Go.Proofs.Ytibpahkjjjhapaa.sameFloat

/-- the last value, if all are finite -/
def Post (k n : Int) (x : Nat) (w : World) (e : Ending) (w' : World) : Prop :=
  ∃ b, e = .returned (.tuple #[.float .f32 b, .bool (ok k n x)]) ∧ Sm .f32 b (if ok k n x = true then F k n x n.toNat else 0) ∧ Below w.heap.size w w'

theorem last_any {v : Value} {n : Nat} {f : Nat → Nat} {w : World} (h : Fls w v n f) (h0 : 0 < n) : Calls Try.prog 24 #[v] w fun e w' => e = .returned (.float .f32 (f (n - 1))) ∧ w' = w := by
  obtain ⟨ao, cap, rfl, hn, hc⟩ := h
  obtain ⟨b, off, rfl, _, hcell⟩ := hc (by omega)
  have e1 : w.cell? ⟨b, off + (n - 1), none⟩ = some (.float .f32 (f (n - 1))) := hcell (n - 1) (by omega)
  have q2 : ((n : Int) - 1).toNat = n - 1 := by omega
  clear hc hcell
  generalize f (n - 1) = z at *
  go_enter Try.func24, Try.ntmps24
  go_wp2
  go_ret
  exact ⟨rfl, rfl⟩

theorem impl_any (k n : Int) (x : Nat) (w : World) : Calls Try.prog 11 #[.int .i64 k, .int .i64 n, .float .f32 x] w (Post k n x w) := by
  cases hv : ok k n x with
  | false =>
    have hR := fFamilyRow.impl_any k n x w
    have HV : Hid (ok k n x = false) := hv
    unfold FAns at hR
    rw [hv] at hR
    clear hv
    go_enter Try.func11, Try.ntmps11
    go_wp2_with fail
    refine hR.mono ?_
    rintro e w1 ⟨v1, L1, rfl, o1, l1, b1⟩
    have B1 : Hid (Below w.heap.size w w1) := b1
    clear o1 b1 l1 hR
    go_wp2_with fail
    go_ret2
    exact ⟨0, (by rw [HV.out]; rfl), by rw [HV.out]; exact Sm.refl _ _, B1.out⟩
  | true =>
    have hR := fFamilyRow.impl_any k n x w
    have HV : Hid (ok k n x = true) := hv
    have HL : Hid (len k n x = n.toNat + 1 ∧ n.toNat ≤ 16 ∧ n = (n.toNat : Int)) := yes_len hv
    unfold FAns at hR
    rw [hv, HL.out.1] at hR
    clear hv
    go_enter Try.func11, Try.ntmps11
    go_wp2_with fail
    refine hR.mono ?_
    rintro e w1 ⟨v1, L1, rfl, o1, l1, b1⟩
    obtain ⟨f1, lf1, ls1⟩ := l1.get
    have O1 : Hid (Fls w1 v1 (n.toNat + 1) f1) := Fls.of_own (by have := HL.out.2.1; omega) lf1 o1
    have B1 : Hid (Below w.heap.size w w1) := b1
    have S1 : Hid (Sm .f32 (f1 n.toNat) (F k n x n.toNat)) := ls1 n.toNat (by omega)
    clear o1 b1 l1 lf1 ls1 hR
    go_wp2_with fail
    refine (last_any O1.out (by omega)).mono ?_
    rintro e w2 ⟨rfl, hw⟩
    rw [hw]
    clear hw
    go_wp2_with fail
    go_ret2
    exact ⟨_, (by rw [HV.out]; rfl), by rw [HV.out]; exact S1.out, B1.out⟩

theorem spec_any (k n : Int) (x : Nat) (w : World) : Calls Try.prog 10 #[.int .i64 k, .int .i64 n, .float .f32 x] w (Post k n x w) := by
  cases hv : ok k n x with
  | false =>
    have hR := fFamilyRow.spec_any k n x w
    have HV : Hid (ok k n x = false) := hv
    unfold FAns at hR
    rw [hv] at hR
    clear hv
    go_enter Try.func10, Try.ntmps10
    go_wp2_with fail
    refine hR.mono ?_
    rintro e w1 ⟨v1, L1, rfl, o1, l1, b1⟩
    have B1 : Hid (Below w.heap.size w w1) := b1
    clear o1 b1 l1 hR
    go_wp2_with fail
    go_ret2
    exact ⟨0, (by rw [HV.out]; rfl), by rw [HV.out]; exact Sm.refl _ _, B1.out⟩
  | true =>
    have hR := fFamilyRow.spec_any k n x w
    have HV : Hid (ok k n x = true) := hv
    have HL : Hid (len k n x = n.toNat + 1 ∧ n.toNat ≤ 16 ∧ n = (n.toNat : Int)) := yes_len hv
    unfold FAns at hR
    rw [hv, HL.out.1] at hR
    obtain ⟨j, hj⟩ : ∃ j, j = n.toNat := ⟨_, rfl⟩
    have hnj : n = (j : Int) := by rw [hj]; exact HL.out.2.2
    have hj16 : j ≤ 16 := by rw [hj]; exact HL.out.2.1
    rw [← hj] at hR
    have HJ : Hid (j = n.toNat) := hj
    clear hv hj
    subst hnj
    go_enter Try.func10, Try.ntmps10
    go_wp2_with fail
    refine hR.mono ?_
    rintro e w1 ⟨v1, L1, rfl, o1, l1, b1⟩
    obtain ⟨f1, lf1, ls1⟩ := l1.get
    have O1 : Hid (Fls w1 v1 (j + 1) f1) := Fls.of_own (by omega) lf1 o1
    have B1 : Hid (Below w.heap.size w w1) := b1
    have S1 : Hid (Sm .f32 (f1 j) (F k j x j)) := ls1 j (by omega)
    clear o1 b1 l1 lf1 ls1 hR
    obtain ⟨ao, cap, rfl, hn, hc⟩ := O1.out
    obtain ⟨b, off, rfl, _, hcell⟩ := hc (by omega)
    have e1 : w1.cell? ⟨b, off + j, none⟩ = some (.float .f32 (f1 j)) := hcell j (by omega)
    clear hc hcell O1
    generalize f1 j = z at *
    go_wp2_with fail
    go_ret2
    exact ⟨_, (by rw [HV.out]; rfl), by rw [HV.out, if_pos rfl]; exact S1.out, B1.out⟩

theorem walk (k n : Int) (x : Nat) (_wk : (Lit.int .i64 k).wf = true) (_wn : (Lit.int .i64 n).wf = true) (_wx : (Lit.float .f32 x).wf = true) (w : World) : Calls Try.prog 4 #[.int .i64 k, .int .i64 n, .float .f32 x] w fun e w' => e = .returned (.bool true) ∧ Below w.heap.size w w' := by
  have huf : (Try.prog.underlying 22).isSome = true := by rw [Try.underlying22]; rfl
  go_enter Try.func4, Try.ntmps4
  go_wp2_with fail
  refine (spec_any k n x _).mono ?_
  rintro e w1 ⟨a, rfl, sa, b1⟩
  have SA : Hid (Sm .f32 a (if ok k n x = true then F k n x n.toNat else 0)) := sa
  have B1 : Hid (Below w.heap.size w w1) := b1
  clear b1 sa
  go_wp2_with fail
  refine (impl_any k n x _).mono ?_
  rintro e w2 ⟨b, rfl, sb, b2⟩
  have SB : Hid (Sm .f32 b a) := sb.trans SA.out.symm
  have B2 : Hid (Below w.heap.size w w2) := B1.out.trans (b2.mono B1.out.size)
  clear b2 B1 SA sb
  generalize ok k n x = g at *
  have hxy : ∀ x y, Sm .f64 x (cv .f32 .f64 b) → Sm .f64 y (cv .f32 .f64 a) → Sm .f64 x y := fun x y h h' => by
    rw [cv_congr (by decide) SB.out] at h
    exact h.trans h'.symm
  go_wp2_with (first | (refine wpList_cv rfl 22 26 _ rfl .f32 .f64 (by decide) _ rfl huf Try.underlying26 (fits_wide _) ?_; intro x q hr hw) | (go_at_call 9; refine (same_any _ _ (hxy _ _ (by assumption) (by assumption)) _).mono ?_; rintro e w' ⟨rfl, q, rfl⟩))
  go_ret
  refine ⟨rfl, ?_⟩
  repeat' first | exact B2.out | refine Go.Pst.below_drewN ?_ _
end Go.Proofs.Ytibpahkjjjhapaa.fnExactFamilyAtW
