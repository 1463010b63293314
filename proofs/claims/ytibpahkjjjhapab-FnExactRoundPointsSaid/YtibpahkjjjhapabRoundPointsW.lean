/- The law FnExactRoundPoints: its walk. -/
import Derived.Test.YtibpahkjjjhapabRoundPointsF
namespace Go.Proofs.Ytibpahkjjjhapab.fnExactRoundPointsW
open Go.RowKit Go.Fl Go.Fa Go.Proofs.Ytibpahkjjjhapab.fls Go.Proofs.Ytibpahkjjjhapab.fRoundPoints

set_option maxHeartbeats 1600000 in
theorem walk (n : Int) (_wn : (Lit.int .i64 n).wf = true) (w : World) :
    Calls Try.prog 3 #[.int .i64 n] w fun e w' => e = .returned (.bool true) ∧ Below w.heap.size w w' := by
  have hS := spec_any n w
  have HI : Hid (∀ w, Calls Try.prog 8 #[.int .i64 n] w (FAns (len n) (ok n) (F n) w)) := fun w => impl_any n w
  have hn : len n ≤ 256 := len_le n
  clear _wn
  generalize len n = m at *
  generalize ok n = g at *
  generalize F n = FF at *
  unfold FAns at hS HI
  go_enter Try.func3, Try.ntmps3
  go_wp2_with fail
  refine hS.mono ?_
  rintro e w1 ⟨v1, L1, rfl, o1, l1, b1⟩
  obtain ⟨f1, lf1, ls1⟩ := l1.get
  have O1 : Hid (Fls w1 v1 m f1) := Fls.of_own (by omega) lf1 o1
  have B1 : Hid (Below w.heap.size w w1) := b1
  have S1 : Hid (∀ k, k < m → Sm .f32 (f1 k) (FF k)) := ls1
  clear o1 b1 hS lf1 ls1 l1
  go_wp2_with fail
  refine (HI.out w1).mono ?_
  rintro e w2 ⟨v2, L2, rfl, o2, l2, b2⟩
  obtain ⟨f2, lf2, ls2⟩ := l2.get
  have I1 : Hid (Fls w2 v1 m f1) := O1.out.below b2
  have I2 : Hid (Fls w2 v2 m f2) := Fls.of_own (by omega) lf2 o2
  have S12 : Hid (∀ k, k < m → Sm .f32 (f2 k) (f1 k)) := fun k hk => (ls2 k hk).trans (S1.out k hk).symm
  have O2 : Hid (w2.ownsRow w1.heap.size 42 1 v2 m L2) := o2
  have B2 : Hid (Below w1.heap.size w1 w2) := b2
  clear o2 b2 lf2 ls2 l2
  go_wp2_with fail
  refine (eqs_any I2.out I1.out S12.out).mono ?_
  rintro e w3 ⟨rfl, q3, rfl⟩
  have B3 : Hid (Below w1.heap.size w1 (w2.drewN q3)) := Go.Pst.below_drewN B2.out _
  have O3 : Hid ((w2.drewN q3).ownsRow w1.heap.size 42 1 v2 m L2) := O2.out
  clear I1 I2 O2 B2 S12
  generalize hw3 : w2.drewN q3 = w3 at *
  clear hw3
  go_wp2_with fail
  refine (mark_any O3.out hn B3.out.size).mono ?_
  rintro e w4 ⟨rfl, i4, b4⟩
  have I4 : Hid (Fls w4 v2 m (fun j => fi ((j : Int) + 1))) := i4
  have B4 : Hid (Below w1.heap.size w1 w4) := B3.out.trans b4
  have B04 : Hid (Below w.heap.size w w4) := B1.out.trans (B4.out.mono B1.out.size)
  have I14 : Hid (Fls w4 v1 m f1) := O1.out.below B4.out
  clear i4 b4 O3 B3
  go_wp2_with fail
  refine (held_any I4.out hn).mono ?_
  rintro e w5 ⟨rfl, hw5⟩
  rw [hw5]
  clear hw5
  go_wp2_with fail
  refine (HI.out w4).mono ?_
  rintro e w6 ⟨v6, L6, rfl, o6, l6, b6⟩
  obtain ⟨f6, lf6, ls6⟩ := l6.get
  have I16 : Hid (Fls w6 v1 m f1) := I14.out.below b6
  have I6 : Hid (Fls w6 v6 m f6) := Fls.of_own (by omega) lf6 o6
  have S16 : Hid (∀ k, k < m → Sm .f32 (f6 k) (f1 k)) := fun k hk => (ls6 k hk).trans (S1.out k hk).symm
  have I46 : Hid (Fls w6 v2 m (fun j => fi ((j : Int) + 1))) := I4.out.below b6
  have B6 : Hid (Below w.heap.size w w6) := B04.out.trans (b6.mono B04.out.size)
  clear o6 b6 I14 I4 B4 B04 lf6 ls6 l6
  go_wp2_with fail
  refine (eqs_any I6.out I16.out S16.out).mono ?_
  rintro e w7 ⟨rfl, q7, rfl⟩
  have B7 : Hid (Below w.heap.size w (w6.drewN q7)) := Go.Pst.below_drewN B6.out _
  have I7 : Hid (Fls (w6.drewN q7) v2 m (fun j => fi ((j : Int) + 1))) := I46.out
  clear I6 I16 I46 B6 S16
  generalize hw7 : w6.drewN q7 = w7 at *
  clear hw7
  go_wp2_with fail
  refine (held_any I7.out hn).mono ?_
  rintro e w8 ⟨rfl, hw8⟩
  rw [hw8]
  clear hw8
  go_wp2_with fail
  go_ret
  exact ⟨rfl, B7.out⟩
end Go.Proofs.Ytibpahkjjjhapab.fnExactRoundPointsW
