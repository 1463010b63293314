/- Values with slopes: what both sides tell; marks from any number on. -/
import Derived.Test.YtibpahkjjjhapabEvP
import Derived.Test.YtibpahkjjjhapabFaW
import Derived.Test.YtibpahkjjjhapabFlm
import Derived.Test.YtibpahkjjjhapabRoundPointsF
import Derived.BigQuiet
import Derived.RegionTactic
import Derived.Deep.RegionWith
namespace Go.Proofs.Ytibpahkjjjhapab.ev
open Go.RowKit Go.Fl Go.Fa Go.Proofs.Ytibpahkjjjhapab.cos Go.Proofs.Ytibpahkjjjhapab.fls Go.Proofs.Ytibpahkjjjhapab.fin Go.Proofs.Ytibpahkjjjhapab.fa

/-- a value and a slope -/
def SlAns (n x : Nat) (w : World) (e : Ending) (w' : World) : Prop :=
  ∃ p s, e = .returned (.tuple #[.float .f32 p, .float .f32 s]) ∧ Sm .f32 p (Fa.fr 2 x n).1 ∧ Sm .f32 s (slp n x) ∧ Below w.heap.size w w'

set_option maxHeartbeats 1600000 in
theorem sslope_any (n b x : Nat) (h : Sm .f32 b x) (h1 : 1 ≤ n) (h8 : n ≤ 8) (w : World) : Calls Try.prog 32 #[.int .i64 n, .float .f32 b] w (SlAns n x w) := by
  have hr := srow_any 2 n b (by omega) (by omega) w
  unfold VAns at hr
  have hc0 := rnd.conv_oi (n : Int)
  have HX : Hid (∀ p q r1 r2 r3 r4 r5 r6, Sm .f32 p (fv 2 b n) → Sm .f32 q (fv 2 b (n - 1)) → Sm .f32 r1 (ar .mul .f32 b p) → Sm .f32 r2 (ar .sub .f32 r1 q) → Sm .f32 r3 (ar .mul .f32 (oi (n : Int)) r2) → Sm .f32 r4 (ar .mul .f32 b b) → Sm .f32 r5 (ar .sub .f32 r4 1065353216) → Sm .f32 r6 (ar .quo .f32 r3 r5) → Sm .f32 p (Fa.fr 2 x n).1 ∧ Sm .f32 r6 (slp n x)) := by
    intro p q r1 r2 r3 r4 r5 r6 hp hq g1 g2 g3 g4 g5 g6
    rw [← fr_congr h, ← slp_congr h]
    refine ⟨hp, ?_⟩
    unfold slp
    rw [fr_before 2 b n (by omega)]
    rw [ar_congr (Sm.refl _ _) hp] at g1
    rw [ar_congr g1 hq] at g2
    rw [ar_congr (Sm.refl _ _) g2] at g3
    rw [ar_congr g4 (Sm.refl _ _)] at g5
    rw [ar_congr g3 g5] at g6
    exact g6
  obtain ⟨zn, hzn⟩ : ∃ z, z = oi (n : Int) := ⟨_, rfl⟩
  rw [← hzn] at hc0 HX
  clear hzn h
  go_enter Try.func32, Try.ntmps32
  go_wp2_with fail
  refine hr.mono ?_
  rintro e w1 ⟨g, cap, L, rfl, o1, l1, b1⟩
  obtain ⟨f1, lf1, ls1⟩ := l1.get
  have e1 : w1.cell? ⟨g, n, none⟩ = some (.float .f32 (f1 n)) := (o1.cellAt n (by omega)).trans (lf1 n (by omega))
  have e2 : w1.cell? ⟨g, n - 1, none⟩ = some (.float .f32 (f1 (n - 1))) := (o1.cellAt (n - 1) (by omega)).trans (lf1 (n - 1) (by omega))
  have P1 : Hid (Sm .f32 (f1 n) (fv 2 b n)) := ls1 n (by omega)
  have Q1 : Hid (Sm .f32 (f1 (n - 1)) (fv 2 b (n - 1))) := ls1 (n - 1) (by omega)
  have B1 : Hid (Below w.heap.size w w1) := b1
  have q2 : ((n : Int) - 1).toNat = n - 1 := by omega
  have i1 : (0 : Int) ≤ (n : Int) := by omega
  have i2 : (n : Int) < (n : Int) + 1 := by omega
  clear o1 l1 b1 lf1 ls1 hr
  generalize f1 n = p at *
  generalize f1 (n - 1) = q at *
  go_wp2_with (first | (refine wpList_ar rfl .mul 42 42 _ _ rfl (by simp) .f32 _ _ rfl rfl ?_; intro s n3 hm hwm) | (refine wpList_ar rfl .sub 42 42 _ _ rfl (by simp) .f32 _ _ rfl rfl ?_; intro s n3 hm hwm) | (refine wpList_ar rfl .quo 42 42 _ _ rfl (by simp) .f32 _ _ rfl rfl ?_; intro s n3 hm hwm))
  go_ret2
  obtain ⟨ha, hb⟩ := HX.out _ _ _ _ _ _ _ _ P1.out Q1.out (by assumption) (by assumption) (by assumption) (by assumption) (by assumption) (by assumption)
  exact ⟨_, _, rfl, ha, hb, Go.Pst.below_drewN B1.out _⟩

set_option maxHeartbeats 1600000 in
theorem islope_any (n b x : Nat) (h : Sm .f32 b x) (h1 : 1 ≤ n) (h8 : n ≤ 8) (w : World) : Calls Try.prog 33 #[.int .i64 n, .float .f32 b] w (SlAns n x w) := by
  have hr := irow_any 2 n b (by omega) (by omega) w
  unfold VAns at hr
  have hc0 := rnd.conv_oi (n : Int)
  have HX : Hid (∀ p q r1 r2 r3 r4 r5 r6, Sm .f32 p (fv 2 b n) → Sm .f32 q (fv 2 b (n - 1)) → Sm .f32 r1 (ar .mul .f32 b p) → Sm .f32 r2 (ar .sub .f32 r1 q) → Sm .f32 r3 (ar .mul .f32 (oi (n : Int)) r2) → Sm .f32 r4 (ar .mul .f32 b b) → Sm .f32 r5 (ar .sub .f32 r4 1065353216) → Sm .f32 r6 (ar .quo .f32 r3 r5) → Sm .f32 p (Fa.fr 2 x n).1 ∧ Sm .f32 r6 (slp n x)) := by
    intro p q r1 r2 r3 r4 r5 r6 hp hq g1 g2 g3 g4 g5 g6
    rw [← fr_congr h, ← slp_congr h]
    refine ⟨hp, ?_⟩
    unfold slp
    rw [fr_before 2 b n (by omega)]
    rw [ar_congr (Sm.refl _ _) hp] at g1
    rw [ar_congr g1 hq] at g2
    rw [ar_congr (Sm.refl _ _) g2] at g3
    rw [ar_congr g4 (Sm.refl _ _)] at g5
    rw [ar_congr g3 g5] at g6
    exact g6
  obtain ⟨zn, hzn⟩ : ∃ z, z = oi (n : Int) := ⟨_, rfl⟩
  rw [← hzn] at hc0 HX
  clear hzn h
  go_enter Try.func33, Try.ntmps33
  go_wp2_with fail
  refine hr.mono ?_
  rintro e w1 ⟨g, cap, L, rfl, o1, l1, b1⟩
  obtain ⟨f1, lf1, ls1⟩ := l1.get
  have e1 : w1.cell? ⟨g, n, none⟩ = some (.float .f32 (f1 n)) := (o1.cellAt n (by omega)).trans (lf1 n (by omega))
  have e2 : w1.cell? ⟨g, n - 1, none⟩ = some (.float .f32 (f1 (n - 1))) := (o1.cellAt (n - 1) (by omega)).trans (lf1 (n - 1) (by omega))
  have P1 : Hid (Sm .f32 (f1 n) (fv 2 b n)) := ls1 n (by omega)
  have Q1 : Hid (Sm .f32 (f1 (n - 1)) (fv 2 b (n - 1))) := ls1 (n - 1) (by omega)
  have B1 : Hid (Below w.heap.size w w1) := b1
  have q2 : ((n : Int) - 1).toNat = n - 1 := by omega
  have i1 : (0 : Int) ≤ (n : Int) := by omega
  have i2 : (n : Int) < (n : Int) + 1 := by omega
  have i3 : (0 : Int) ≤ (n : Int) - 1 := by omega
  have i4 : (n : Int) - 1 < (n : Int) + 1 := by omega
  have w1' : IntKind.i64.wrap ((n : Int) - 1) = (n : Int) - 1 := IntWalk.i64_in _ (by omega)
  clear o1 l1 b1 lf1 ls1 hr
  generalize f1 n = p at *
  generalize f1 (n - 1) = q at *
  go_wp2_with fail
  go_quiet (fail)
  go_wp2_with (first | (refine wpList_ar rfl .mul 42 42 _ _ rfl (by simp) .f32 _ _ rfl rfl ?_; intro s n3 hm hwm) | (refine wpList_ar rfl .sub 42 42 _ _ rfl (by simp) .f32 _ _ rfl rfl ?_; intro s n3 hm hwm) | (refine wpList_ar rfl .quo 42 42 _ _ rfl (by simp) .f32 _ _ rfl rfl ?_; intro s n3 hm hwm))
  go_ret2
  obtain ⟨ha, hb⟩ := HX.out _ _ _ _ _ _ _ _ P1.out Q1.out (by assumption) (by assumption) (by assumption) (by assumption) (by assumption) (by assumption)
  exact ⟨_, _, rfl, ha, hb, (by repeat' first | exact B1.out | refine Go.Pst.below_drewN ?_ _)⟩
end Go.Proofs.Ytibpahkjjjhapab.ev
