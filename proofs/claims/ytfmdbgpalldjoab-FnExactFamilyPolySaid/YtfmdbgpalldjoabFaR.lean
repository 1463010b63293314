/- The rules of families: what both sides tell. -/
import Derived.Test.YtfmdbgpalldjoabRows
import Derived.WalkKit
import Derived.WalkLawsBesides
import Derived.Deep.Draws
import Derived.OwnWalk
import Derived.Handy
import Derived.Test.YtfmdbgpalldjoabFaP
import Derived.Test.YtfmdbgpalldjoabPost
namespace Go.Proofs.Ytfmdbgpalldjoab.fa
open Go.RowKit Go.Fl Go.Fa

theorem conv_oi (x : Int) (w : World) : (convert 2 31 (.int .i64 x)).run Try.prog w = .ok (.float .f32 (oi x)) w :=
  run_convert_int_float w 2 31 .i64 .f32 x (by rw [Try.underlying2]; rfl) Try.underlying31

/-- a number into a block that was made last -/
theorem store_new (w : World) (c : Array Value) (t : TypeId) (i b : Nat) (hi : i < c.size) : (store ⟨w.heap.size, i, none⟩ (.float .f32 b)).run Try.prog (w.alloc (.cells c t)) = .ok () (w.alloc (.cells (c.setIfInBounds i (.float .f32 b)) t)) := by
  have h := heap_alloc_new w (.cells c t (0, 0))
  have hc : (w.alloc (.cells c t)).cell? ⟨w.heap.size, i, none⟩ = some c[i] := by rw [cell_of_row _ _ _ _ _ _ h]; exact Array.getElem?_eq_getElem hi
  have hf : (w.alloc (.cells c t)).frozen? ⟨w.heap.size, i, none⟩ = false := World.frozen?_alloc_new w c t i
  rw [run_store _ _ _ _ _ rfl, hc]
  simp only [hf]
  rw [World.setCell_alloc_new]
  rfl
theorem st0 (w : World) : ∀ (b : Nat) (x y z : Value), (store ⟨w.heap.size, 0, none⟩ (.float .f32 b)).run Try.prog (w.alloc (.cells #[x, y, z] 57)) = .ok () (w.alloc (.cells #[.float .f32 b, y, z] 57)) := fun b x y z => store_new w #[x, y, z] 57 0 b (by simp)
theorem st1 (w : World) : ∀ (b : Nat) (x y z : Value), (store ⟨w.heap.size, 1, none⟩ (.float .f32 b)).run Try.prog (w.alloc (.cells #[x, y, z] 57)) = .ok () (w.alloc (.cells #[x, .float .f32 b, z] 57)) := fun b x y z => store_new w #[x, y, z] 57 1 b (by simp)
theorem st2 (w : World) : ∀ (b : Nat) (x y z : Value), (store ⟨w.heap.size, 2, none⟩ (.float .f32 b)).run Try.prog (w.alloc (.cells #[x, y, z] 57)) = .ok () (w.alloc (.cells #[x, y, .float .f32 b] 57)) := fun b x y z => store_new w #[x, y, z] 57 2 b (by simp)
/-- what tells a rule -/
def RuleI (k n : Nat) (w : World) (e : Ending) (w' : World) : Prop := e = .returned (.agg #[.float .f32 (ra k n), .float .f32 (rb k n), .float .f32 (rc k n)]) ∧ Below w.heap.size w w'

theorem irule_any (k n : Nat) (hk : k ≤ 4) (hn : n ≤ 17) (w : World) : Calls Try.prog 32 #[.int .i64 k, .int .i64 n] w (RuleI k n w) := by
  have hop1 : ∀ t w, (binOp .quo t (.float .f32 (oi (2 * (n : Int) + 1))) (.float .f32 (oi ((n : Int) + 1)))).run Try.prog w = .ok (.float .f32 (ra 2 n)) w := fun t w => run_float_arith w .quo t .f32 _ _ _ (q_odd n (by omega))
  have hop2 : ∀ t w, (binOp .quo t (.float .f32 3212836864) (.float .f32 (oi ((n : Int) + 1)))).run Try.prog w = .ok (.float .f32 (ra 4 n)) w := fun t w => run_float_arith w .quo t .f32 _ _ _ (q_neg n (by omega))
  have hop3 : ∀ t w, (binOp .quo t (.float .f32 (oi (n : Int))) (.float .f32 (oi ((n : Int) + 1)))).run Try.prog w = .ok (.float .f32 (rc 2 n)) w := fun t w => run_float_arith w .quo t .f32 _ _ _ (q_cnt n (by omega))
  have hs0 := st0 w
  have hs1 := st1 w
  have hs2 := st2 w
  have hc1 := conv_oi (n : Int)
  have hc2 := conv_oi ((n : Int) + 1)
  have hc3 := conv_oi (2 * (n : Int) + 1)
  have e3 : rc 3 n = oi (n : Int) := rfl
  have e4 : rb 4 n = ra 2 n := rfl
  have e5 : rc 4 n = rc 2 n := rfl
  obtain ⟨z1, hz1⟩ : ∃ z, z = oi (n : Int) := ⟨_, rfl⟩
  obtain ⟨z2, hz2⟩ : ∃ z, z = oi ((n : Int) + 1) := ⟨_, rfl⟩
  obtain ⟨z3, hz3⟩ : ∃ z, z = oi (2 * (n : Int) + 1) := ⟨_, rfl⟩
  rw [← hz1] at hop3 hc1 e3
  rw [← hz2] at hop1 hop2 hop3 hc2
  rw [← hz3] at hop1 hc3
  obtain ⟨y1, hy1⟩ : ∃ y, y = ra 2 n := ⟨_, rfl⟩
  obtain ⟨y2, hy2⟩ : ∃ y, y = ra 4 n := ⟨_, rfl⟩
  obtain ⟨y3, hy3⟩ : ∃ y, y = rc 2 n := ⟨_, rfl⟩
  rw [← hy1] at hop1 e4
  rw [← hy2] at hop2
  rw [← hy3] at hop3 e5
  have HY : Hid (ra 2 n = y1 ∧ ra 4 n = y2 ∧ rc 2 n = y3 ∧ rc 3 n = z1 ∧ rb 4 n = y1 ∧ rc 4 n = y3) := ⟨hy1.symm, hy2.symm, hy3.symm, e3, e4, e5⟩
  clear hz1 hz2 hz3 hy1 hy2 hy3 e3 e4 e5
  rcases (show k = 0 ∨ k = 1 ∨ k = 2 ∨ k = 3 ∨ k = 4 by omega) with rfl | rfl | rfl | rfl | rfl
  · by_cases h0 : n = 0
    · subst h0
      go_enter Try.func32, Try.ntmps32
      go_wp2
      go_returns
      exact ⟨rfl, by first | exact Below.refl _ _ | exact (Below.refl _ _).alloc (Nat.le_refl _) _⟩
    · have h1 : ((n : Int) == 0) = false := by rw [beq_eq_false_iff_ne]; omega
      have e : ra 0 n = 1073741824 := by unfold ra; exact if_neg h0
      have HE : Hid (ra 0 n = 1073741824) := e
      clear e
      go_enter Try.func32, Try.ntmps32
      go_wp2
      go_returns
      exact ⟨(by first | (rw [HE.out]; done) | (rw [HE.out]; rfl)), by first | exact Below.refl _ _ | exact (Below.refl _ _).alloc (Nat.le_refl _) _⟩
  all_goals
    go_enter Try.func32, Try.ntmps32
    go_wp2
    go_returns
    exact ⟨by obtain ⟨h1, h2, h3, h4, h5, h6⟩ := HY.out; first | (rw [h1, h3]; first | done | rfl) | (rw [h4]; first | done | rfl) | (rw [h2, h5, h6]; first | done | rfl) | rfl, by first | exact Below.refl _ _ | exact (Below.refl _ _).alloc (Nat.le_refl _) _⟩

theorem srule_any (k n : Nat) (hk : k ≤ 4) (hn : n ≤ 17) (w : World) : Calls Try.prog 26 #[.int .i64 k, .int .i64 n] w fun e w' => e = .returned (.tuple #[.float .f32 (ra k n), .float .f32 (rb k n), .float .f32 (rc k n)]) ∧ w' = w := by
  have hop1 : ∀ t w, (binOp .quo t (.float .f32 (oi (2 * (n : Int) + 1))) (.float .f32 (oi ((n : Int) + 1)))).run Try.prog w = .ok (.float .f32 (ra 2 n)) w := fun t w => run_float_arith w .quo t .f32 _ _ _ (q_odd n (by omega))
  have hop2 : ∀ t w, (binOp .quo t (.float .f32 3212836864) (.float .f32 (oi ((n : Int) + 1)))).run Try.prog w = .ok (.float .f32 (ra 4 n)) w := fun t w => run_float_arith w .quo t .f32 _ _ _ (q_neg n (by omega))
  have hop3 : ∀ t w, (binOp .quo t (.float .f32 (oi (n : Int))) (.float .f32 (oi ((n : Int) + 1)))).run Try.prog w = .ok (.float .f32 (rc 2 n)) w := fun t w => run_float_arith w .quo t .f32 _ _ _ (q_cnt n (by omega))
  have hop4 : ∀ t w, (binOp .mul t (.float .f32 1073741824) (.float .f32 (oi (n : Int)))).run Try.prog w = .ok (.float .f32 (oi (2 * (n : Int)))) w := fun t w => run_float_arith w .mul t .f32 _ _ _ (m_two n (by omega))
  have hop5 : ∀ t w, (binOp .add t (.float .f32 (oi (2 * (n : Int)))) (.float .f32 1065353216)).run Try.prog w = .ok (.float .f32 (oi (2 * (n : Int) + 1))) w := fun t w => run_float_arith w .add t .f32 _ _ _ (a_odd n (by omega))
  have hop6 : ∀ t w, (binOp .add t (.float .f32 (oi (n : Int))) (.float .f32 1065353216)).run Try.prog w = .ok (.float .f32 (oi ((n : Int) + 1))) w := fun t w => run_float_arith w .add t .f32 _ _ _ (a_one n (by omega))
  have hc1 := conv_oi (n : Int)
  have e3 : rc 3 n = oi (n : Int) := rfl
  have e4 : rb 4 n = ra 2 n := rfl
  have e5 : rc 4 n = rc 2 n := rfl
  obtain ⟨z1, hz1⟩ : ∃ z, z = oi (n : Int) := ⟨_, rfl⟩
  obtain ⟨z2, hz2⟩ : ∃ z, z = oi ((n : Int) + 1) := ⟨_, rfl⟩
  obtain ⟨z3, hz3⟩ : ∃ z, z = oi (2 * (n : Int) + 1) := ⟨_, rfl⟩
  obtain ⟨z4, hz4⟩ : ∃ z, z = oi (2 * (n : Int)) := ⟨_, rfl⟩
  rw [← hz1] at hop3 hop4 hop6 hc1 e3
  rw [← hz2] at hop1 hop2 hop3 hop6
  rw [← hz3] at hop1 hop5
  rw [← hz4] at hop4 hop5
  obtain ⟨y1, hy1⟩ : ∃ y, y = ra 2 n := ⟨_, rfl⟩
  obtain ⟨y2, hy2⟩ : ∃ y, y = ra 4 n := ⟨_, rfl⟩
  obtain ⟨y3, hy3⟩ : ∃ y, y = rc 2 n := ⟨_, rfl⟩
  rw [← hy1] at hop1 e4
  rw [← hy2] at hop2
  rw [← hy3] at hop3 e5
  have HY : Hid (ra 2 n = y1 ∧ ra 4 n = y2 ∧ rc 2 n = y3 ∧ rc 3 n = z1 ∧ rb 4 n = y1 ∧ rc 4 n = y3) := ⟨hy1.symm, hy2.symm, hy3.symm, e3, e4, e5⟩
  clear hz1 hz2 hz3 hz4 hy1 hy2 hy3 e3 e4 e5
  rcases (show k = 0 ∨ k = 1 ∨ k = 2 ∨ k = 3 ∨ k = 4 by omega) with rfl | rfl | rfl | rfl | rfl
  · by_cases h0 : n = 0
    · subst h0
      go_enter Try.func26, Try.ntmps26
      go_wp2
      go_ret3
      exact ⟨rfl, rfl⟩
    · have h1 : ((n : Int) == 0) = false := by rw [beq_eq_false_iff_ne]; omega
      have e : ra 0 n = 1073741824 := by unfold ra; exact if_neg h0
      have HE : Hid (ra 0 n = 1073741824) := e
      clear e
      go_enter Try.func26, Try.ntmps26
      go_wp2
      go_ret3
      exact ⟨(by first | (rw [HE.out]; done) | (rw [HE.out]; rfl)), rfl⟩
  all_goals
    go_enter Try.func26, Try.ntmps26
    go_wp2
    go_ret3
    exact ⟨by obtain ⟨h1, h2, h3, h4, h5, h6⟩ := HY.out; first | (rw [h1, h3]; first | done | rfl) | (rw [h4]; first | done | rfl) | (rw [h2, h5, h6]; first | done | rfl) | rfl, rfl⟩

/-- whether numbers are those of a polynomial of a family -/
def inF (k n : Int) : Bool := decide (0 ≤ k ∧ k ≤ 4 ∧ 0 ≤ n ∧ n ≤ 16)
theorem sin_any (k n : Int) (w : World) : Calls Try.prog 15 #[.int .i64 k, .int .i64 n] w fun e w' => e = .returned (.bool (inF k n)) ∧ w' = w := by
  have hin : ∀ a lo hi w, Calls Try.prog 36 #[.int .i64 a, .int .i64 lo, .int .i64 hi] w fun e w' => e = .returned (.bool (decide (lo ≤ a ∧ a ≤ hi))) ∧ w' = w := fun a lo hi w => by
    by_cases h : lo ≤ a
    all_goals
      go_enter Try.func36, Try.ntmps36
      go_wp2
      go_ret
      exact ⟨(by simp [h]; try (intros; omega)), rfl⟩
  have HIN := Lib.hid hin
  clear hin
  by_cases h : 0 ≤ k ∧ k ≤ 4
  · have e0 : decide (0 ≤ k ∧ k ≤ 4) = true := decide_eq_true h
    have e1 : inF k n = decide (0 ≤ n ∧ n ≤ 16) := by unfold inF; simp [h]
    have HE : Hid (decide (0 ≤ k ∧ k ≤ 4) = true) := e0
    have H1 : Hid (inF k n = decide (0 ≤ n ∧ n ≤ 16)) := e1
    clear e0 e1 h
    go_enter Try.func15, Try.ntmps15
    go_wp2_with fail
    refine (HIN.out _ _ _ _).mono ?_
    rintro e w1 ⟨rfl, hw⟩
    rw [hw, HE.out]
    clear hw
    go_wp2_with fail
    refine (HIN.out _ _ _ _).mono ?_
    rintro e w1 ⟨rfl, hw⟩
    rw [hw]
    clear hw
    go_wp2_with fail
    go_ret
    exact ⟨(by rw [H1.out]; first | rfl | simp), rfl⟩
  · have e0 : decide (0 ≤ k ∧ k ≤ 4) = false := decide_eq_false h
    have e1 : inF k n = false := by unfold inF; exact decide_eq_false (fun h' => h ⟨h'.1, h'.2.1⟩)
    have HE : Hid (decide (0 ≤ k ∧ k ≤ 4) = false) := e0
    have H1 : Hid (inF k n = false) := e1
    clear e0 e1 h
    go_enter Try.func15, Try.ntmps15
    go_wp2_with fail
    refine (HIN.out _ _ _ _).mono ?_
    rintro e w1 ⟨rfl, hw⟩
    rw [hw, HE.out]
    clear hw
    go_wp2_with fail
    go_ret
    exact ⟨(by rw [H1.out]; first | rfl | simp), rfl⟩
theorem from_any (a lo hi : Int) (w : World) : Calls Try.prog 40 #[.int .i64 a, .int .i64 lo, .int .i64 hi] w fun e w' => e = .returned (.bool (decide (lo ≤ a ∧ a ≤ hi))) ∧ w' = w := by
  by_cases h : lo ≤ a
  all_goals
    go_enter Try.func40, Try.ntmps40
    go_wp2
    go_ret
    exact ⟨(by simp [h]; try (intros; omega)), rfl⟩
theorem kind_any (k : Int) (w : World) : Calls Try.prog 28 #[.int .i64 k] w fun e w' => e = .returned (.bool (decide (0 ≤ k ∧ k ≤ 4))) ∧ w' = w := by
  go_enter Try.func28, Try.ntmps28
  go_wp2_with fail
  refine (from_any _ _ _ _).mono ?_
  rintro e w1 ⟨rfl, hw⟩
  rw [hw]
  clear hw
  go_wp2_with fail
  go_ret
  exact ⟨(by first | rfl | simp), rfl⟩
theorem iin_any (k n : Int) (w : World) : Calls Try.prog 19 #[.int .i64 k, .int .i64 n] w fun e w' => e = .returned (.bool (inF k n)) ∧ w' = w := by
  by_cases h : 0 ≤ k ∧ k ≤ 4
  · have HE : Hid (decide (0 ≤ k ∧ k ≤ 4) = true) := decide_eq_true h
    have H1 : Hid (inF k n = decide (0 ≤ n ∧ n ≤ 16)) := by show _ = _; unfold inF; simp [h]
    clear h
    go_enter Try.func19, Try.ntmps19
    go_wp2_with fail
    refine (kind_any _ _).mono ?_
    rintro e w1 ⟨rfl, hw⟩
    rw [hw, HE.out]
    clear hw
    go_wp2_with fail
    refine (from_any _ _ _ _).mono ?_
    rintro e w1 ⟨rfl, hw⟩
    rw [hw]
    clear hw
    go_wp2_with fail
    go_ret
    exact ⟨(by rw [H1.out]; first | rfl | simp), rfl⟩
  · have HE : Hid (decide (0 ≤ k ∧ k ≤ 4) = false) := decide_eq_false h
    have H1 : Hid (inF k n = false) := by show _ = _; unfold inF; exact decide_eq_false (fun h' => h ⟨h'.1, h'.2.1⟩)
    clear h
    go_enter Try.func19, Try.ntmps19
    go_wp2_with fail
    refine (kind_any _ _).mono ?_
    rintro e w1 ⟨rfl, hw⟩
    rw [hw, HE.out]
    clear hw
    go_wp2_with fail
    go_ret
    exact ⟨(by rw [H1.out]; first | rfl | simp), rfl⟩
end Go.Proofs.Ytfmdbgpalldjoab.fa
