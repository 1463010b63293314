/- Gaps: copies, validity, both sides. -/
import Derived.Test.YtdammgflmkamaabFrA
namespace Go.Proofs.Ytdammgflmkamaab.gp
open Go.RowKit Go.Pl Go.Proofs.Ytdammgflmkamaab.wh
def OkG (a b c : Int) : Prop := -1099511627776 ≤ a ∧ a < b ∧ b ≤ 1099511627776 ∧ 0 ≤ c ∧ c ≤ 30
instance (a b c : Int) : Decidable (OkG a b c) := by unfold OkG; infer_instance
def okG (a b c : Int) : Bool := decide (OkG a b c)
theorem okG_no {a b c : Int} (h : ¬ OkG a b c) : okG a b c = false := decide_eq_false h
theorem okG_yes {a b c : Int} (h : OkG a b c) : okG a b c = true := decide_eq_true h

theorem toG_any (a b c : Int) (w : World) : Calls Try.prog 13 #[.agg #[.int .i64 a, .int .i64 b, .int .i64 c]] w fun e w' => e = .returned (.agg #[.int .i64 a, .int .i64 b, .int .i64 c]) ∧ Below w.heap.size w w' := by
  go_enter Try.func13, Try.ntmps13
  go_wp2
  refine bodyPost_ret (v := .agg #[.int .i64 a, .int .i64 b, .int .i64 c]) ?_ rfl ⟨rfl, new3 _ _ _ _⟩
  have h0 := heap_alloc_new (w.alloc (.cells #[.int .i64 a, .int .i64 b, .int .i64 c] 33)) (.cells #[.int .i64 a, .int .i64 b, .int .i64 c] 37 (0, 0))
  rw [World.size_alloc] at h0
  have h0' : ((w.alloc (.cells #[.int .i64 a, .int .i64 b, .int .i64 c] 33)).alloc (.cells #[.int .i64 a, .int .i64 b, .int .i64 c] 37)).heap[w.heap.size + 1]? = some (.cells #[.int .i64 a, .int .i64 b, .int .i64 c] 37 (0, 0)) := h0
  have h1 := (Below.heap_alloc ((w.alloc (.cells #[.int .i64 a, .int .i64 b, .int .i64 c] 33)).alloc (.cells #[.int .i64 a, .int .i64 b, .int .i64 c] 37)) (.cells #[.int .i64 a, .int .i64 b, .int .i64 c] 37 (0, 0)) (w.heap.size + 1) (by simp)).trans h0'
  have c0 := cell_of_row _ (w.heap.size + 1) 0 _ _ _ h1
  have c1 := cell_of_row _ (w.heap.size + 1) 1 _ _ _ h1
  have c2 := cell_of_row _ (w.heap.size + 1) 2 _ _ _ h1
  simp only [List.getElem?_toArray, List.getElem?_cons_zero, List.getElem?_cons_succ] at c0 c1 c2
  simp [results, Try.results13, c0, c1, c2, go_sem]

theorem sgap_any (a b c : Int) (w : World) : Calls Try.prog 29 #[.agg #[.int .i64 a, .int .i64 b, .int .i64 c]] w fun e w' => e = .returned (.bool (okG a b c)) ∧ Below w.heap.size w w' := by
  by_cases h1 : -1099511627776 ≤ a ∧ a ≤ 1099511627776
  case neg =>
    have HV : Hid (okG a b c = false) := okG_no fun h => h1 (by unfold OkG at h; omega)
    go_enter Try.func29, Try.ntmps29
    go_wp2_with fail
    refine (in_any a _ _ _).mono ?_
    rintro e w1 ⟨rfl, hw1⟩
    rw [hw1, decide_eq_false h1]
    clear hw1 h1
    go_wp2_with fail
    go_ret
    exact ⟨by rw [HV.out]; first | rfl | (simp; omega), new1 _ _⟩
  by_cases h2 : -1099511627776 ≤ b ∧ b ≤ 1099511627776
  case neg =>
    have HV : Hid (okG a b c = false) := okG_no fun h => h2 (by unfold OkG at h; omega)
    go_enter Try.func29, Try.ntmps29
    go_wp2_with fail
    refine (in_any a _ _ _).mono ?_
    rintro e w1 ⟨rfl, hw1⟩
    rw [hw1, decide_eq_true h1]
    clear hw1 h1
    go_wp2_with fail
    refine (in_any b _ _ _).mono ?_
    rintro e w1 ⟨rfl, hw1⟩
    rw [hw1, decide_eq_false h2]
    clear hw1 h2
    go_wp2_with fail
    go_ret
    exact ⟨by rw [HV.out]; first | rfl | (simp; omega), new1 _ _⟩
  by_cases h3 : a < b
  case neg =>
    have HV : Hid (okG a b c = false) := okG_no fun h => h3 (by unfold OkG at h; omega)
    go_enter Try.func29, Try.ntmps29
    go_wp2_with fail
    refine (in_any a _ _ _).mono ?_
    rintro e w1 ⟨rfl, hw1⟩
    rw [hw1, decide_eq_true h1]
    clear hw1 h1
    go_wp2_with fail
    refine (in_any b _ _ _).mono ?_
    rintro e w1 ⟨rfl, hw1⟩
    rw [hw1, decide_eq_true h2]
    clear hw1 h2
    go_wp2_with fail
    go_ret
    exact ⟨by rw [HV.out]; first | rfl | (simp; omega), new1 _ _⟩
  have HV : Hid (okG a b c = decide (0 ≤ c ∧ c ≤ 30)) := by
    show decide _ = decide _
    congr 1
    unfold OkG
    exact propext ⟨fun h => by omega, fun h => by omega⟩
  go_enter Try.func29, Try.ntmps29
  go_wp2_with fail
  refine (in_any a _ _ _).mono ?_
  rintro e w1 ⟨rfl, hw1⟩
  rw [hw1, decide_eq_true h1]
  clear hw1 h1
  go_wp2_with fail
  refine (in_any b _ _ _).mono ?_
  rintro e w1 ⟨rfl, hw1⟩
  rw [hw1, decide_eq_true h2]
  clear hw1 h2
  go_wp2_with fail
  refine (in_any c _ _ _).mono ?_
  rintro e w1 ⟨rfl, hw1⟩
  rw [hw1, ← HV.out]
  clear hw1 HV
  go_wp2_with fail
  go_ret
  exact ⟨by first | rfl | simp, new1 _ _⟩

theorem igap_any (a b c : Int) (w : World) : Calls Try.prog 31 #[.agg #[.int .i64 a, .int .i64 b, .int .i64 c]] w fun e w' => e = .returned (.bool (okG a b c)) ∧ Below w.heap.size w w' := by
  by_cases h1 : -1099511627776 ≤ a
  case neg =>
    have HV : Hid (okG a b c = false) := okG_no fun h => h1 (by unfold OkG at h; omega)
    go_enter Try.func31, Try.ntmps31
    go_wp2
    go_ret
    exact ⟨by rw [HV.out]; first | rfl | (simp; omega), new1 _ _⟩
  by_cases h3 : a < b
  case neg =>
    have HV : Hid (okG a b c = false) := okG_no fun h => h3 (by unfold OkG at h; omega)
    go_enter Try.func31, Try.ntmps31
    go_wp2
    go_ret
    exact ⟨by rw [HV.out]; first | rfl | (simp; omega), new1 _ _⟩
  by_cases h2 : b ≤ 1099511627776
  case neg =>
    have HV : Hid (okG a b c = false) := okG_no fun h => h2 (by unfold OkG at h; omega)
    go_enter Try.func31, Try.ntmps31
    go_wp2
    go_ret
    exact ⟨by rw [HV.out]; first | rfl | (simp; omega), new1 _ _⟩
  have HV : Hid (okG a b c = decide (0 ≤ c ∧ c ≤ 30)) := by
    show decide _ = decide _
    congr 1
    unfold OkG
    exact propext ⟨fun h => by omega, fun h => by omega⟩
  go_enter Try.func31, Try.ntmps31
  go_wp2_with fail
  refine (from_any c _ _ _).mono ?_
  rintro e w1 ⟨rfl, hw1⟩
  rw [hw1, ← HV.out]
  clear hw1 HV
  go_wp2_with fail
  go_ret
  exact ⟨by first | rfl | simp, new1 _ _⟩

end Go.Proofs.Ytdammgflmkamaab.gp
