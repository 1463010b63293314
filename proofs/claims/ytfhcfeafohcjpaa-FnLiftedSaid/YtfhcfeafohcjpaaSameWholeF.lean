/- SameWhole: what both sides answer. -/
import Derived.Test.YtfhcfeafohcjpaaFnB
namespace Go.Proofs.Ytfhcfeafohcjpaa.fSameWhole
open Go.RowKit Go.Pl Go.Proofs.Ytfhcfeafohcjpaa.wh
def ok (A B : List Int) : Bool := decide (A = B)

set_option maxRecDepth 100000 in
theorem same_any {v0 v1 : Value} {A B : List Int} {w : World} (h0 : Ls w v0 A) (h1 : Ls w v1 B) :
    Calls Try.prog 26 #[v0, v1] w fun e w' => e = .returned (.bool (decide (A = B))) ∧ Below w.heap.size w w' := by
  obtain ⟨ao, cap, rfl, hn, hcp, hc0⟩ := h0
  obtain ⟨bo, cap1, rfl, hn1, hcp1, hc1⟩ := h1
  have hc0' : Hid (A.length ≠ 0 → ∃ b off, ao = some ⟨b, off, none⟩ ∧ b < w.heap.size ∧ ∀ (k : Nat) (z : Int), A[k]? = some z → w.cell? ⟨b, off + k, none⟩ = some (.int .i64 z)) := hc0
  have hc1' : Hid (B.length ≠ 0 → ∃ b off, bo = some ⟨b, off, none⟩ ∧ b < w.heap.size ∧ ∀ (k : Nat) (z : Int), B[k]? = some z → w.cell? ⟨b, off + k, none⟩ = some (.int .i64 z)) := hc1
  clear hc0 hc1
  obtain ⟨n, hnn⟩ : ∃ n, n = A.length := ⟨_, rfl⟩
  obtain ⟨m, hmm⟩ : ∃ m, m = B.length := ⟨_, rfl⟩
  rw [← hnn] at hn hcp hc0'
  rw [← hmm] at hn1 hcp1 hc1'
  have HN : Hid (n = A.length) := hnn
  have HM : Hid (m = B.length) := hmm
  simp only [← hnn, ← hmm]
  clear hnn hmm
  by_cases hl : n = m
  · subst hl
    go_enter Try.func26, Try.ntmps26
    go_wp2
    go_loopw [5] (fun i wr => ∃ (k : Nat), k ≤ n ∧ i = .int .i64 k ∧ Hid (∀ j, j < k → A[j]? = B[j]?) ∧ Hid (∃ q, wr = w.drewN q)) (fun i _ => n - (intOf i).toNat)
    case atStart => exact ⟨0, by omega, rfl, fun j hj => by omega, 0, rfl⟩
    case round =>
      obtain ⟨k, hk, rfl, hr, hm⟩ := hrel
      by_cases hlt : k < n
      · obtain ⟨b, off, rfl, _, hcell⟩ := hc0'.out (by omega)
        obtain ⟨b', off', rfl, _, hcell'⟩ := hc1'.out (by omega)
        obtain ⟨z, hz⟩ := get_some A k (by have := HN.out; omega)
        obtain ⟨y, hy⟩ := get_some B k (by have := HM.out; omega)
        have e1 : wr.cell? ⟨b, off + k, none⟩ = some (.int .i64 z) := by obtain ⟨q, rfl⟩ := hm.out; exact hcell k z hz
        have e2 : wr.cell? ⟨b', off' + k, none⟩ = some (.int .i64 y) := by obtain ⟨q, rfl⟩ := hm.out; exact hcell' k y hy
        have next : ∀ r, Hid (∃ q, wr.drewN r = w.drewN q) := fun r => by obtain ⟨q, rfl⟩ := hm.out; exact ⟨q + r, World.drewN_drewN _ _ _⟩
        have HB : Hid (∀ r, Below w.heap.size w (wr.drewN r)) := fun r => by obtain ⟨q, h⟩ := next r; exact Go.Pst.below_draws ⟨q, h⟩
        clear hcell hcell' hm
        by_cases hzy : z = y
        · have HR : Hid (∀ j, j < k + 1 → A[j]? = B[j]?) := fun j hj => by
            by_cases e : j = k
            · rw [e, hz, hy, hzy]
            · exact hr.out j (by omega)
          subst hzy
          clear hz hy hr
          go_wp2_with fail
          go_region
          go_wp2
          go_roundw
          case rel => exact ⟨k + 1, by omega, by go_num, HR, next 1⟩
          case measure => simp [intOf]; omega
        · have HV : Hid (decide (A = B) = false) := decide_eq_false fun e => hzy (by rw [e, hy] at hz; exact (Option.some.inj hz).symm)
          have hb : (z == y) = false := by rw [beq_eq_false_iff_ne]; exact hzy
          clear hz hy hr
          go_wp2_with fail
          go_region
          go_wp2
          go_ret
          exact ⟨by rw [HV.out]; first | rfl | (simp; omega), HB.out 1⟩
      · obtain rfl : k = n := by omega
        have HV : Hid (decide (A = B) = true) := decide_eq_true (List.ext_getElem? fun j => by
          by_cases hj : j < k
          · exact hr.out j hj
          · rw [List.getElem?_eq_none (by have := HN.out; omega), List.getElem?_eq_none (by have := HM.out; omega)])
        obtain ⟨q, rfl⟩ := hm.out
        clear hr
        go_wp2
        go_ret
        exact ⟨by rw [HV.out]; first | rfl | (simp; omega), Go.Pst.below_draws ⟨_, rfl⟩⟩
  · have HV : Hid (decide (A = B) = false) := decide_eq_false fun e => hl (by rw [HN.out, HM.out, e])
    have hb : ((n : Int) == (m : Int)) = false := by rw [beq_eq_false_iff_ne]; omega
    go_enter Try.func26, Try.ntmps26
    go_wp2
    go_ret
    exact ⟨by rw [HV.out]; first | rfl | (simp; omega), Below.refl _ _⟩

set_option maxRecDepth 100000 in
theorem equal_any {v0 v1 : Value} {A B : List Int} {w : World} (h0 : Ls w v0 A) (h1 : Ls w v1 B) :
    Calls Try.prog 88 #[v0, v1] w fun e w' => e = .returned (.bool (decide (A = B))) ∧ Below w.heap.size w w' := by
  obtain ⟨ao, cap, rfl, hn, hcp, hc0⟩ := h0
  obtain ⟨bo, cap1, rfl, hn1, hcp1, hc1⟩ := h1
  have hc0' : Hid (A.length ≠ 0 → ∃ b off, ao = some ⟨b, off, none⟩ ∧ b < w.heap.size ∧ ∀ (k : Nat) (z : Int), A[k]? = some z → w.cell? ⟨b, off + k, none⟩ = some (.int .i64 z)) := hc0
  have hc1' : Hid (B.length ≠ 0 → ∃ b off, bo = some ⟨b, off, none⟩ ∧ b < w.heap.size ∧ ∀ (k : Nat) (z : Int), B[k]? = some z → w.cell? ⟨b, off + k, none⟩ = some (.int .i64 z)) := hc1
  clear hc0 hc1
  obtain ⟨n, hnn⟩ : ∃ n, n = A.length := ⟨_, rfl⟩
  obtain ⟨m, hmm⟩ : ∃ m, m = B.length := ⟨_, rfl⟩
  rw [← hnn] at hn hcp hc0'
  rw [← hmm] at hn1 hcp1 hc1'
  have HN : Hid (n = A.length) := hnn
  have HM : Hid (m = B.length) := hmm
  simp only [← hnn, ← hmm]
  clear hnn hmm
  by_cases hl : n = m
  · subst hl
    go_enter Try.func88, Try.ntmps88
    go_wp2
    go_loopw [13] (fun i wr => ∃ (k : Nat), k ≤ n ∧ i = .int .i64 k ∧ Hid (∀ j, j < k → A[j]? = B[j]?) ∧ Hid (∃ q, wr = w.drewN q)) (fun i _ => n - (intOf i).toNat)
    case atStart => exact ⟨0, by omega, rfl, fun j hj => by omega, 0, rfl⟩
    case round =>
      obtain ⟨k, hk, rfl, hr, hm⟩ := hrel
      by_cases hlt : k < n
      · obtain ⟨b, off, rfl, _, hcell⟩ := hc0'.out (by omega)
        obtain ⟨b', off', rfl, _, hcell'⟩ := hc1'.out (by omega)
        obtain ⟨z, hz⟩ := get_some A k (by have := HN.out; omega)
        obtain ⟨y, hy⟩ := get_some B k (by have := HM.out; omega)
        have e1 : wr.cell? ⟨b, off + k, none⟩ = some (.int .i64 z) := by obtain ⟨q, rfl⟩ := hm.out; exact hcell k z hz
        have e2 : wr.cell? ⟨b', off' + k, none⟩ = some (.int .i64 y) := by obtain ⟨q, rfl⟩ := hm.out; exact hcell' k y hy
        have next : ∀ r, Hid (∃ q, wr.drewN r = w.drewN q) := fun r => by obtain ⟨q, rfl⟩ := hm.out; exact ⟨q + r, World.drewN_drewN _ _ _⟩
        have HB : Hid (∀ r, Below w.heap.size w (wr.drewN r)) := fun r => by obtain ⟨q, h⟩ := next r; exact Go.Pst.below_draws ⟨q, h⟩
        clear hcell hcell' hm
        by_cases hzy : z = y
        · have HR : Hid (∀ j, j < k + 1 → A[j]? = B[j]?) := fun j hj => by
            by_cases e : j = k
            · rw [e, hz, hy, hzy]
            · exact hr.out j (by omega)
          subst hzy
          clear hz hy hr
          go_wp2_with fail
          go_region
          go_wp2
          go_roundw
          case rel => exact ⟨k + 1, by omega, by go_num, HR, next 1⟩
          case measure => simp [intOf]; omega
        · have HV : Hid (decide (A = B) = false) := decide_eq_false fun e => hzy (by rw [e, hy] at hz; exact (Option.some.inj hz).symm)
          have hb : (z == y) = false := by rw [beq_eq_false_iff_ne]; exact hzy
          clear hz hy hr
          go_wp2_with fail
          go_region
          go_wp2
          go_ret
          exact ⟨by rw [HV.out]; first | rfl | (simp; omega), HB.out 1⟩
      · obtain rfl : k = n := by omega
        have HV : Hid (decide (A = B) = true) := decide_eq_true (List.ext_getElem? fun j => by
          by_cases hj : j < k
          · exact hr.out j hj
          · rw [List.getElem?_eq_none (by have := HN.out; omega), List.getElem?_eq_none (by have := HM.out; omega)])
        obtain ⟨q, rfl⟩ := hm.out
        clear hr
        go_wp2
        go_ret
        exact ⟨by rw [HV.out]; first | rfl | (simp; omega), Go.Pst.below_draws ⟨_, rfl⟩⟩
  · have HV : Hid (decide (A = B) = false) := decide_eq_false fun e => hl (by rw [HN.out, HM.out, e])
    have hb : ((n : Int) == (m : Int)) = false := by rw [beq_eq_false_iff_ne]; omega
    go_enter Try.func88, Try.ntmps88
    go_wp2
    go_ret
    exact ⟨by rw [HV.out]; first | rfl | (simp; omega), Below.refl _ _⟩

theorem impl_any {A B : List Int} {v0 v1 : Value} {w : World} (h0 : Wh w v0 A) (h1 : Wh w v1 B) : Calls Try.prog 63 #[v0, v1] w fun e w' => e = .returned (.bool (ok A B)) ∧ Below w.heap.size w w' := by
  obtain ⟨s0, rfl, h0⟩ := h0
  obtain ⟨s1, rfl, h1⟩ := h1
  have H0 : Hid (Ls w s0 A) := h0
  have H1 : Hid (Ls w s1 B) := h1
  clear h0 h1
  go_enter Try.func63, Try.ntmps63
  go_wp2_with fail
  refine (equal_any (H0.out.below (new2 _ _ _)) (H1.out.below (new2 _ _ _))).mono ?_
  rintro e w1 ⟨rfl, b⟩
  have B1 : Hid (Below w.heap.size w w1) := (new2 w _ _).trans (b.mono (by simp; omega))
  clear b
  have HG : Hid (ok A B = decide (A = B)) := rfl
  go_wp2_with fail
  go_ret
  exact ⟨by rw [HG.out]; first | rfl | simp, B1.out⟩
end Go.Proofs.Ytfhcfeafohcjpaa.fSameWhole
