/- Products of terms: both sides. -/
import Derived.Test.YtfhcfeafohcjpaaFnC
import Derived.IntWalk
namespace Go.Proofs.Ytfhcfeafohcjpaa.wh
open Go.RowKit Go.Pl

theorem rep_map (n : Nat) : (madeCells (Value.int .i64 0).cells (n * 1)).toList = (List.replicate n (0 : Int)).map (Value.int .i64) := by
  rw [Nat.mul_one, List.map_replicate]
  exact toList_madeCells_one _ _

set_option maxRecDepth 100000 in
set_option maxHeartbeats 3200000 in
theorem prod_any {va vb : Value} {A B : List Int} {w : World} (ha : Ls w va A) (hb : Ls w vb B) (hA : 1 ≤ A.length ∧ A.length ≤ 40) (hB : 1 ≤ B.length ∧ B.length ≤ 40) (hM : ∀ i k, -1000000000000 ≤ at' A i * at' B k ∧ at' A i * at' B k ≤ 1000000000000) :
    Calls Try.prog 37 #[va, vb] w fun e w' => ∃ v', e = .returned v' ∧ Own w' w.heap.size w'.heap.size v' (prod A B) ∧ Below w.heap.size w w' := by
  obtain ⟨ao, cap, rfl, hn, hcap, hc⟩ := ha
  obtain ⟨bo, cap1, rfl, hn1, hcap1, hc1⟩ := hb
  obtain ⟨ba, oa, rfl, hba, hca⟩ := hc (by omega)
  obtain ⟨bb, ob, rfl, hbb, hcb⟩ := hc1 (by omega)
  have CA : Hid (∀ (k : Nat) (z : Int), A[k]? = some z → w.cell? ⟨ba, oa + k, none⟩ = some (.int .i64 z)) := hca
  have CB : Hid (∀ (k : Nat) (z : Int), B[k]? = some z → w.cell? ⟨bb, ob + k, none⟩ = some (.int .i64 z)) := hcb
  have LA : Hid (ba < w.heap.size) := hba
  have LB : Hid (bb < w.heap.size) := hbb
  have HM : Hid (∀ i k, -1000000000000 ≤ at' A i * at' B k ∧ at' A i * at' B k ≤ 1000000000000) := hM
  obtain ⟨i0, hi, hz0, hz1, hz2⟩ := info_parts info_i
  obtain ⟨n, hnn⟩ : ∃ n, n = A.length := ⟨_, rfl⟩
  obtain ⟨m, hmm⟩ : ∃ m, m = B.length := ⟨_, rfl⟩
  obtain ⟨q, hq⟩ : ∃ q, q = n + m - 1 := ⟨_, rfl⟩
  have PA : Hid (prod A B = mrows A B (List.replicate q 0) n) := by show _ = _; rw [hq, hnn, hmm]; rfl
  rw [← hnn] at hA hcap
  rw [← hmm] at hB hcap1
  simp only [← hnn, ← hmm]
  have HN : Hid (n = A.length) := hnn
  have HMm : Hid (m = B.length) := hmm
  obtain ⟨hA1, hA2⟩ := hA
  obtain ⟨hB1, hB2⟩ := hB
  have hqi : (n : Int) + (m : Int) - 1 = (q : Int) := by omega
  have hq2 : q ≤ 79 := by omega
  have HQ : Hid (q = n + m - 1) := hq
  have hml : q ≤ maxLen := by unfold maxLen; omega
  clear hc hc1 hca hcb hba hbb hn hn1 hnn hmm hM hq
  obtain ⟨G, hG⟩ : ∃ G, G = w.heap.size := ⟨_, rfl⟩
  go_enter Try.func37, Try.ntmps37
  go_wp2_with (first | (refine wpList_make_full _ rfl (.tmp 15) (.tmp 15) 22 rfl w.heap.size 2 i0 (.int .i64 0) 1 Try.underlying22 hi hz0 hz1 .i64 .i64 _ _ q rfl rfl rfl rfl (by rw [hz2]; omega) hml (Nat.le_refl _) ?_; intro w1 hown hgrow))
  rw [← hG] at hown
  rw [← hG]
  rw [rep_map] at hown
  have hbel : Below G w w1 := (Below.refl G w).grown hgrow (by omega) (by intro k hk; cases hk)
  have HE : Hid (G = w.heap.size) := hG
  obtain ⟨P0, hP0⟩ : ∃ P : List Int, P = List.replicate q 0 := ⟨_, rfl⟩
  rw [← hP0] at hown PA
  have HP0 : Hid (P0.length = q ∧ inR 0 0 P0) := ⟨by rw [hP0]; simp, by rw [hP0]; intro z hz; have := List.eq_of_mem_replicate hz; omega⟩
  have start : Hid (w1.ownsRow G 2 1 (.slice (some ⟨G, 0, none⟩) q q) q (P0.map (Value.int .i64))) := hown
  have startB : Hid (Below G w w1) := hbel
  clear hgrow hG hP0 hown hbel hqi hi hz0 hz1 hz2 hml
  go_loopw [19] (fun t wr => ∃ (i : Nat), i ≤ n ∧ t = .int .i64 i ∧ Hid (wr.ownsRow G 2 1 (.slice (some ⟨G, 0, none⟩) q q) q ((mrows A B P0 i).map (Value.int .i64))) ∧ Hid (Below G w wr)) (fun t _ => n - (intOf t).toNat)
  case atStart => exact ⟨0, by omega, rfl, start, startB⟩
  case round =>
    obtain ⟨i, hin, rfl, ho, hb⟩ := hrel
    clear start startB
    by_cases hlt : i < n
    · have e1 : wr.cell? ⟨ba, oa + i, none⟩ = some (.int .i64 (at' A i)) := (hb.out.cell (p := ⟨ba, oa + i, none⟩) (by have := HE.out; have := LA.out; show ba < G; omega)).trans (CA.out i _ (at_some A i (by have := HN.out; omega)))
      have BD : Hid (inR (-(i * 40000000000000)) (i * 40000000000000) (mrows A B P0 i)) := by
        have := mrows_bd (a := A) (b := B) (P := P0) (T := 0) (M := 1000000000000) (m := 40) (by have := HMm.out; omega) (by omega) (by omega) (by simpa using HP0.out.2) HM.out i
        show inR _ _ _
        simpa using this
      have LQ : Hid ((mrows A B P0 i).length = q) := by show _ = _; rw [mrows_len]; exact HP0.out.1
      have HX : Hid (∀ k, -1000000000000 ≤ at' A i * at' B k ∧ at' A i * at' B k ≤ 1000000000000) := HM.out i
      have hR : Hid (mrows A B P0 (i + 1) = mrow (at' A i) B i (mrows A B P0 i) m) := by show _ = _; rw [HMm.out]; rfl
      obtain ⟨Q, hQ⟩ : ∃ Q, Q = mrows A B P0 i := ⟨_, rfl⟩
      rw [← hQ] at ho BD LQ hR
      obtain ⟨x, hx⟩ : ∃ x, x = at' A i := ⟨_, rfl⟩
      rw [← hx] at e1 HX hR
      clear hQ hx
      go_wp2
      go_loopw [26] (fun t wq => ∃ (k : Nat), k ≤ m ∧ t = .int .i64 k ∧ Hid (wq.ownsRow G 2 1 (.slice (some ⟨G, 0, none⟩) q q) q ((mrow x B i Q k).map (Value.int .i64))) ∧ Hid (Below G w wq)) (fun t _ => m - (intOf t).toNat)
      case atStart => exact ⟨0, by omega, rfl, ho, hb⟩
      case round =>
        clear ho hb e1
        obtain ⟨k, hkm, rfl, ho, hb⟩ := hrel
        by_cases hltk : k < m
        · have e2 : wr.cell? ⟨bb, ob + k, none⟩ = some (.int .i64 (at' B k)) := (hb.out.cell (p := ⟨bb, ob + k, none⟩) (by have := HE.out; have := LB.out; show bb < G; omega)).trans (CB.out k _ (at_some B k (by have := HMm.out; omega)))
          have hlen : (mrow x B i Q k).length = q := by rw [mrow_len]; exact LQ.out
          have hbd := mrow_bd (x := x) (b := B) (P := Q) (i := i) (T := i * 40000000000000) (M := 1000000000000) (by omega) (by omega) BD.out HX.out k
          have hik : i + k < q := by have := HQ.out; omega
          have e3 : wr.cell? ⟨G, i + k, none⟩ = some (.int .i64 (at' (mrow x B i Q k) (i + k))) := by
            rw [ho.out.cellAt (i + k) (by omega), List.getElem?_map, at_some _ _ (by rw [hlen]; exact hik)]; rfl
          have hv := hbd.at (by omega) (by omega) (i + k)
          have hp := HX.out k
          have e4 : wr.frozen? ⟨G, i + k, none⟩ = false := ho.out.frozenAt (i + k)
          have HO : Hid ((wr.setCell ⟨G, i + k, none⟩ (.int .i64 (at' (mrow x B i Q k) (i + k) + x * at' B k))).ownsRow G 2 1 (.slice (some ⟨G, 0, none⟩) q q) q ((mrow x B i Q (k + 1)).map (Value.int .i64))) := by
            have := (ho.out.stored (i + k) (.int .i64 (at' (mrow x B i Q k) (i + k) + x * at' B k))).1
            rw [← List.map_set] at this
            exact this
          have HB : Hid (Below G w (wr.setCell ⟨G, i + k, none⟩ (.int .i64 (at' (mrow x B i Q k) (i + k) + x * at' B k)))) := hb.out.setCell (p := ⟨G, i + k, none⟩) (Nat.le_refl G) _
          have hst := store_int (b := at' (mrow x B i Q k) (i + k) + x * at' B k) e3 e4
          generalize at' (mrow x B i Q k) (i + k) = a at *
          generalize at' B k = y at *
          have hw1 : IntKind.i64.wrap (x * y) = x * y := IntWalk.i64_in _ (by omega)
          have hw2 : IntKind.i64.wrap (a + x * y) = a + x * y := IntWalk.i64_in _ (by omega)
          have hw3 : wrap64 (x * y) = x * y := IntWalk.wrap64_in _ (by omega)
          have hw4 : wrap64 (a + x * y) = a + x * y := IntWalk.wrap64_in _ (by omega)
          clear hv hp hbd ho hb hlen
          go_wp2
          go_roundw
          case rel => exact ⟨k + 1, by omega, by go_num, HO, HB⟩
          case measure => simp [intOf]; omega
        · obtain rfl : k = m := by omega
          rw [← hR.out] at ho
          go_wp2
          go_roundw
          case rel => exact ⟨i + 1, by omega, by go_num, ho, hb⟩
          case measure => simp [intOf]; omega
    · obtain rfl : i = n := by omega
      go_wp2
      go_ret
      have ho' := ho.out
      rw [← PA.out] at ho'
      have hl : q = (prod A B).length := by rw [prod_len, ← HN.out, ← HMm.out]; exact HQ.out
      refine ⟨_, rfl, ?_, by rw [← HE.out]; exact hb.out⟩
      rw [← HE.out]
      rw [hl] at ho' ⊢
      exact Own.of_row ho' (by omega) (Nat.le_refl _)
set_option maxRecDepth 100000 in
set_option maxHeartbeats 3200000 in
theorem mul_any {va vb : Value} {A B : List Int} {w : World} (ha : Ls w va A) (hb : Ls w vb B) (hA : 1 ≤ A.length ∧ A.length ≤ 40) (hB : 1 ≤ B.length ∧ B.length ≤ 40) (hM : ∀ i k, -1000000000000 ≤ at' A i * at' B k ∧ at' A i * at' B k ≤ 1000000000000) :
    Calls Try.prog 28 #[va, vb] w fun e w' => ∃ v', e = .returned v' ∧ Own w' w.heap.size w'.heap.size v' (prod A B) ∧ Below w.heap.size w w' := by
  obtain ⟨ao, cap, rfl, hn, hcap, hc⟩ := ha
  obtain ⟨bo, cap1, rfl, hn1, hcap1, hc1⟩ := hb
  obtain ⟨ba, oa, rfl, hba, hca⟩ := hc (by omega)
  obtain ⟨bb, ob, rfl, hbb, hcb⟩ := hc1 (by omega)
  have CA : Hid (∀ (k : Nat) (z : Int), A[k]? = some z → w.cell? ⟨ba, oa + k, none⟩ = some (.int .i64 z)) := hca
  have CB : Hid (∀ (k : Nat) (z : Int), B[k]? = some z → w.cell? ⟨bb, ob + k, none⟩ = some (.int .i64 z)) := hcb
  have LA : Hid (ba < w.heap.size) := hba
  have LB : Hid (bb < w.heap.size) := hbb
  have HM : Hid (∀ i k, -1000000000000 ≤ at' A i * at' B k ∧ at' A i * at' B k ≤ 1000000000000) := hM
  obtain ⟨i0, hi, hz0, hz1, hz2⟩ := info_parts info_i
  obtain ⟨n, hnn⟩ : ∃ n, n = A.length := ⟨_, rfl⟩
  obtain ⟨m, hmm⟩ : ∃ m, m = B.length := ⟨_, rfl⟩
  obtain ⟨q, hq⟩ : ∃ q, q = n + m - 1 := ⟨_, rfl⟩
  have PA : Hid (prod A B = mrows A B (List.replicate q 0) n) := by show _ = _; rw [hq, hnn, hmm]; rfl
  rw [← hnn] at hA hcap
  rw [← hmm] at hB hcap1
  simp only [← hnn, ← hmm]
  have HN : Hid (n = A.length) := hnn
  have HMm : Hid (m = B.length) := hmm
  obtain ⟨hA1, hA2⟩ := hA
  obtain ⟨hB1, hB2⟩ := hB
  have hqi : (n : Int) + (m : Int) - 1 = (q : Int) := by omega
  have hq2 : q ≤ 79 := by omega
  have HQ : Hid (q = n + m - 1) := hq
  have hml : q ≤ maxLen := by unfold maxLen; omega
  clear hc hc1 hca hcb hba hbb hn hn1 hnn hmm hM hq
  obtain ⟨G, hG⟩ : ∃ G, G = w.heap.size := ⟨_, rfl⟩
  go_enter Try.func28, Try.ntmps28
  go_wp2_with (first | (refine wpList_make_full _ rfl (.tmp 13) (.tmp 13) 22 rfl w.heap.size 2 i0 (.int .i64 0) 1 Try.underlying22 hi hz0 hz1 .i64 .i64 _ _ q rfl rfl rfl rfl (by rw [hz2]; omega) hml (Nat.le_refl _) ?_; intro w1 hown hgrow))
  rw [← hG] at hown
  rw [← hG]
  rw [rep_map] at hown
  have hbel : Below G w w1 := (Below.refl G w).grown hgrow (by omega) (by intro k hk; cases hk)
  have HE : Hid (G = w.heap.size) := hG
  obtain ⟨P0, hP0⟩ : ∃ P : List Int, P = List.replicate q 0 := ⟨_, rfl⟩
  rw [← hP0] at hown PA
  have HP0 : Hid (P0.length = q ∧ inR 0 0 P0) := ⟨by rw [hP0]; simp, by rw [hP0]; intro z hz; have := List.eq_of_mem_replicate hz; omega⟩
  have start : Hid (w1.ownsRow G 2 1 (.slice (some ⟨G, 0, none⟩) q q) q (P0.map (Value.int .i64))) := hown
  have startB : Hid (Below G w w1) := hbel
  clear hgrow hG hP0 hown hbel hqi hi hz0 hz1 hz2 hml
  go_loopw [17] (fun t wr => ∃ (i : Nat), i ≤ n ∧ t = .int .i64 i ∧ Hid (wr.ownsRow G 2 1 (.slice (some ⟨G, 0, none⟩) q q) q ((mrows A B P0 i).map (Value.int .i64))) ∧ Hid (Below G w wr)) (fun t _ => n - (intOf t).toNat)
  case atStart => exact ⟨0, by omega, rfl, start, startB⟩
  case round =>
    obtain ⟨i, hin, rfl, ho, hb⟩ := hrel
    clear start startB
    by_cases hlt : i < n
    · have HA0 : Hid (w.cell? ⟨ba, oa + i, none⟩ = some (.int .i64 (at' A i))) := CA.out i _ (at_some A i (by have := HN.out; omega))
      have BD : Hid (inR (-(i * 40000000000000)) (i * 40000000000000) (mrows A B P0 i)) := by
        have := mrows_bd (a := A) (b := B) (P := P0) (T := 0) (M := 1000000000000) (m := 40) (by have := HMm.out; omega) (by omega) (by omega) (by simpa using HP0.out.2) HM.out i
        show inR _ _ _
        simpa using this
      have LQ : Hid ((mrows A B P0 i).length = q) := by show _ = _; rw [mrows_len]; exact HP0.out.1
      have HX : Hid (∀ k, -1000000000000 ≤ at' A i * at' B k ∧ at' A i * at' B k ≤ 1000000000000) := HM.out i
      have hR : Hid (mrows A B P0 (i + 1) = mrow (at' A i) B i (mrows A B P0 i) m) := by show _ = _; rw [HMm.out]; rfl
      obtain ⟨Q, hQ⟩ : ∃ Q, Q = mrows A B P0 i := ⟨_, rfl⟩
      rw [← hQ] at ho BD LQ hR
      obtain ⟨x, hx⟩ : ∃ x, x = at' A i := ⟨_, rfl⟩
      rw [← hx] at HA0 HX hR
      clear hQ hx
      go_wp2
      go_loopw [22] (fun t wq => ∃ (k : Nat), k ≤ m ∧ t = .int .i64 k ∧ Hid (wq.ownsRow G 2 1 (.slice (some ⟨G, 0, none⟩) q q) q ((mrow x B i Q k).map (Value.int .i64))) ∧ Hid (Below G w wq)) (fun t _ => m - (intOf t).toNat)
      case atStart => exact ⟨0, by omega, rfl, ho, hb⟩
      case round =>
        clear ho hb
        obtain ⟨k, hkm, rfl, ho, hb⟩ := hrel
        by_cases hltk : k < m
        · have e1 : wr.cell? ⟨ba, oa + i, none⟩ = some (.int .i64 x) := (hb.out.cell (p := ⟨ba, oa + i, none⟩) (by have := HE.out; have := LA.out; show ba < G; omega)).trans HA0.out
          have e2 : wr.cell? ⟨bb, ob + k, none⟩ = some (.int .i64 (at' B k)) := (hb.out.cell (p := ⟨bb, ob + k, none⟩) (by have := HE.out; have := LB.out; show bb < G; omega)).trans (CB.out k _ (at_some B k (by have := HMm.out; omega)))
          have hlen : (mrow x B i Q k).length = q := by rw [mrow_len]; exact LQ.out
          have hbd := mrow_bd (x := x) (b := B) (P := Q) (i := i) (T := i * 40000000000000) (M := 1000000000000) (by omega) (by omega) BD.out HX.out k
          have hik : i + k < q := by have := HQ.out; omega
          have e3 : wr.cell? ⟨G, i + k, none⟩ = some (.int .i64 (at' (mrow x B i Q k) (i + k))) := by
            rw [ho.out.cellAt (i + k) (by omega), List.getElem?_map, at_some _ _ (by rw [hlen]; exact hik)]; rfl
          have hv := hbd.at (by omega) (by omega) (i + k)
          have hp := HX.out k
          have e4 : wr.frozen? ⟨G, i + k, none⟩ = false := ho.out.frozenAt (i + k)
          have HO : Hid ((wr.drew.setCell ⟨G, i + k, none⟩ (.int .i64 (at' (mrow x B i Q k) (i + k) + x * at' B k))).ownsRow G 2 1 (.slice (some ⟨G, 0, none⟩) q q) q ((mrow x B i Q (k + 1)).map (Value.int .i64))) := by
            have ho' : wr.drew.ownsRow G 2 1 (.slice (some ⟨G, 0, none⟩) q q) q ((mrow x B i Q k).map (Value.int .i64)) := ho.out
            have := (ho'.stored (i + k) (.int .i64 (at' (mrow x B i Q k) (i + k) + x * at' B k))).1
            rw [← List.map_set] at this
            exact this
          have HB : Hid (Below G w (wr.drew.setCell ⟨G, i + k, none⟩ (.int .i64 (at' (mrow x B i Q k) (i + k) + x * at' B k)))) := hb.out.drew.setCell (p := ⟨G, i + k, none⟩) (Nat.le_refl G) _
          generalize at' (mrow x B i Q k) (i + k) = a at *
          generalize at' B k = y at *
          have hw1 : IntKind.i64.wrap (x * y) = x * y := IntWalk.i64_in _ (by omega)
          have hw2 : IntKind.i64.wrap (a + x * y) = a + x * y := IntWalk.i64_in _ (by omega)
          have hw3 : wrap64 (x * y) = x * y := IntWalk.wrap64_in _ (by omega)
          have hw4 : wrap64 (a + x * y) = a + x * y := IntWalk.wrap64_in _ (by omega)
          have hw5 : IntKind.i64.wrap ((i : Int) + (k : Int)) = (i : Int) + (k : Int) := IntWalk.i64_in _ (by omega)
          have hw6 : ((i : Int) + (k : Int)).toNat = i + k := by omega
          have hw7 : 0 ≤ (i : Int) + (k : Int) := by omega
          have hw8 : (i : Int) + (k : Int) < (q : Int) := by omega
          clear hv hp hbd ho hb hlen
          go_wp2_with fail
          go_region
          go_wp2
          go_roundw
          case rel => exact ⟨k + 1, by omega, by go_num, HO, HB⟩
          case measure => simp [intOf]; omega
        · obtain rfl : k = m := by omega
          rw [← hR.out] at ho
          go_wp2
          go_roundw
          case rel => exact ⟨i + 1, by omega, by go_num, ho, hb⟩
          case measure => simp [intOf]; omega
    · obtain rfl : i = n := by omega
      go_wp2
      go_ret
      have ho' := ho.out
      rw [← PA.out] at ho'
      have hl : q = (prod A B).length := by rw [prod_len, ← HN.out, ← HMm.out]; exact HQ.out
      refine ⟨_, rfl, ?_, by rw [← HE.out]; exact hb.out⟩
      rw [← HE.out]
      rw [hl] at ho' ⊢
      exact Own.of_row ho' (by omega) (Nat.le_refl _)
end Go.Proofs.Ytfhcfeafohcjpaa.wh
