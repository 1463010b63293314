/- The divisors of a number, as the program lists them. -/
import Derived.Test.YtdammgflmkamaaaFnO
namespace Go.Pl
def divs (n k : Nat) : List Int := ((List.range k).filter fun (j : Nat) => n % (j + 1) == 0).map fun (j : Nat) => (((j + 1 : Nat)) : Int)
theorem divs_yes {n k : Nat} (h : n % (k + 1) = 0) : divs n (k + 1) = divs n k ++ [((k + 1 : Nat) : Int)] := by
  simp [divs, List.range_succ, h]
theorem divs_no {n k : Nat} (h : n % (k + 1) ≠ 0) : divs n (k + 1) = divs n k := by
  simp [divs, List.range_succ, h]
theorem divs_len (n k : Nat) : (divs n k).length ≤ k := by
  unfold divs
  rw [List.length_map]
  have := List.length_filter_le (fun (j : Nat) => n % (j + 1) == 0) (List.range k)
  rw [List.length_range] at this
  exact this
end Go.Pl
namespace Go.Proofs.Ytdammgflmkamaaa.wh
open Go.RowKit Go.Pl

set_option maxRecDepth 100000 in
set_option maxHeartbeats 1600000 in
theorem divs_any (n : Nat) (h1 : 1 ≤ n) (hn : n ≤ 1000000) (w : World) :
    Calls Try.prog 71 #[.int .i64 n] w fun e w' => ∃ v', e = .returned v' ∧ Own w' w.heap.size w'.heap.size v' (divs n n) ∧ Below w.heap.size w w' := by
  obtain ⟨i0, hi, hz0, hz1, hz2⟩ := info_parts info_i
  have start : Hid ((w.alloc (.cells #[] 2)).ownsRow w.heap.size 2 1 (.slice (some ⟨w.heap.size, 0, none⟩) 0 0) (divs n 0).length ((divs n 0).map (Value.int .i64))) :=
    ⟨rfl, .inr ⟨w.heap.size, 0, #[], rfl, Nat.le_refl _, heap_alloc_new w _, by simp [divs], by decide, rfl, rfl⟩⟩
  have startB : Hid (Below w.heap.size w (w.alloc (.cells #[] 2))) := new1 _ _
  go_enter Try.func71, Try.ntmps71
  go_wp2_with fail
  go_loopw [3, 4] (fun o t wr => ∃ (k g cp q : Nat), k ≤ n ∧ q = (divs n k).length ∧ o = .slice (some ⟨g, 0, none⟩) q cp ∧ t = .int .i64 ((k + 1 : Nat) : Int) ∧ Hid (w.heap.size ≤ g) ∧ Hid (wr.ownsRow w.heap.size 2 1 (.slice (some ⟨g, 0, none⟩) q cp) q ((divs n k).map (Value.int .i64))) ∧ Hid (Below w.heap.size w wr)) (fun _ t _ => n + 1 - (intOf t).toNat)
  case atStart => exact ⟨0, _, _, 0, by omega, rfl, rfl, rfl, Nat.le_refl _, start, startB⟩
  case round =>
    obtain ⟨k, g, cp, q, hk, hq, rfl, rfl, hg, ho, hb⟩ := hrel
    clear start startB
    have HQ : Hid (q = (divs n k).length) := hq
    have hqk : q ≤ k := by rw [hq]; exact divs_len n k
    clear hq
    have hkc : ((k + 1 : Nat) : Int) = (k : Int) + 1 := by omega
    have hkz : (((k : Int) + 1) == 0) = false := by rw [beq_eq_false_iff_ne]; omega
    by_cases hlt : k < n
    · have hem : (n : Int) % ((k : Int) + 1) = ((n % (k + 1) : Nat) : Int) := by
        rw [← hkc]; exact (Int.natCast_emod n (k + 1)).symm
      have htm : Int.tmod (n : Int) ((k : Int) + 1) = ((n % (k + 1) : Nat) : Int) := by
        rw [Int.tmod_eq_emod_of_nonneg (by omega)]; exact hem
      have hml : n % (k + 1) < k + 1 := Nat.mod_lt _ (by omega)
      have HS : Hid (w.heap.size ≤ wr.heap.size) := hb.out.size
      by_cases hd : n % (k + 1) = 0
      · have hzz : Hid ((divs n k).map (Value.int .i64) ++ [Value.int .i64 ((k : Int) + 1)] = (divs n (k + 1)).map (Value.int .i64)) := by
          show _ = _
          rw [divs_yes hd]; simp
        have HQ1 : Hid (q + 1 = (divs n (k + 1)).length) := by show _ = _; rw [divs_yes hd, HQ.out]; simp
        rw [hd] at htm hem
        clear hml
        go_wp2_with (first | (at_builtin; refine wpList_append_own _ rfl (.tmp 18) (.tmp 20) 22 rfl w.heap.size 2 i0 (.int .i64 0) 1 8 Try.underlying22 hi hz0 hz1 hz2 rfl (by decide) _ q _ rfl (ho.out.alloc _) ⟨wr.heap.size, 0, none⟩ 1 1 [.int .i64 _] rfl rfl (cell_one_new wr _ _) (by intro u hu; rw [List.mem_singleton] at hu; subst hu; rfl) (by unfold maxLen; omega) (by omega) (by have := HS.out; simp; omega) ?_; intro v' w3 hown' hgrow _))
        obtain ⟨g', cap', rfl⟩ := own_shape hown' (by omega)
        rw [hzz.out] at hown'
        have HG : Hid (w.heap.size ≤ g') := by
          rcases hown'.2 with ⟨h', _⟩ | ⟨g2, cap2, cur, h', hB, _⟩
          · simp at h'
          · simp only [Value.slice.injEq, Option.some.injEq, Addr.mk.injEq, and_true] at h'
            obtain ⟨rfl, _⟩ := h'
            exact hB
        have HO : Hid (w3.ownsRow w.heap.size 2 1 (.slice (some ⟨g', 0, none⟩) (q + 1) cap') (q + 1) ((divs n (k + 1)).map (Value.int .i64))) := hown'
        have HB : Hid (Below w.heap.size w w3) := (hb.out.alloc HS.out _).grown hgrow (by have := HS.out; simp; omega) (by intro j hj; have hj' : some g = some j := hj; injection hj' with hj'; have := hg.out; omega)
        clear hown' hgrow
        go_roundw
        case rel => exact ⟨k + 1, g', cap', q + 1, by omega, HQ1.out, rfl, by go_num, HG, HO, HB⟩
        case measure => simp [RowKit.intOf]; omega
      · have HQ1 : Hid (q = (divs n (k + 1)).length) := by show _ = _; rw [divs_no hd]; exact HQ.out
        have HO : Hid (wr.ownsRow w.heap.size 2 1 (.slice (some ⟨g, 0, none⟩) q cp) q ((divs n (k + 1)).map (Value.int .i64))) := by rw [divs_no hd]; exact ho.out
        have hdb : ((((n % (k + 1) : Nat) : Int)) == 0) = false := by rw [beq_eq_false_iff_ne]; omega
        clear ho
        generalize n % (k + 1) = r at *
        go_wp2_with fail
        go_roundw
        case rel => exact ⟨k + 1, g, cp, q, by omega, HQ1.out, rfl, by go_num, hg, HO, hb⟩
        case measure => simp [RowKit.intOf]; omega
    · obtain rfl : n = k := by omega
      have HO : Hid (Own wr w.heap.size wr.heap.size (.slice (some ⟨g, 0, none⟩) q cp) (divs n n)) := by
        have h2 := ho.out
        have h3 : wr.ownsRow w.heap.size 2 1 (.slice (some ⟨g, 0, none⟩) q cp) (divs n n).length ((divs n n).map (Value.int .i64)) := by rw [← HQ.out]; exact h2
        exact Own.of_row h3 (by have := HQ.out; omega) (Nat.le_refl _)
      clear ho hi hz0 hz1 hz2
      go_wp2_with fail
      go_ret
      exact ⟨_, rfl, HO.out, hb.out⟩
end Go.Proofs.Ytdammgflmkamaaa.wh
