/- The program makes the terms of the next polynomial. -/
import Derived.Test.YtfmdbgpalldjoabFpM
import Derived.Test.YtfmdbgpalldjoabFpX
import Derived.Deep.RegionLaw
import Derived.Deep.DeepCutAuto
import Derived.Deep.QuietTactic
import Derived.BigQuiet
import Derived.Deep.RegionHeld3
import Derived.Lib.Hide
namespace Go.Proofs.Ytfmdbgpalldjoab.fp
open Go.RowKit Go.Fl Go.Fa Go.Fp Go.Proofs.Ytfmdbgpalldjoab.fls Go.Proofs.Ytfmdbgpalldjoab.fa Go.Proofs.Ytfmdbgpalldjoab.fin

theorem store_flt {w : World} {a : Addr} {b : Nat} {u : Value} (h : w.cell? a = some u) (hf : w.frozen? a = false) : (store a (.float .f32 b)).run Try.prog w = .ok () (w.setCell a (.float .f32 b)) := by
  rw [run_store _ _ _ _ _ rfl]
  simp [h, hf]
theorem zeros_f (n : Nat) : (madeCells (Value.float .f32 0).cells (n * 1)).toList = List.replicate n (.float .f32 0) := by
  rw [Nat.mul_one]
  exact toList_madeCells_one _ _
/-- so many numbers as cells -/
def fl (f : Nat → Nat) (n : Nat) : List Value := (List.range n).map fun k => .float .f32 (f k)
theorem tm_at {l : List Nat} {n : Nat} (hl : l.length = n) (k : Nat) : tm (at0 l) n (k : Int) = at0 l k := by
  unfold tm
  split
  · rw [Int.toNat_natCast]
  · unfold at0
    rw [List.getElem?_eq_none (by omega)]; rfl
theorem tm_ahead {l : List Nat} {n : Nat} (k : Nat) (h : k < n + 1) : tm (at0 l) n ((k : Int) - 1) = if k = 0 then 0 else at0 l (k - 1) := by
  unfold tm
  by_cases e : k = 0
  · subst e; rw [if_neg (by omega), if_pos rfl]
  · rw [if_pos (by omega), if_neg e]
    congr 1
    omega
set_option maxRecDepth 100000 in
set_option maxHeartbeats 3200000 in
theorem inext_any (kd j : Nat) (hkd : kd ≤ 4) (hj : j < 16) {v0 v1 : Value} {w : World} (a1 : Fls w v1 (j + 1) (at0 (tl kd j).1)) (a0 : Fls w v0 j (at0 (tl kd j).2)) :
    Calls Try.prog 48 #[.agg #[.float .f32 (ra kd j), .float .f32 (rb kd j), .float .f32 (rc kd j)], v1, v0] w fun e w' => ∃ g, e = .returned (.slice (some ⟨g, 0, none⟩) (j + 2) (j + 2)) ∧ w.heap.size ≤ g ∧ w'.ownsRow w.heap.size 31 1 (.slice (some ⟨g, 0, none⟩) (j + 2) (j + 2)) (j + 2) (fl (at0 (tl kd (j + 1)).1) (j + 2)) ∧ Below w.heap.size w w' := by
  obtain ⟨i0, hi, hz0, hz1, hz2⟩ := info_parts info_f
  have HOPS : Hid (∀ k, k < j + 2 → ∃ x1 x2 x3 r1 r2 r3 r4 r5 : Nat, x1 = tm (at0 (tl kd j).1) (j + 1) ((k : Int) - 1) ∧ x2 = tm (at0 (tl kd j).1) (j + 1) (k : Int) ∧ x3 = tm (at0 (tl kd j).2) j (k : Int) ∧ r5 = at0 (tl kd (j + 1)).1 k ∧
      floatBits .mul .f32 (ra kd j) x1 = some r1 ∧ floatBits .mul .f32 (rb kd j) x2 = some r2 ∧ floatBits .add .f32 r1 r2 = some r3 ∧ floatBits .mul .f32 (rc kd j) x3 = some r4 ∧ floatBits .sub .f32 r3 r4 = some r5) := fun k hk => by
    obtain ⟨x1, x2, x3, r1, r2, r3, r4, r5, e1, e2, e3, h⟩ := ex_ops kd j k hkd hj hk
    exact ⟨x1, x2, x3, r1, r2, r3, r4, r5, by rw [tm_ahead k (by omega)]; exact e1, by rw [tm_at (tl_len kd j).1]; exact e2, by rw [tm_at (tl_len kd j).2]; exact e3, h⟩
  have HA0 : Hid (∀ k : Nat, k ≤ 100 → ∀ W, Below w.heap.size w W → Calls Try.prog 54 #[v0, .int .i64 k] W fun e w' => e = .returned (.float .f32 (tm (at0 (tl kd j).2) j k)) ∧ w' = W) := fun k hk W hb => term_any (a0.below hb) k (by omega)
  have HA1 : Hid (∀ k : Nat, k ≤ 100 → ∀ W, Below w.heap.size w W → Calls Try.prog 54 #[v1, .int .i64 k] W fun e w' => e = .returned (.float .f32 (tm (at0 (tl kd j).1) (j + 1) k)) ∧ w' = W) := fun k hk W hb => term_any (a1.below hb) k (by omega)
  have HA2 : Hid (∀ k : Nat, k ≤ 100 → ∀ W, Below w.heap.size w W → Calls Try.prog 54 #[v1, .int .i64 ((k : Int) - 1)] W fun e w' => e = .returned (.float .f32 (tm (at0 (tl kd j).1) (j + 1) ((k : Int) - 1))) ∧ w' = W) := fun k hk W hb => term_any (a1.below hb) _ (by omega)
  obtain ⟨ao1, cap1, rfl, _, _⟩ := a1
  obtain ⟨ao0, cap0, rfl, _, _⟩ := a0
  have hml : j + 1 + 1 ≤ maxLen := by unfold maxLen; omega
  generalize tm (at0 (tl kd j).2) j = T0 at *
  generalize tm (at0 (tl kd j).1) (j + 1) = T1 at *
  generalize at0 (tl kd (j + 1)).1 = TR at *
  generalize ra kd j = qa at *
  generalize rb kd j = qb at *
  generalize rc kd j = qc at *
  go_enter Try.func48, Try.ntmps48
  go_wp2_with (first | (refine wpList_make_full _ rfl (.tmp 12) (.tmp 12) 30 rfl (w.heap.size + 1) 31 i0 (.float .f32 0) 1 Try.underlying30 hi hz0 hz1 .i64 .i64 _ _ (j + 1 + 1) rfl rfl (by first | rfl | omega) (by first | rfl | omega) (by rw [hz2]; omega) hml (by simp) ?_; intro wm hown hgrow))
  have hsz : (w.alloc (.cells #[.float .f32 qa, .float .f32 qb, .float .f32 qc] 57)).heap.size = w.heap.size + 1 := by simp
  obtain ⟨W0, hW0⟩ : ∃ x, x = w.alloc (.cells #[.float .f32 qa, .float .f32 qb, .float .f32 qc] 57) := ⟨_, rfl⟩
  have BM : Hid (Below (w.heap.size + 1) W0 wm) := by rw [hW0]; exact (Below.refl _ _).grown hgrow (by simp) (by intro k hk; cases hk)
  have OM : Hid (wm.ownsRow (w.heap.size + 1) 31 1 (.slice (some ⟨w.heap.size + 1, 0, none⟩) (j + 1 + 1) (j + 1 + 1)) (j + 1 + 1) (List.replicate (j + 1 + 1) (.float .f32 0))) := by
    show _
    rw [zeros_f] at hown
    rw [hsz] at hown
    exact hown
  have B0 : Hid (Below w.heap.size w W0) := by rw [hW0]; exact (Below.refl _ _).alloc (Nat.le_refl _) _
  have hrow : W0.heap[w.heap.size]? = some (.cells #[.float .f32 qa, .float .f32 qb, .float .f32 qc] 57 (0, 0)) := by rw [hW0]; exact heap_alloc_new w _
  have HQ : Hid (W0.cell? ⟨w.heap.size, 0, none⟩ = some (.float .f32 qa) ∧ W0.cell? ⟨w.heap.size, 1, none⟩ = some (.float .f32 qb) ∧ W0.cell? ⟨w.heap.size, 2, none⟩ = some (.float .f32 qc)) := ⟨by rw [cell_of_row _ _ _ _ _ _ hrow]; rfl, by rw [cell_of_row _ _ _ _ _ _ hrow]; rfl, by rw [cell_of_row _ _ _ _ _ _ hrow]; rfl⟩
  clear hown hgrow hsz hrow hW0
  go_loopw [16] (fun t wr => ∃ (k : Nat) (L : List Value), k ≤ j + 1 + 1 ∧ t = .int .i64 k ∧ Hid (wr.ownsRow (w.heap.size + 1) 31 1 (.slice (some ⟨w.heap.size + 1, 0, none⟩) (j + 1 + 1) (j + 1 + 1)) (j + 1 + 1) L) ∧ Hid (∀ i, i < k → L[i]? = some (.float .f32 (TR i))) ∧ Hid (Below (w.heap.size + 1) W0 wr)) (fun t _ => j + 1 + 1 - (RowKit.intOf t).toNat)
  case atStart => exact ⟨0, _, by omega, rfl, OM, fun i hi => by omega, BM⟩
  case round =>
    obtain ⟨k, L, hk, rfl, ho, hl, hb⟩ := hrel
    clear OM BM
    by_cases hlt : k < j + 1 + 1
    · have hLl : L.length = j + 1 + 1 := by have := ho.out.1; simpa using this
      obtain ⟨u, hu⟩ : ∃ u, L[k]? = some u := ⟨L[k]'(by omega), List.getElem?_eq_getElem (by omega)⟩
      have BW : Hid (∀ q, Below w.heap.size w (wr.drewN q)) := fun q => Go.Pst.below_drewN (B0.out.trans (hb.out.mono (by omega))) q
      obtain ⟨x1, x2, x3, r1, r2, r3, r4, r5, ex1, ex2, ex3, ex5, f1, f2, f3, f4, f5⟩ := HOPS.out k (by omega)
      have C2 := fun q => HA2.out k (by omega) _ (BW.out q)
      have C1 := fun q => HA1.out k (by omega) _ (BW.out q)
      have HC0 := Lib.hid (HA0.out k (by omega))
      rw [← ex1] at C2
      rw [← ex2] at C1
      rw [← ex3] at HC0
      have m1 := fun t w => run_float_arith (P := Try.prog) w .mul t .f32 _ _ _ f1
      have m2 := fun t w => run_float_arith (P := Try.prog) w .mul t .f32 _ _ _ f2
      have m3 := fun t w => run_float_arith (P := Try.prog) w .add t .f32 _ _ _ f3
      have m4 := fun t w => run_float_arith (P := Try.prog) w .mul t .f32 _ _ _ f4
      have m5 := fun t w => run_float_arith (P := Try.prog) w .sub t .f32 _ _ _ f5
      have q1 : ∀ q, (wr.drewN q).cell? ⟨w.heap.size, 0, none⟩ = some (.float .f32 qa) := fun q => ((Go.Pst.below_drewN hb.out q).cell (p := ⟨w.heap.size, 0, none⟩) (Nat.lt_succ_self _)).trans HQ.out.1
      have q2 : ∀ q, (wr.drewN q).cell? ⟨w.heap.size, 1, none⟩ = some (.float .f32 qb) := fun q => ((Go.Pst.below_drewN hb.out q).cell (p := ⟨w.heap.size, 1, none⟩) (Nat.lt_succ_self _)).trans HQ.out.2.1
      have q3 : ∀ q, (wr.drewN q).cell? ⟨w.heap.size, 2, none⟩ = some (.float .f32 qc) := fun q => ((Go.Pst.below_drewN hb.out q).cell (p := ⟨w.heap.size, 2, none⟩) (Nat.lt_succ_self _)).trans HQ.out.2.2
      have p1 := q1 0
      have p2 := q2 0
      have p3 := q3 0
      change wr.cell? _ = _ at p1 p2 p3
      clear ex1 ex2 ex3 f1 f2 f3 f4 f5
      go_wp2_with fail
      go_quiet (first | (go_at_call 54; first | (with_reducible exact Calls.quiet_of_same (C2 _)) | (with_reducible exact Calls.quiet_of_same (C1 _))))
      obtain ⟨w5, hw5⟩ : ∃ x, x = wr.drewN nq := ⟨_, rfl⟩
      have HO5 : Hid (w5.ownsRow (w.heap.size + 1) 31 1 (.slice (some ⟨w.heap.size + 1, 0, none⟩) (j + 1 + 1) (j + 1 + 1)) (j + 1 + 1) L) := by rw [hw5]; exact ho.out
      have HB5 : Hid (Below (w.heap.size + 1) W0 w5) := by rw [hw5]; exact Go.Pst.below_drewN hb.out nq
      have HBw5 : Hid (Below w.heap.size w w5) := by rw [hw5]; exact BW.out nq
      have P3 : w5.cell? ⟨w.heap.size, 2, none⟩ = some (.float .f32 qc) := by rw [hw5]; exact q3 nq
      rw [← hw5]
      clear hw5 q1 q2 q3 p1 p2 p3 C1 C2 m1 m2 m3 ho hb BW
      have e4 : w5.drew.cell? ⟨w.heap.size + 1, k, none⟩ = some u := ((show w5.drew.ownsRow _ _ _ _ _ _ from HO5.out).cellAt k (by omega)).trans hu
      have e5 : w5.drew.frozen? ⟨w.heap.size + 1, k, none⟩ = false := (show w5.drew.ownsRow _ _ _ _ _ _ from HO5.out).frozenAt k
      have hst := store_flt (b := r5) e4 e5
      have HO : Hid ((w5.drew.setCell ⟨w.heap.size + 1, k, none⟩ (.float .f32 r5)).ownsRow (w.heap.size + 1) 31 1 (.slice (some ⟨w.heap.size + 1, 0, none⟩) (j + 1 + 1) (j + 1 + 1)) (j + 1 + 1) (L.set k (.float .f32 r5))) := ((show w5.drew.ownsRow _ _ _ _ _ _ from HO5.out).stored k (.float .f32 r5)).1
      have HL : Hid (∀ i, i < k + 1 → (L.set k (.float .f32 r5))[i]? = some (.float .f32 (TR i))) := fun i hi => by
        by_cases e : i = k
        · subst e
          rw [List.getElem?_set_self (by omega), ex5]
        · rw [List.getElem?_set_ne (by omega)]
          exact hl.out i (by omega)
      have HB : Hid (Below (w.heap.size + 1) W0 (w5.drew.setCell ⟨w.heap.size + 1, k, none⟩ (.float .f32 r5))) := (Below.drew HB5.out).setCell (Nat.le_refl _) _
      have HC := Lib.hid (HC0.out w5.drew (Below.drew HBw5.out))
      have d1 : (0 : Int) ≤ (k : Int) := by omega
      have d2 : (k : Int) < (j : Int) + 1 + 1 := by omega
      clear HC0 HO5 HB5 HBw5 hl hu ex5 HA0 HA1 HA2 HOPS HQ B0 hLl
      go_wp2_with fail
      go_region_law (first | (go_simp; go_at_call 54; refine (HC.out).mono ?_; rintro e w0 ⟨rfl, hw0⟩; rw [hw0]; clear hw0))
      all_goals (go_wp2; go_roundw; (case rel => exact ⟨k + 1, _, by omega, by go_num, HO, HL, HB⟩); (case measure => simp [RowKit.intOf]; omega))
    · obtain rfl : k = j + 1 + 1 := by omega
      have HR : Hid (wr.ownsRow w.heap.size 31 1 (.slice (some ⟨w.heap.size + 1, 0, none⟩) (j + 1 + 1) (j + 1 + 1)) (j + 1 + 1) (fl TR (j + 2)) ∧ Below w.heap.size w wr) := by
        refine ⟨?_, B0.out.trans (hb.out.mono (by omega))⟩
        have hLl : L.length = j + 1 + 1 := by have := ho.out.1; simpa using this
        have e : L = fl TR (j + 2) := by
          apply List.ext_getElem?
          intro i
          by_cases hi : i < j + 2
          · rw [hl.out i (by omega)]
            unfold fl
            rw [List.getElem?_map, List.getElem?_range hi]
            rfl
          · rw [List.getElem?_eq_none (by omega), List.getElem?_eq_none (by simp [fl]; omega)]
        rw [← e]
        exact own_widen ho.out (by omega)
      clear ho hl hb B0 HQ HA0 HA1 HA2 HOPS
      go_wp2_with fail
      go_ret
      exact ⟨_, rfl, by omega, HR.out⟩
end Go.Proofs.Ytfmdbgpalldjoab.fp
