/- Terms less so many times others. -/
import Derived.Test.YtfmdbgpalldjoaaAr
namespace Go.Proofs.Ytfmdbgpalldjoaa.ru
open Go.RowKit Go.Pl Go.Ru Go.Proofs.Ytfmdbgpalldjoaa.wh

theorem zc_eq : Try.zeroCells51 = va (List.replicate 65 0) := by kernel_rfl

set_option maxRecDepth 100000 in
set_option maxHeartbeats 6400000 in
theorem ils_any {c b : Nat → Int} {p f : Int} {m : Nat} (hp : isP p = true) (hm : 1 ≤ m ∧ m ≤ 65) (hf : 0 ≤ f ∧ f ≤ 144) (hc : ∀ j, 0 ≤ c j ∧ c j < p) (hb : ∀ j, 0 ≤ b j ∧ b j < p) (w : World) :
    Calls Try.prog 67 #[.agg (va (ca c 65)), .int .i64 f, .agg (va (ca b 65)), .int .i64 (m : Int), .int .i64 p] w fun e w' => e = .returned (.agg (va (ca (ls p c b m f) 65))) ∧ Below w.heap.size w w' := by
  have hp2 := isP_le hp
  have HP : Hid (1 ≤ p ∧ p ≤ 1000000) := ⟨by omega, by omega⟩
  obtain ⟨W0, hW⟩ : ∃ x, x = ((w.alloc (.cells (va (ca c 65)) 51)).alloc (.cells (va (ca b 65)) 51)).alloc (.cells Try.zeroCells51 51) := ⟨_, rfl⟩
  have S0 : Hid (Ar W0 w.heap.size (ca (lj p c b m f m) 65)) := by
    show Ar _ _ _
    rw [hW, lj_start]
    exact ((Ar.new w _).kept (new1 _ _)).kept (new1 _ _)
  have S1 : Hid (Ar W0 (w.heap.size + 1) (ca b 65)) := by
    show Ar _ _ _
    rw [hW]
    have h := Ar.new (w.alloc (.cells (va (ca c 65)) 51)) (ca b 65)
    rw [World.size_alloc] at h
    exact h.kept (new1 _ _)
  have S2 : Hid (Ar W0 (w.heap.size + 1 + 1) (List.replicate 65 0)) := by
    show Ar _ _ _
    rw [hW, zc_eq]
    have h := Ar.new ((w.alloc (.cells (va (ca c 65)) 51)).alloc (.cells (va (ca b 65)) 51)) (List.replicate 65 0)
    rw [World.size_alloc, World.size_alloc] at h
    exact h
  have SB : Hid (Below w.heap.size w W0) := by rw [hW]; exact new3 _ _ _ _
  have HC : Hid (∀ j, 0 ≤ c j ∧ c j < p) := hc
  have HBB : Hid (∀ j, 0 ≤ b j ∧ b j < p) := hb
  obtain ⟨L, hL⟩ : ∃ L, L = ca (ls p c b m f) 65 := ⟨_, rfl⟩
  have HLE : Hid (L = ca (ls p c b m f) 65) := hL
  have HLL : Hid (L.length = 65) := by show _ = _; rw [hL, ca_len]
  rw [← hL]
  have hm1 := hm.1
  have hm2 := hm.2
  have hf1 := hf.1
  have hf2 := hf.2
  have hp13 := hp2.2
  clear hc hb hp hm hf hp2 hL
  go_enter Try.func67, Try.ntmps67
  go_wp2_with fail
  rw [← hW]
  clear hW
  go_loopw [11] (fun t wr => ∃ j : Nat, m ≤ j ∧ j ≤ 65 ∧ t = .int .i64 (j : Int) ∧ Hid (Ar wr w.heap.size (ca (lj p c b m f j) 65)) ∧ Hid (Ar wr (w.heap.size + 1) (ca b 65)) ∧ Hid (Ar wr (w.heap.size + 1 + 1) (List.replicate 65 0)) ∧ Hid (Below w.heap.size w wr)) (fun t _ => 65 - (intOf t).toNat)
  case atStart => exact ⟨m, Nat.le_refl _, by omega, rfl, S0, S1, S2, SB⟩
  case round =>
    obtain ⟨j, hmj, hj, rfl, a0, a1, a2, hb⟩ := hrel
    clear S0 S1 S2 SB
    by_cases hlt : j < 65
    · have e1 : wr.cell? ⟨w.heap.size, j, none⟩ = some (.int .i64 (c j)) := a0.out.cell (by rw [ca_get _ _ _ hlt, lj_at])
      have e2 : wr.cell? ⟨w.heap.size + 1, j - m, none⟩ = some (.int .i64 (b (j - m))) := a1.out.cell (ca_get _ _ _ (by omega))
      have e3 : wr.drew.frozen? ⟨w.heap.size, j, none⟩ = false := (show Ar wr.drew _ _ from a0.out).free j
      have h1 := HC.out j
      have h2 := HBB.out (j - m)
      have h3 := mul_ab (A := 144) (B := 12) (a := f) (b := b (j - m)) (by omega) (by omega)
      have PUT : Hid (∀ v, v = md (c j - f * b (j - m)) p → Ar (wr.drew.setCell ⟨w.heap.size, j, none⟩ (.int .i64 v)) w.heap.size (ca (lj p c b m f (j + 1)) 65)) := fun v hv => by
        rw [← lj_step p c b m f j hmj 65, ← hv]
        exact (show Ar wr.drew _ _ from a0.out).set j v
      obtain ⟨x, hx⟩ : ∃ x, x = c j := ⟨_, rfl⟩
      obtain ⟨y, hy⟩ : ∃ y, y = b (j - m) := ⟨_, rfl⟩
      rw [← hx] at e1 h1 PUT
      rw [← hy] at e2 h2 h3 PUT
      obtain ⟨q, hq⟩ : ∃ q, q = f * y := ⟨_, rfl⟩
      rw [← hq] at h3 PUT
      have w1 : IntKind.i64.wrap (f * y) = q := by rw [← hq]; exact IntWalk.i64_in _ (by omega)
      have w1' : wrap64 (f * y) = q := by rw [← hq]; exact IntWalk.wrap64_in _ (by omega)
      obtain ⟨d, hd⟩ : ∃ d, d = x - q := ⟨_, rfl⟩
      rw [← hd] at PUT
      have w2 : IntKind.i64.wrap (x - q) = d := by rw [← hd]; exact IntWalk.i64_in _ (by omega)
      have w2' : wrap64 (x - q) = d := by rw [← hd]; exact IntWalk.wrap64_in _ (by omega)
      obtain ⟨v, hv⟩ : ∃ v, v = md d p := ⟨_, rfl⟩
      have P0 : Hid (Ar (wr.drew.setCell ⟨w.heap.size, j, none⟩ (.int .i64 v)) w.heap.size (ca (lj p c b m f (j + 1)) 65)) := PUT.out v hv
      have P1 : Hid (Ar (wr.drew.setCell ⟨w.heap.size, j, none⟩ (.int .i64 v)) (w.heap.size + 1) (ca b 65)) := (show Ar wr.drew _ _ from a1.out).other (by omega) _
      have P2 : Hid (Ar (wr.drew.setCell ⟨w.heap.size, j, none⟩ (.int .i64 v)) (w.heap.size + 1 + 1) (List.replicate 65 0)) := (show Ar wr.drew _ _ from a2.out).other (by omega) _
      have PB : Hid (Below w.heap.size w (wr.drew.setCell ⟨w.heap.size, j, none⟩ (.int .i64 v))) := (Below.drew hb.out).setCell (Nat.le_refl _) _
      have hst := store_int (b := v) (show wr.drew.cell? _ = _ from e1) (show wr.drew.frozen? _ = _ from e3)
      have HMD : Hid (∀ w, Calls Try.prog 32 #[.int .i64 d, .int .i64 p] w fun e w' => e = .returned (.int .i64 v) ∧ w' = w) := fun w => by rw [hv]; exact rem_any d p HP.out w
      have d1 : IntKind.i64.wrap ((j : Int) - (m : Int)) = (j : Int) - (m : Int) := IntWalk.i64_in _ (by omega)
      have d2 : (0 : Int) ≤ (j : Int) - (m : Int) := by omega
      have d3 : ((j : Int) - (m : Int)).toNat = j - m := by omega
      have d4 : (j : Int) - (m : Int) < 65 := by omega
      have d5 : (j : Int) < 65 := by omega
      clear hx hy hq hd hv a0 a1 a2 hb h1 h2 h3 PUT
      go_wp2_with fail
      go_region_law (first | (go_simp; go_at_call 32; refine (HMD.out _).mono ?_; rintro e w0 ⟨rfl, hw0⟩; rw [hw0]; clear hw0))
      all_goals (go_wp2; go_roundw; (case rel => exact ⟨j + 1, by omega, by omega, by go_num, P0, P1, P2, PB⟩); (case measure => simp [RowKit.intOf]; omega))
    · obtain rfl : j = 65 := by omega
      have HR : Hid (Ar wr w.heap.size L) := by have := a0.out; rw [lj_end, ← HLE.out] at this; exact this
      have HS := Lib.hid a2.out
      have AR : Hid (Ar (wr.setRow (w.heap.size + 1 + 1) (va L)) (w.heap.size + 1 + 1) L) := a2.out.row
      have HB : Hid (Below w.heap.size w (wr.setRow (w.heap.size + 1 + 1) (va L))) := below_row hb.out (by omega) _
      clear a0 a1 a2 hb
      go_wp2_with (first | (refine wpl_load_ar rfl (.tmp 5) rfl w.heap.size rfl HR.out HLL.out ?_) | (refine wpl_store_ar rfl (.tmp 10) (.tmp 32) rfl (w.heap.size + 1 + 1) rfl (by rfl) HS.out (by simp) HLL.out ?_))
      refine bodyPost_ret (results_cell_row rfl _ _ (w.heap.size + 1 + 1) _ _ (0, 0) _ rfl AR.out Try.underlying51 rfl (by rw [va_size, HLL.out]; exact info_r)) rfl ?_
      exact ⟨rfl, HB.out⟩
end Go.Proofs.Ytfmdbgpalldjoaa.ru
