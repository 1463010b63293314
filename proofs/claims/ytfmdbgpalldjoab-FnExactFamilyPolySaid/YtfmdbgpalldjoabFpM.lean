/- The program makes a polynomial of terms that are real. -/
import Derived.Test.YtfmdbgpalldjoabFpK
namespace Go.Proofs.Ytfmdbgpalldjoab.fp
open Go.RowKit Go.Fl Go.Fa Go.Fp Go.Proofs.Ytfmdbgpalldjoab.fls Go.Proofs.Ytfmdbgpalldjoab.fa Go.Proofs.Ytfmdbgpalldjoab.fin

/-- n complex numbers, the first k of them made -/
def fcl (f : Nat → Nat) (n k : Nat) : List Value := cl (fun j => if j < k then f j else 0) n
theorem fcl_zero (f : Nat → Nat) (n : Nat) : (madeCells (Value.complex .f32 0 0).cells (n * 1)).toList = fcl f n 0 := by
  rw [Nat.mul_one, show (madeCells (Value.complex .f32 0 0).cells n).toList = List.replicate n (.complex .f32 0 0) from toList_madeCells_one _ _]
  unfold fcl cl
  apply List.ext_getElem (by simp)
  intro i h1 h2
  simp
theorem fcl_all (f : Nat → Nat) (n : Nat) : fcl f n n = cl f n := by
  unfold fcl cl
  apply List.ext_getElem (by simp)
  intro i h1 h2
  have : i < n := by simpa using h2
  simp [this]
theorem fcl_set (f : Nat → Nat) (n k : Nat) : (fcl f n k).set k (.complex .f32 (f k) 0) = fcl f n (k + 1) := by
  unfold fcl cl
  apply List.ext_getElem (by simp)
  intro i h1 h2
  rw [List.getElem_set]
  by_cases h : k = i
  · subst h; simp
  · rw [if_neg h]
    simp only [List.getElem_map, List.getElem_range]
    by_cases h3 : i < k
    · rw [if_pos h3, if_pos (by omega)]
    · rw [if_neg h3, if_neg (by omega)]

theorem store_cplx {w : World} {a : Addr} {b c : Nat} {u : Value} (h : w.cell? a = some u) (hf : w.frozen? a = false) : (store a (.complex .f32 b c)).run Try.prog w = .ok () (w.setCell a (.complex .f32 b c)) := by
  rw [run_store _ _ _ _ _ rfl]
  simp [h, hf]
set_option maxRecDepth 100000 in
set_option maxHeartbeats 1600000 in
theorem ireal_any {v : Value} {n : Nat} {f : Nat → Nat} {w : World} (h : Fls w v (n + 1) f) (hf : ∀ k, k < n + 1 → fin (f k) = true) (hz : isz (f n) = false) (hn : n ≤ 16) : Calls Try.prog 41 #[v] w fun e w' => ∃ g, e = .returned (.tuple #[.agg #[.slice (some ⟨g, 0, none⟩) (n + 1) (n + 1)], .bool true]) ∧ w'.ownsRow w.heap.size 63 1 (.slice (some ⟨g, 0, none⟩) (n + 1) (n + 1)) (n + 1) (cl f (n + 1)) ∧ Below w.heap.size w w' := by
  obtain ⟨i0, hi, hz0, hz1, hz2⟩ := info_parts info_c
  have HTP : Hid (∀ W g, W.ownsRow (w.heap.size + 1) 63 1 (.slice (some ⟨g, 0, none⟩) (n + 1) (n + 1)) (n + 1) (cl f (n + 1)) → Calls Try.prog 47 #[.slice (some ⟨g, 0, none⟩) (n + 1) (n + 1)] W fun e w' => e = .returned (.tuple #[.agg #[.slice (some ⟨g, 0, none⟩) (n + 1) (n + 1)], .bool true]) ∧ w'.ownsRow (w.heap.size + 1) 63 1 (.slice (some ⟨g, 0, none⟩) (n + 1) (n + 1)) (n + 1) (cl f (n + 1)) ∧ Below W.heap.size W w') := fun W g ho => itp_any ho hf hz hn
  obtain ⟨ao, cap, rfl, _, hc⟩ := h
  obtain ⟨b, off, rfl, hbl, hcell⟩ := hc (by omega)
  have HC : Hid (b < w.heap.size ∧ ∀ k, k < n + 1 → w.cell? ⟨b, off + k, none⟩ = some (.float .f32 (f k))) := ⟨hbl, hcell⟩
  have B0 : Hid (Below w.heap.size w (w.alloc (.cells #[.slice none 0 0] 24))) := (Below.refl _ _).alloc (Nat.le_refl _) _
  have X0 : Hid (wh.Bx (w.alloc (.cells #[.slice none 0 0] 24)) w.heap.size (.slice none 0 0)) := wh.Bx.new _ _ _
  have hml : n + 1 ≤ maxLen := by unfold maxLen; omega
  clear hc hbl hcell hf hz
  go_enter Try.func41, Try.ntmps41
  go_wp2_with (first | (refine wpList_make_full _ rfl (.tmp 8) (.tmp 8) 22 rfl (w.heap.size + 1) 63 i0 (.complex .f32 0 0) 1 Try.underlying22 hi hz0 hz1 .i64 .i64 _ _ (n + 1) rfl rfl (by first | rfl | omega) (by first | rfl | omega) (by rw [hz2]; omega) hml (by simp) ?_; intro wm hown hgrow))
  have hsz : (w.alloc (.cells #[.slice none 0 0] 24)).heap.size = w.heap.size + 1 := by simp
  have BM : Hid (Below (w.heap.size + 1) (w.alloc (.cells #[.slice none 0 0] 24)) wm) := (Below.refl _ _).grown hgrow (by simp) (by intro k hk; cases hk)
  have OM : Hid (wm.ownsRow (w.heap.size + 1) 63 1 (.slice (some ⟨w.heap.size + 1, 0, none⟩) (n + 1) (n + 1)) (n + 1) (fcl f (n + 1) 0)) := by
    show _
    rw [fcl_zero f] at hown
    rw [hsz] at hown
    exact hown
  have BW : Hid (Below w.heap.size w wm) := B0.out.trans (BM.out.mono (by omega))
  have XM : Hid (wh.Bx wm w.heap.size (.slice none 0 0)) := X0.out.below BM.out (by omega)
  clear hown hgrow B0 X0 BM hsz
  go_loopw [12] (fun t wr => ∃ (k : Nat), k ≤ n + 1 ∧ t = .int .i64 k ∧ Hid (wr.ownsRow (w.heap.size + 1) 63 1 (.slice (some ⟨w.heap.size + 1, 0, none⟩) (n + 1) (n + 1)) (n + 1) (fcl f (n + 1) k)) ∧ Hid (Below w.heap.size w wr) ∧ Hid (wh.Bx wr w.heap.size (.slice none 0 0))) (fun t _ => n + 1 - (RowKit.intOf t).toNat)
  case atStart => exact ⟨0, by omega, rfl, OM, BW, XM⟩
  case round =>
    obtain ⟨k, hk, rfl, ho, hb, hx⟩ := hrel
    clear OM BW XM
    by_cases hlt : k < n + 1
    · have e1 : wr.cell? ⟨b, off + k, none⟩ = some (.float .f32 (f k)) := (hb.out.cell (p := ⟨b, off + k, none⟩) HC.out.1).trans (HC.out.2 k hlt)
      have e2 : wr.cell? ⟨w.heap.size + 1, k, none⟩ = some (.complex .f32 0 0) := by
        have h1 := ho.out.cellAt k (by omega)
        rw [h1]
        unfold fcl cl
        simp [hlt]
      have e4 := store_cplx (b := f k) (c := 0) e2 (ho.out.frozenAt k)
      have HO : Hid ((wr.setCell ⟨w.heap.size + 1, k, none⟩ (.complex .f32 (f k) 0)).ownsRow (w.heap.size + 1) 63 1 (.slice (some ⟨w.heap.size + 1, 0, none⟩) (n + 1) (n + 1)) (n + 1) (fcl f (n + 1) (k + 1))) := by
        have h := (ho.out.stored k (.complex .f32 (f k) 0)).1
        rw [fcl_set] at h
        exact h
      have HB : Hid (Below w.heap.size w (wr.setCell ⟨w.heap.size + 1, k, none⟩ (.complex .f32 (f k) 0))) := hb.out.setCell (by simp) _
      have HX : Hid (wh.Bx (wr.setCell ⟨w.heap.size + 1, k, none⟩ (.complex .f32 (f k) 0)) w.heap.size (.slice none 0 0)) := hx.out.other (by omega) _
      clear ho hb hx HC HTP
      generalize f k = z at *
      go_wp2_with fail
      go_roundw
      case rel => exact ⟨k + 1, by omega, by go_num, HO, HB, HX⟩
      case measure => simp [RowKit.intOf]; omega
    · obtain rfl : k = n + 1 := by omega
      have HO : Hid (wr.ownsRow (w.heap.size + 1) 63 1 (.slice (some ⟨w.heap.size + 1, 0, none⟩) (n + 1) (n + 1)) (n + 1) (cl f (n + 1))) := by
        have h := ho.out
        rw [fcl_all] at h
        exact h
      clear ho
      go_wp2_with fail
      refine (HTP.out _ _ HO.out).mono ?_
      rintro e w3 ⟨rfl, o3, b3⟩
      have X3 := hx.out.kept b3
      have B3 : Below w.heap.size w w3 := hb.out.trans (b3.mono hb.out.size)
      have HR : Hid ((w3.setCell ⟨w.heap.size, 0, none⟩ (.slice (some ⟨w.heap.size + 1, 0, none⟩) (n + 1) (n + 1))).ownsRow w.heap.size 63 1 (.slice (some ⟨w.heap.size + 1, 0, none⟩) (n + 1) (n + 1)) (n + 1) (cl f (n + 1)) ∧ Below w.heap.size w (w3.setCell ⟨w.heap.size, 0, none⟩ (.slice (some ⟨w.heap.size + 1, 0, none⟩) (n + 1) (n + 1)))) :=
        ⟨own_widen (own_set o3 (by omega) _) (by omega), B3.setCell (by simp) _⟩
      have c1 := X3.cell
      have f1 := X3.free
      have y1 := (X3.set (.slice (some ⟨w.heap.size + 1, 0, none⟩) (n + 1) (n + 1))).cell
      clear X3 B3 o3 b3 hx hb HO HTP
      go_wp2_with fail
      refine bodyPost_ret (v := .tuple #[.agg #[.slice (some ⟨w.heap.size + 1, 0, none⟩) (n + 1) (n + 1)], .bool true]) (by simp [results, Try.results41, y1, go_sem]) rfl ⟨_, rfl, HR.out⟩
end Go.Proofs.Ytfmdbgpalldjoab.fp
