/- FamilyPoly: what the model answers. -/
import Derived.Test.YtfmdbgpalldjoabFpG
namespace Go.Proofs.Ytfmdbgpalldjoab.fp
open Go.RowKit Go.Fl Go.Fa Go.Fp Go.Proofs.Ytfmdbgpalldjoab.fls Go.Proofs.Ytfmdbgpalldjoab.fa Go.Proofs.Ytfmdbgpalldjoab.fin

theorem in_nat2 {k n : Int} (h : inF k n = true) : ∃ a b : Nat, k = a ∧ n = b ∧ a ≤ 4 ∧ b ≤ 16 := by
  have h' : 0 ≤ k ∧ k ≤ 4 ∧ 0 ≤ n ∧ n ≤ 16 := of_decide_eq_true h
  exact ⟨k.toNat, n.toNat, by omega, by omega, by omega, by omega⟩
/-- the terms of the polynomial n -/
def T (k n : Nat) : Nat → Nat := at0 (tl k n).1
/-- an ending that answers so: the polynomial, in memory of its own, and whether there is one -/
def PAns (k n : Int) (w : World) (e : Ending) (w' : World) : Prop :=
  (∃ a b g cap : Nat, k = a ∧ n = b ∧ a ≤ 4 ∧ b ≤ 16 ∧ e = .returned (.tuple #[.agg #[.slice (some ⟨g, 0, none⟩) (b + 1) cap], .bool true]) ∧ w'.ownsRow w.heap.size 63 1 (.slice (some ⟨g, 0, none⟩) (b + 1) cap) (b + 1) (cl (T a b) (b + 1)) ∧ Below w.heap.size w w') ∨ (inF k n = false ∧ e = .returned (.tuple #[.agg #[.slice none 0 0], .bool false]) ∧ Below w.heap.size w w')
theorem fls_fin {w : World} {v : Value} {n : Nat} {f F : Nat → Nat} (h : Fls w v n f) (hs : ∀ k, k < n → Sm .f32 (f k) (F k)) (hF : ∀ k, k < n → fin (F k) = true) : Fls w v n F := by
  obtain ⟨ao, cap, rfl, hn, hc⟩ := h
  refine ⟨ao, cap, rfl, hn, fun h0 => ?_⟩
  obtain ⟨b, off, rfl, hl, hcell⟩ := hc h0
  exact ⟨b, off, rfl, hl, fun k hk => by rw [hcell k hk, sm_fin (hs k hk) (hF k hk)]⟩

set_option maxRecDepth 100000 in
set_option maxHeartbeats 1600000 in
theorem sfp_any (k n : Int) (w : World) : Calls Try.prog 5 #[.int .i64 k, .int .i64 n] w (PAns k n w) := by
  have X0 : wh.Bx (w.alloc (.cells #[.slice none 0 0] 24)) w.heap.size (.slice none 0 0) := wh.Bx.new _ _ _
  have B0 : Hid (Below w.heap.size w (w.alloc (.cells #[.slice none 0 0] 24))) := (Below.refl _ _).alloc (Nat.le_refl _) _
  cases hv : inF k n with
  | false =>
    have HV : Hid (inF k n = false) := hv
    have HR : Hid (PAns k n w (.returned (.tuple #[.agg #[.slice none 0 0], .bool false])) (w.alloc (.cells #[.slice none 0 0] 24))) := .inr ⟨hv, rfl, B0.out⟩
    clear hv X0
    go_enter Try.func5, Try.ntmps5
    go_wp2_with fail
    refine (sin_any _ _ _).mono ?_
    rintro e w1 ⟨rfl, hw⟩
    rw [hw, HV.out]
    clear hw
    go_wp2_with fail
    refine bodyPost_ret (v := .tuple #[.agg #[.slice none 0 0], .bool false]) (by simp [results, Try.results5, go_sem]) rfl HR.out
  | true =>
    have HV : Hid (inF k n = true) := hv
    obtain ⟨a, b, rfl, rfl, ha, hb⟩ := in_nat2 hv
    have HX := Lib.hid X0
    clear hv X0
    go_enter Try.func5, Try.ntmps5
    go_wp2_with fail
    refine (sin_any _ _ _).mono ?_
    rintro e w1 ⟨rfl, hw⟩
    rw [hw, HV.out]
    clear hw
    go_wp2_with fail
    refine (sterms_any a b ha hb _).mono ?_
    rintro e w2 ⟨g, cap, L, rfl, o2, l2, b2⟩
    obtain ⟨f, hf, hfs⟩ := fls_own (by omega) o2 l2
    have HF := Lib.hid (fls_fin hf hfs (fun k hk => tl_fin a b ha hb k hk))
    have B2 : Hid (Below (w.alloc (.cells #[.slice none 0 0] 24)).heap.size (w.alloc (.cells #[.slice none 0 0] 24)) w2) := b2
    clear o2 l2 b2 hf hfs
    go_wp2_with fail
    refine (scx_any HF.out (by omega)).mono ?_
    rintro e w3 ⟨g1, cap1, rfl, o3, b3⟩
    have HO3 := Lib.hid o3
    have B3 := Lib.hid (B2.out.trans (b3.mono B2.out.size))
    clear o3 b3 HF B2
    go_wp2_with fail
    refine (sgive_any HO3.out (fun k hk => tl_fin a b ha hb k hk) (tl_top a b ha hb) hb).mono ?_
    rintro e w4 ⟨g2, cap2, rfl, o4, b4⟩
    have B4 := Lib.hid (B3.out.trans (b4.mono B3.out.size))
    have Y4 := HX.out.kept B4.out
    have HO4 : Hid (w4.ownsRow (w.heap.size + 1) 63 1 (.slice (some ⟨g2, 0, none⟩) (b + 1) cap2) (b + 1) (cl (T a b) (b + 1))) := own_widen o4 (by have := B3.out.size; simp at this; omega)
    have c1 := Y4.cell
    have f1 := Y4.free
    have y1 := (Y4.set (.slice (some ⟨g2, 0, none⟩) (b + 1) cap2)).cell
    have HR : Hid (PAns a b w (.returned (.tuple #[.agg #[.slice (some ⟨g2, 0, none⟩) (b + 1) cap2], .bool true])) (w4.setCell ⟨w.heap.size, 0, none⟩ (.slice (some ⟨g2, 0, none⟩) (b + 1) cap2))) :=
      .inl ⟨a, b, g2, cap2, rfl, rfl, ha, hb, rfl, own_widen (own_set HO4.out (by omega) _) (by omega), (B0.out.trans (B4.out.mono (by simp))).setCell (by simp) _⟩
    clear o4 b4 B4 B3 Y4 HO3 HO4 HX B0 HV
    go_wp2_with fail
    refine bodyPost_ret (v := .tuple #[.agg #[.slice (some ⟨g2, 0, none⟩) (b + 1) cap2], .bool true]) (by simp [results, Try.results5, y1, go_sem]) rfl HR.out
end Go.Proofs.Ytfmdbgpalldjoab.fp
