/- FamilyPoly: what the program answers. -/
import Derived.Test.YtfmdbgpalldjoabFpO
namespace Go.Proofs.Ytfmdbgpalldjoab.fp
open Go.RowKit Go.Fl Go.Fa Go.Fp Go.Proofs.Ytfmdbgpalldjoab.fls Go.Proofs.Ytfmdbgpalldjoab.fa Go.Proofs.Ytfmdbgpalldjoab.fin

set_option maxRecDepth 100000 in
set_option maxHeartbeats 3200000 in
theorem ipoly_any (kd n : Nat) (hkd : kd ≤ 4) (hn : n ≤ 16) (w : World) : Calls Try.prog 20 #[.int .i64 kd, .int .i64 n] w fun e w' => ∃ g, e = .returned (.agg #[.slice (some ⟨g, 0, none⟩) (n + 1) (n + 1)]) ∧ w'.ownsRow (w.heap.size + 1) 63 1 (.slice (some ⟨g, 0, none⟩) (n + 1) (n + 1)) (n + 1) (cl (T kd n) (n + 1)) ∧ Below w.heap.size w w' := by
  have X0 : Hid (wh.Bx (w.alloc (.cells #[.slice none 0 0] 24)) w.heap.size (.slice none 0 0)) := wh.Bx.new _ _ _
  have B0 : Hid (Below w.heap.size w (w.alloc (.cells #[.slice none 0 0] 24))) := (Below.refl _ _).alloc (Nat.le_refl _) _
  go_enter Try.func20, Try.ntmps20
  go_wp2_with fail
  refine (iterms_any kd n hkd hn _).mono ?_
  rintro e w2 ⟨v, rfl, hf, b2⟩
  have HF := Lib.hid hf
  have B2 := Lib.hid b2
  clear hf b2
  go_wp2_with fail
  refine (ireal_any HF.out (fun k hk => tl_fin kd n hkd hn k hk) (tl_top kd n hkd hn) hn).mono ?_
  rintro e w3 ⟨g, rfl, o3, b3⟩
  have B3 : Hid (Below w.heap.size w w3) := B0.out.trans ((B2.out.trans (b3.mono B2.out.size)).mono (by simp))
  have X3 := (X0.out.kept B2.out).kept b3
  have hs2 : w.heap.size + 1 ≤ w2.heap.size := by have := B2.out.size; simpa using this
  have X4 := X3.alloc (.cells #[.slice (some ⟨g, 0, none⟩) (n + 1) (n + 1)] 24)
  have c1 := X4.cell
  have f1 := X4.free
  have y1 := (X4.set (.slice (some ⟨g, 0, none⟩) (n + 1) (n + 1))).cell
  have HR : Hid (((w3.alloc (.cells #[.slice (some ⟨g, 0, none⟩) (n + 1) (n + 1)] 24)).setCell ⟨w.heap.size, 0, none⟩ (.slice (some ⟨g, 0, none⟩) (n + 1) (n + 1))).ownsRow (w.heap.size + 1) 63 1 (.slice (some ⟨g, 0, none⟩) (n + 1) (n + 1)) (n + 1) (cl (T kd n) (n + 1)) ∧ Below w.heap.size w ((w3.alloc (.cells #[.slice (some ⟨g, 0, none⟩) (n + 1) (n + 1)] 24)).setCell ⟨w.heap.size, 0, none⟩ (.slice (some ⟨g, 0, none⟩) (n + 1) (n + 1)))) :=
    ⟨own_set ((own_widen o3 hs2).alloc _) (by omega) _, (B3.out.alloc B3.out.size _).setCell (Nat.le_refl _) _⟩
  clear X0 X3 X4 b3 o3 HF B2 B3 B0 hs2
  go_wp2_with fail
  refine bodyPost_ret (v := .agg #[.slice (some ⟨g, 0, none⟩) (n + 1) (n + 1)]) (by simp [results, Try.results20, y1, go_sem]) rfl ⟨_, rfl, HR.out⟩

set_option maxRecDepth 100000 in
set_option maxHeartbeats 1600000 in
theorem ifp_any (k n : Int) (w : World) : Calls Try.prog 6 #[.int .i64 k, .int .i64 n] w (PAns k n w) := by
  have X0 : wh.Bx (w.alloc (.cells #[.slice none 0 0] 24)) w.heap.size (.slice none 0 0) := wh.Bx.new _ _ _
  have B0 : Hid (Below w.heap.size w (w.alloc (.cells #[.slice none 0 0] 24))) := (Below.refl _ _).alloc (Nat.le_refl _) _
  cases hv : inF k n with
  | false =>
    have HV : Hid (inF k n = false) := hv
    have HR : Hid (PAns k n w (.returned (.tuple #[.agg #[.slice none 0 0], .bool false])) (w.alloc (.cells #[.slice none 0 0] 24))) := .inr ⟨hv, rfl, B0.out⟩
    have c1 := X0.cell
    have f1 := X0.free
    clear hv X0
    go_enter Try.func6, Try.ntmps6
    go_wp2_with fail
    refine (iin_any _ _ _).mono ?_
    rintro e w1 ⟨rfl, hw⟩
    rw [hw, HV.out]
    clear hw
    go_wp2_with fail
    refine bodyPost_ret (v := .tuple #[.agg #[.slice none 0 0], .bool false]) (by simp [results, Try.results6, c1, go_sem]) rfl HR.out
  | true =>
    have HV : Hid (inF k n = true) := hv
    obtain ⟨a, b, rfl, rfl, ha, hb⟩ := in_nat2 hv
    have HX := Lib.hid X0
    clear hv X0
    go_enter Try.func6, Try.ntmps6
    go_wp2_with fail
    refine (iin_any _ _ _).mono ?_
    rintro e w1 ⟨rfl, hw⟩
    rw [hw, HV.out]
    clear hw
    go_wp2_with fail
    refine (ipoly_any a b ha hb _).mono ?_
    rintro e w4 ⟨g2, rfl, o4, b4⟩
    have Y4 := HX.out.kept b4
    have HO4 : Hid (w4.ownsRow (w.heap.size + 1) 63 1 (.slice (some ⟨g2, 0, none⟩) (b + 1) (b + 1)) (b + 1) (cl (T a b) (b + 1))) := own_widen o4 (by simp)
    have c1 := Y4.cell
    have f1 := Y4.free
    have y1 := (Y4.set (.slice (some ⟨g2, 0, none⟩) (b + 1) (b + 1))).cell
    have HR : Hid (PAns a b w (.returned (.tuple #[.agg #[.slice (some ⟨g2, 0, none⟩) (b + 1) (b + 1)], .bool true])) (w4.setCell ⟨w.heap.size, 0, none⟩ (.slice (some ⟨g2, 0, none⟩) (b + 1) (b + 1)))) :=
      .inl ⟨a, b, g2, b + 1, rfl, rfl, ha, hb, rfl, own_widen (own_set HO4.out (by omega) _) (by omega), (B0.out.trans (b4.mono (by simp))).setCell (by simp) _⟩
    clear o4 b4 Y4 HO4 HX B0 HV
    go_wp2_with fail
    refine bodyPost_ret (v := .tuple #[.agg #[.slice (some ⟨g2, 0, none⟩) (b + 1) (b + 1)], .bool true]) (by simp [results, Try.results6, y1, go_sem]) rfl HR.out
end Go.Proofs.Ytfmdbgpalldjoab.fp
