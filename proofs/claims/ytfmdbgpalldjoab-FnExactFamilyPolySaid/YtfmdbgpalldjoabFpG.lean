/- The model gives the polynomial of a list whose terms are finite and whose highest is not 0. -/
import Derived.Test.YtfmdbgpalldjoabFpE
import Derived.Test.YtfmdbgpalldjoabWh
namespace Go.Proofs.Ytfmdbgpalldjoab.fp
open Go.RowKit Go.Fl Go.Fa Go.Fp Go.Proofs.Ytfmdbgpalldjoab.fls Go.Proofs.Ytfmdbgpalldjoab.fa Go.Proofs.Ytfmdbgpalldjoab.fin

theorem own_widen {w : World} {B C e n g cap : Nat} {xs : List Value} (h : w.ownsRow B e 1 (.slice (some ⟨g, 0, none⟩) n cap) n xs) (hC : C ≤ B) : w.ownsRow C e 1 (.slice (some ⟨g, 0, none⟩) n cap) n xs :=
  ⟨h.1, by
    rcases h.2 with h' | ⟨g', cap', cur, h', hB, r⟩
    · exact .inl h'
    · exact .inr ⟨g', cap', cur, h', Nat.le_trans hC hB, r⟩⟩
theorem own_set {w : World} {B e n g cap b : Nat} {xs : List Value} (h : w.ownsRow B e 1 (.slice (some ⟨g, 0, none⟩) n cap) n xs) (hb : b < B) (u : Value) : (w.setCell ⟨b, 0, none⟩ u).ownsRow B e 1 (.slice (some ⟨g, 0, none⟩) n cap) n xs :=
  ⟨h.1, by
    rcases h.2 with h' | ⟨g', cap', cur, h', hB, hg, r⟩
    · exact .inl h'
    · refine .inr ⟨g', cap', cur, h', hB, ?_, r⟩
      rw [Below.heap_setCell _ _ _ _ (by show g' ≠ b; omega)]
      exact hg⟩

set_option maxRecDepth 100000 in
set_option maxHeartbeats 1600000 in
theorem sgive_any {g n cap B : Nat} {f : Nat → Nat} {w : World} (h : w.ownsRow B 63 1 (.slice (some ⟨g, 0, none⟩) (n + 1) cap) (n + 1) (cl f (n + 1))) (hf : ∀ k, k < n + 1 → fin (f k) = true) (hz : isz (f n) = false) (hn : n ≤ 16) : Calls Try.prog 16 #[.slice (some ⟨g, 0, none⟩) (n + 1) cap] w fun e w' => ∃ g' cap', e = .returned (.tuple #[.agg #[.slice (some ⟨g', 0, none⟩) (n + 1) cap'], .bool true]) ∧ w'.ownsRow w.heap.size 63 1 (.slice (some ⟨g', 0, none⟩) (n + 1) cap') (n + 1) (cl f (n + 1)) ∧ Below w.heap.size w w' := by
  obtain ⟨i0, hi, hz0, hz1, hz2⟩ := info_parts info_c
  have hcap : n + 1 ≤ cap := by
    rcases h.2 with ⟨h', _⟩ | ⟨g', cap', cur, h', _, hg, hc, _⟩
    · simp at h'
    · simp only [Value.slice.injEq, Option.some.injEq, Addr.mk.injEq, and_true, true_and] at h'
      omega
  have HC := Lib.hid (Cxl.own h)
  have HT : Hid (∀ W, Below w.heap.size w W → Calls Try.prog 37 #[.slice (some ⟨g, 0, none⟩) (n + 1) cap] W fun e w' => e = .returned (.slice (some ⟨g, 0, none⟩) (n + 1) cap) ∧ w' = W) := fun W hb => sctrim_any (HC.out.below hb) hz (by omega) hcap
  clear h
  go_enter Try.func16, Try.ntmps16
  go_wp2_with fail
  refine (HT.out _ (((Below.refl _ w).alloc (Nat.le_refl _) _).alloc (by simp) _)).mono ?_
  rintro e w1 ⟨rfl, hw⟩
  rw [hw]
  clear hw
  obtain ⟨W0, hW0⟩ : ∃ x, x = (w.alloc (.cells #[.slice none 0 0] 24)).alloc (.cells #[] 63) := ⟨_, rfl⟩
  have S0 : W0.heap.size = w.heap.size + 1 + 1 := by rw [hW0]; simp
  have B0 : Below w.heap.size w W0 := by rw [hW0]; exact ((Below.refl _ w).alloc (Nat.le_refl _) _).alloc (by simp) _
  have X0 : wh.Bx W0 w.heap.size (.slice none 0 0) := by rw [hW0]; exact (wh.Bx.new w _ _).alloc _
  have O0 : W0.ownsRow (w.heap.size + 1) 63 1 (.slice (some ⟨w.heap.size + 1, 0, none⟩) 0 0) 0 [] := by
    rw [hW0]
    exact ⟨rfl, .inr ⟨w.heap.size + 1, 0, #[], rfl, Nat.le_refl _, (by have := heap_alloc_new (w.alloc (.cells #[.slice none 0 0] 24)) (.cells #[] 63 (0, 0)); simpa using this), by simp, by decide, rfl, rfl⟩⟩
  have C0 : Cxl W0 g (n + 1) f := HC.out.below B0
  have HCE : Hid (∀ j u, (cl f (n + 1))[j]? = some u → W0.cell? ((⟨g, 0, none⟩ : Addr).add j) = some u) := by
    intro j u hj
    have hl : j < n + 1 := by
      have := (List.getElem?_eq_some_iff.1 hj).1
      rw [cl_len] at this
      exact this
    rw [Addr.add_lit, Nat.zero_add, C0.2 j hl]
    unfold cl at hj
    simpa [hl] using hj
  have HON : Hid (∀ u ∈ cl f (n + 1), u.oneCell' = true) := by
    intro u hu
    unfold cl at hu
    rw [List.mem_map] at hu
    obtain ⟨k, _, rfl⟩ := hu
    rfl
  rw [← hW0]
  clear hW0
  go_wp2_with (first | (at_builtin; refine wpList_append_own _ rfl (.tmp 5) (.tmp 7) 22 rfl (w.heap.size + 1) 63 i0 (.complex .f32 0 0) 1 8 Try.underlying22 hi hz0 hz1 hz2 rfl (by decide) _ 0 _ rfl O0 ⟨g, 0, none⟩ (n + 1) cap (cl f (n + 1)) rfl (by rw [cl_len]; omega) HCE.out HON.out (by unfold maxLen; omega) (by omega) (by omega) ?_; intro v' w3 hown' hgrow _; obtain ⟨g', cap', rfl⟩ := cown_shape hown' (by omega)))
  have HB3 : Below (w.heap.size + 1) W0 w3 := (Below.refl _ W0).grown hgrow (by omega) (by intro j hj; have hj' : some (w.heap.size + 1) = some j := hj; injection hj' with hj'; omega)
  have S3 : W0.heap.size ≤ w3.heap.size := HB3.size
  have X3 : wh.Bx w3 w.heap.size (.slice none 0 0) := X0.below HB3 (by omega)
  have B3 : Below w.heap.size w w3 := B0.trans (HB3.mono (by omega))
  rw [Nat.zero_add, List.nil_append] at hown'
  obtain ⟨w2, hw2⟩ : ∃ x, x = w3.alloc (.cells #[.slice (some ⟨g', 0, none⟩) (n + 1) cap'] 24) := ⟨_, rfl⟩
  have X2 : wh.Bx w2 w3.heap.size (.slice (some ⟨g', 0, none⟩) (n + 1) cap') := by rw [hw2]; exact wh.Bx.new _ _ _
  have b2 : Below w3.heap.size w3 w2 := by rw [hw2]; exact (Below.refl _ w3).alloc (Nat.le_refl _) _
  have Y2 : wh.Bx w2 w.heap.size (.slice none 0 0) := X3.kept b2
  have O2 : w2.ownsRow (w.heap.size + 1) 63 1 (.slice (some ⟨g', 0, none⟩) (n + 1) cap') (n + 1) (cl f (n + 1)) := own_below hown' b2
  have B2 : Below w.heap.size w w2 := B3.trans (b2.mono (by omega))
  have HI := Lib.hid (sis_any (p := w3.heap.size) X2.cell (Cxl.own O2) hf hz hn)
  have HY := Lib.hid Y2
  have HB2 := Lib.hid B2
  have HO2 := Lib.hid O2
  have HX2 := Lib.hid X2
  clear HB3 S3 X3 B3 hown' hgrow X2 b2 Y2 O2 B2 HT HCE HON C0 O0 X0 B0 S0 HC
  rw [← hw2]
  clear hw2
  refine HI.out.mono ?_
  rintro e w4 ⟨rfl, q, hw4⟩
  rw [hw4]
  clear hw4 HI
  have HR : Hid (∃ g1 cap1, Ending.returned (.tuple #[.agg #[.slice (some ⟨g', 0, none⟩) (n + 1) cap'], .bool true]) = .returned (.tuple #[.agg #[.slice (some ⟨g1, 0, none⟩) (n + 1) cap1], .bool true]) ∧ ((w2.drewN q).setCell ⟨w.heap.size, 0, none⟩ (.slice (some ⟨g', 0, none⟩) (n + 1) cap')).ownsRow w.heap.size 63 1 (.slice (some ⟨g1, 0, none⟩) (n + 1) cap1) (n + 1) (cl f (n + 1)) ∧ Below w.heap.size w ((w2.drewN q).setCell ⟨w.heap.size, 0, none⟩ (.slice (some ⟨g', 0, none⟩) (n + 1) cap'))) :=
    ⟨g', cap', rfl, own_widen (own_set (own_below HO2.out (Go.Pst.below_drewN (Below.refl _ _) q)) (by omega) _) (by omega), (Go.Pst.below_drewN HB2.out q).setCell (by simp) _⟩
  have Y4 : wh.Bx (w2.drewN q) w.heap.size (.slice none 0 0) := HY.out.kept (Go.Pst.below_drewN (Below.refl _ _) q)
  have X4 : wh.Bx (w2.drewN q) w3.heap.size (.slice (some ⟨g', 0, none⟩) (n + 1) cap') := HX2.out.kept (Go.Pst.below_drewN (Below.refl _ _) q)
  have c1 := Y4.cell
  have f1 := Y4.free
  have c2 := X4.cell
  have y1 := (Y4.set (.slice (some ⟨g', 0, none⟩) (n + 1) cap')).cell
  clear Y4 X4
  go_wp2_with fail
  refine bodyPost_ret (v := .tuple #[.agg #[.slice (some ⟨g', 0, none⟩) (n + 1) cap'], .bool true]) (by simp [results, Try.results16, y1, go_sem]) rfl HR.out
end Go.Proofs.Ytfmdbgpalldjoab.fp
