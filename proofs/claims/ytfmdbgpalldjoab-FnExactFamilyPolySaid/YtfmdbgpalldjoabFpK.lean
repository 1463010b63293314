/- The program makes a polynomial of terms that nothing else holds. -/
import Derived.Test.YtfmdbgpalldjoabFpJ
namespace Go.Proofs.Ytfmdbgpalldjoab.fp
open Go.RowKit Go.Fl Go.Fa Go.Fp Go.Proofs.Ytfmdbgpalldjoab.fls Go.Proofs.Ytfmdbgpalldjoab.fa Go.Proofs.Ytfmdbgpalldjoab.fin

theorem own_set2 {w : World} {B e n g cap b : Nat} {xs : List Value} (h : w.ownsRow B e 1 (.slice (some ⟨g, 0, none⟩) n cap) n xs) (hb : g < b) (u : Value) : (w.setCell ⟨b, 0, none⟩ u).ownsRow B e 1 (.slice (some ⟨g, 0, none⟩) n cap) n xs :=
  ⟨h.1, by
    rcases h.2 with h' | ⟨g', cap', cur, h', hB, hg, r⟩
    · exact .inl h'
    · refine .inr ⟨g', cap', cur, h', hB, ?_, r⟩
      have e : g = g' := by simp only [Value.slice.injEq, Option.some.injEq, Addr.mk.injEq, and_true] at h'; exact h'.1
      rw [Below.heap_setCell _ _ _ _ (by show g' ≠ b; omega)]
      exact hg⟩
set_option maxRecDepth 100000 in
theorem itp_any {g n B : Nat} {f : Nat → Nat} {w : World} (h : w.ownsRow B 63 1 (.slice (some ⟨g, 0, none⟩) (n + 1) (n + 1)) (n + 1) (cl f (n + 1))) (hf : ∀ k, k < n + 1 → fin (f k) = true) (hz : isz (f n) = false) (hn : n ≤ 16) : Calls Try.prog 47 #[.slice (some ⟨g, 0, none⟩) (n + 1) (n + 1)] w fun e w' => e = .returned (.tuple #[.agg #[.slice (some ⟨g, 0, none⟩) (n + 1) (n + 1)], .bool true]) ∧ w'.ownsRow B 63 1 (.slice (some ⟨g, 0, none⟩) (n + 1) (n + 1)) (n + 1) (cl f (n + 1)) ∧ Below w.heap.size w w' := by
  have HC := Lib.hid (Cxl.own h)
  have HT : Hid (∀ W, Below w.heap.size w W → Calls Try.prog 52 #[.slice (some ⟨g, 0, none⟩) (n + 1) (n + 1)] W fun e w' => e = .returned (.int .i64 (n + 1 : Nat)) ∧ w' = W) := fun W hb => itrim_any (HC.out.below hb) hz (by omega)
  have HV : Hid (∀ W, Below w.heap.size w W → Calls Try.prog 53 #[.agg #[.slice (some ⟨g, 0, none⟩) (n + 1) (n + 1)]] W fun e w' => e = .returned (.bool true) ∧ Below W.heap.size W w') := fun W hb => ivalid_any (HC.out.below hb) hf hz hn
  have HO := Lib.hid h
  have B1 : Below w.heap.size w (w.alloc (.cells #[.slice none 0 0] 24)) := (Below.refl _ w).alloc (Nat.le_refl _) _
  have X1 : wh.Bx (w.alloc (.cells #[.slice none 0 0] 24)) w.heap.size (.slice none 0 0) := wh.Bx.new _ _ _
  clear h hf hz HC
  go_enter Try.func47, Try.ntmps47
  go_wp2_with fail
  refine (HT.out _ B1).mono ?_
  rintro e w1 ⟨rfl, hw⟩
  rw [hw]
  clear hw
  go_wp2_with fail
  have Y1 := wh.Bx.new2 w (.slice (some ⟨g, 0, none⟩) (n + 1) (n + 1)) 24 (.cells #[.slice none 0 0] 24)
  have Y0 := X1.alloc (.cells #[.slice (some ⟨g, 0, none⟩) (n + 1) (n + 1)] 24)
  have B2 : Below w.heap.size w ((w.alloc (.cells #[.slice none 0 0] 24)).alloc (.cells #[.slice (some ⟨g, 0, none⟩) (n + 1) (n + 1)] 24)) := B1.alloc (by simp) _
  have HY1 := Lib.hid Y1
  have HY0 := Lib.hid Y0
  have HB2 := Lib.hid B2
  clear Y1 Y0 B2 X1 B1 HT
  refine (HV.out _ HB2.out).mono ?_
  rintro e w3 ⟨rfl, b⟩
  have X3 := HY0.out.kept b
  have Z3 := HY1.out.kept b
  have B3 : Below w.heap.size w w3 := HB2.out.trans (b.mono (by simp; omega))
  have HR : Hid ((w3.setCell ⟨w.heap.size, 0, none⟩ (.slice (some ⟨g, 0, none⟩) (n + 1) (n + 1))).ownsRow B 63 1 (.slice (some ⟨g, 0, none⟩) (n + 1) (n + 1)) (n + 1) (cl f (n + 1)) ∧ Below w.heap.size w (w3.setCell ⟨w.heap.size, 0, none⟩ (.slice (some ⟨g, 0, none⟩) (n + 1) (n + 1)))) :=
    ⟨own_set2 (own_below HO.out B3) (cown_lt HO.out) _, B3.setCell (by simp) _⟩
  have c1 := X3.cell
  have f1 := X3.free
  have c2 := Z3.cell
  have y1 := (X3.set (.slice (some ⟨g, 0, none⟩) (n + 1) (n + 1))).cell
  clear X3 Z3 B3 b HY0 HY1 HB2 HV HO
  go_wp2_with fail
  refine bodyPost_ret (v := .tuple #[.agg #[.slice (some ⟨g, 0, none⟩) (n + 1) (n + 1)], .bool true]) (by simp [results, Try.results47, y1, go_sem]) rfl ⟨rfl, HR.out⟩
end Go.Proofs.Ytfmdbgpalldjoab.fp
