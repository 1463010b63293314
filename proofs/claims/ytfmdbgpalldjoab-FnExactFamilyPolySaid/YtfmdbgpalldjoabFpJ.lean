/- The program makes a polynomial of terms that nothing else holds. -/
import Derived.Test.YtfmdbgpalldjoabFpI
namespace Go.Proofs.Ytfmdbgpalldjoab.fp
open Go.RowKit Go.Fl Go.Fa Go.Fp Go.Proofs.Ytfmdbgpalldjoab.fls Go.Proofs.Ytfmdbgpalldjoab.fa Go.Proofs.Ytfmdbgpalldjoab.fin

theorem ivalid_any {g n cap : Nat} {f : Nat → Nat} {w : World} (h : Cxl w g (n + 1) f) (hf : ∀ k, k < n + 1 → fin (f k) = true) (hz : isz (f n) = false) (hn : n ≤ 16) : Calls Try.prog 53 #[.agg #[.slice (some ⟨g, 0, none⟩) (n + 1) cap]] w fun e w' => e = .returned (.bool true) ∧ Below w.heap.size w w' := by
  have HL : Hid (∀ W, Below w.heap.size w W → Calls Try.prog 56 #[.slice (some ⟨g, 0, none⟩) (n + 1) cap] W fun e w' => e = .returned (.bool true) ∧ ∃ m, w' = W.drewN m) := fun W hb => icfin_any (h.below hb) hf (by omega)
  have HZ : Hid (∀ W, Below w.heap.size w W → Calls Try.prog 57 #[.agg #[.slice (some ⟨g, 0, none⟩) (n + 1) cap]] W fun e w' => e = .returned (.bool false) ∧ Below W.heap.size W w') := fun W hb => izero_any (h.below hb) hz (by omega)
  have B1 : Below w.heap.size w (w.alloc (.cells #[.slice (some ⟨g, 0, none⟩) (n + 1) cap] 24)) := (Below.refl _ w).alloc (Nat.le_refl _) _
  have X1 : wh.Bx (w.alloc (.cells #[.slice (some ⟨g, 0, none⟩) (n + 1) cap] 24)) w.heap.size (.slice (some ⟨g, 0, none⟩) (n + 1) cap) := wh.Bx.new _ _ _
  clear h hf hz
  go_enter Try.func53, Try.ntmps53
  go_wp2_with fail
  refine (HL.out _ B1).mono ?_
  rintro e w1 ⟨rfl, q, rfl⟩
  have B2 := Lib.hid (Go.Pst.below_drewN B1 q)
  have X2 := X1.kept (Go.Pst.below_drewN (Below.refl _ _) q)
  have c2 := X2.cell
  clear X1 X2 B1
  go_wp2_with fail
  · go_ret
    exact ⟨by first | rfl | simp_all, B2.out⟩
  · refine (HZ.out _ B2.out).mono ?_
    rintro e w2 ⟨rfl, b⟩
    have B3 := Lib.hid (B2.out.trans (b.mono B2.out.size))
    clear b
    go_wp2_with fail
    go_ret
    exact ⟨by rfl, B3.out⟩
end Go.Proofs.Ytfmdbgpalldjoab.fp
