/- The law FnExactFamilyPoly: its walk, over what both sides answer. -/
import Derived.Test.YtfmdbgpalldjoabFpV
namespace Go.Proofs.Ytfmdbgpalldjoab.fnExactFamilyPolyW
open Go.RowKit Go.Fl Go.Fa Go.Fp Go.Proofs.Ytfmdbgpalldjoab.fp Go.Proofs.Ytfmdbgpalldjoab.cxs Go.Proofs.Ytfmdbgpalldjoab.fa

/-- an ending that answers so many terms, and whether there are such -/
def An (N : Nat) (f : Nat → Nat) (ok : Bool) (w : World) (e : Ending) (w' : World) : Prop :=
  ∃ ao cap, e = .returned (.tuple #[.agg #[.slice ao N cap], .bool ok]) ∧ w'.ownsRow w.heap.size 63 1 (.slice ao N cap) N (cl f N) ∧ Below w.heap.size w w'
theorem an_of (k n : Int) : ∃ N f ok, N ≤ 17 ∧ ∀ w e w', PAns k n w e w' → An N f ok w e w' := by
  cases hv : inF k n with
  | false =>
    refine ⟨0, fun _ => 0, false, by omega, fun w e w' h => ?_⟩
    rcases h with ⟨a, b, g, cap, rfl, rfl, ha, hb, _⟩ | ⟨_, rfl, hB⟩
    · have : inF (a : Int) (b : Int) = true := decide_eq_true (by omega)
      rw [hv] at this
      cases this
    · exact ⟨none, 0, rfl, World.ownsRow_nil _ _ _ _, hB⟩
  | true =>
    obtain ⟨a, b, rfl, rfl, ha, hb⟩ := in_nat2 hv
    refine ⟨b + 1, T a b, true, by omega, fun w e w' h => ?_⟩
    rcases h with ⟨a', b', g, cap, ea, eb, _, _, rfl, ho, hB⟩ | ⟨h, _⟩
    · obtain rfl : a = a' := by omega
      obtain rfl : b = b' := by omega
      exact ⟨_, _, rfl, ho, hB⟩
    · rw [hv] at h
      cases h
theorem cl_cxs {w : World} {B N : Nat} {v : Value} {f : Nat → Nat} (h : w.ownsRow B 63 1 v N (cl f N)) (hN : N ≤ 17) : Cxs w v N f (fun _ => 0) :=
  Cxs.of_own (by omega) (fun k hk => by unfold cl; rw [List.getElem?_map, List.getElem?_range hk]; rfl) h
theorem bx_keep {w w' : World} {b : Nat} {v : Value} (h : wh.Bx w b v) (e : w'.heap[b]? = w.heap[b]?) : wh.Bx w' b v := by
  obtain ⟨t, h⟩ := h
  exact ⟨t, e.trans h⟩

set_option maxRecDepth 100000 in
set_option maxHeartbeats 3200000 in
theorem walk (a0 a1 : Int) (_w0 : (Lit.int .i64 a0).wf = true) (_w1 : (Lit.int .i64 a1).wf = true) (w : World) :
    Calls Try.prog 3 #[.int .i64 a0, .int .i64 a1] w fun e w' => e = .returned (.bool true) ∧ Below w.heap.size w w' := by
  obtain ⟨N, f, ok, hN, hA⟩ := an_of a0 a1
  have HS : Hid (∀ W, Calls Try.prog 5 #[.int .i64 a0, .int .i64 a1] W (An N f ok W)) := fun W => (sfp_any a0 a1 W).mono fun e w' h => hA W e w' h
  have HI : Hid (∀ W, Calls Try.prog 6 #[.int .i64 a0, .int .i64 a1] W (An N f ok W)) := fun W => (ifp_any a0 a1 W).mono fun e w' h => hA W e w' h
  clear hA
  go_enter Try.func3, Try.ntmps3
  go_wp2_with fail
  refine (HS.out _).mono ?_
  rintro e w1 ⟨aw, cs, rfl, os, bs⟩
  have CS := Lib.hid (cl_cxs os hN)
  have B1 := Lib.hid bs
  have BX := Lib.hid ((Below.refl w1.heap.size w1).alloc (Nat.le_refl _) (.cells #[.slice aw N cs] 24))
  have X5 := Lib.hid (wh.Bx.new w1 (.slice aw N cs) 24)
  clear os bs
  go_wp2_with fail
  obtain ⟨w2, hw2⟩ : ∃ x, x = w1.alloc (.cells #[.slice aw N cs] 24) := ⟨_, rfl⟩
  rw [← hw2] at BX X5 ⊢
  clear hw2
  refine (HI.out _).mono ?_
  rintro e w3 ⟨ag, cg, rfl, og, bg⟩
  have OG := Lib.hid (og.alloc (.cells #[.slice ag N cg] 24))
  have BG := Lib.hid (bg.alloc bg.size (.cells #[.slice ag N cg] 24))
  have X7 := Lib.hid (wh.Bx.new w3 (.slice ag N cg) 24)
  have X5b := Lib.hid ((X5.out.kept bg).alloc (.cells #[.slice ag N cg] 24))
  have HG : Hid (Value.ownBlock (.slice ag N cg) ≠ some w3.heap.size) := fun e => by have := (og.lt _ e).2; omega
  have HG2 : Hid (Value.ownBlock (.slice ag N cg) ≠ some w1.heap.size) := fun e => by have := (og.lt _ e).1; have := X5.out.lt; omega
  have HZ3 : Hid (w2.heap.size ≤ w3.heap.size) := bg.size
  have HZ1 : Hid (w1.heap.size < w2.heap.size) := X5.out.lt
  clear og bg X5
  have x7 := X7.out.cell
  have x5 := X5b.out.cell
  go_wp2_with fail
  obtain ⟨w4, hw4⟩ : ∃ x, x = w3.alloc (.cells #[.slice ag N cg] 24) := ⟨_, rfl⟩
  have HZ4 : Hid (w4.heap.size = w3.heap.size + 1) := by show _ = _; rw [hw4]; simp
  rw [← hw4] at OG BG X7 X5b x7 x5 ⊢
  clear hw4
  refine (eqP_any (cl_cxs OG.out hN) (CS.out.below (BX.out.trans (BG.out.mono BX.out.size)))).mono ?_
  rintro e w5 ⟨rfl, b5⟩
  have O5 : Hid (w5.ownsRow w2.heap.size 63 1 (.slice ag N cg) N (cl f N)) := row_below OG.out b5
  have C5 := Lib.hid (BX.out.trans ((BG.out.trans (b5.mono BG.out.size)).mono BX.out.size))
  have X7a := Lib.hid (X7.out.kept b5)
  have X5c := Lib.hid (X5b.out.kept b5)
  have HZ5 : Hid (w4.heap.size ≤ w5.heap.size) := b5.size
  clear b5 OG BG X7 X5b x7 x5
  have x7 := X7a.out.cell
  have x5 := X5c.out.cell
  have hok : (ok != ok) = false := by simp
  go_wp2_with fail
  refine (markP_any O5.out (by omega) (by have := HZ3.out; have := HZ4.out; have := HZ5.out; omega)).mono ?_
  rintro e w6 ⟨rfl, m6, b6, k6⟩
  have M6 := Lib.hid m6
  have B6 := Lib.hid (C5.out.trans (b6.mono (by have := HZ1.out; omega)))
  have X7d := Lib.hid (bx_keep X7a.out (k6 _ X7a.out.lt HG.out))
  have X5d := Lib.hid (bx_keep X5c.out (k6 _ X5c.out.lt HG2.out))
  clear m6 b6 k6 O5 C5 X7a X5c x7 x5
  have x7 := X7d.out.cell
  have x5 := X5d.out.cell
  go_wp2_with fail
  refine (heldP_any M6.out (by omega)).mono ?_
  rintro e w7 ⟨rfl, b7⟩
  have M7 := Lib.hid (M6.out.below b7)
  have B7 := Lib.hid (B6.out.trans (b7.mono B6.out.size))
  have X7e := Lib.hid (X7d.out.kept b7)
  have X5e := Lib.hid (X5d.out.kept b7)
  clear b7 M6 B6 X7d X5d x7 x5
  have x7 := X7e.out.cell
  have x5 := X5e.out.cell
  go_wp2_with fail
  refine (HI.out _).mono ?_
  rintro e w8 ⟨ah, ch, rfl, oh, bh⟩
  have OH := Lib.hid (oh.alloc (.cells #[.slice ah N ch] 24))
  have BH := Lib.hid (bh.alloc bh.size (.cells #[.slice ah N ch] 24))
  have X11 := Lib.hid (wh.Bx.new w8 (.slice ah N ch) 24)
  have X7f := Lib.hid ((X7e.out.kept bh).alloc (.cells #[.slice ah N ch] 24))
  have X5f := Lib.hid ((X5e.out.kept bh).alloc (.cells #[.slice ah N ch] 24))
  clear oh bh X7e X5e x7 x5
  have x7 := X7f.out.cell
  have x5 := X5f.out.cell
  have x11 := X11.out.cell
  go_wp2_with fail
  obtain ⟨w9, hw9⟩ : ∃ x, x = w8.alloc (.cells #[.slice ah N ch] 24) := ⟨_, rfl⟩
  rw [← hw9] at OH BH X7f X5f X11 x7 x5 x11 ⊢
  clear hw9
  refine (eqP_any (cl_cxs OH.out hN) (CS.out.below (B7.out.trans (BH.out.mono B7.out.size)))).mono ?_
  rintro e w10 ⟨rfl, b10⟩
  have M10 := Lib.hid ((M7.out.below BH.out).below b10)
  have B10 := Lib.hid ((B7.out.trans (BH.out.mono B7.out.size)).trans (b10.mono (B7.out.trans (BH.out.mono B7.out.size)).size))
  have X7g := Lib.hid (X7f.out.kept b10)
  clear b10 X7f X5f X11 x7 x5 x11 OH BH M7 B7
  have x7 := X7g.out.cell
  go_wp2_with fail
  refine (heldP_any M10.out (by omega)).mono ?_
  rintro e w11 ⟨rfl, b11⟩
  have B11 := Lib.hid (B1.out.trans ((B10.out.trans (b11.mono B10.out.size)).mono B1.out.size))
  clear b11 X7g x7 M10 B10
  go_wp2_with fail
  go_ret
  exact ⟨rfl, B11.out⟩
end Go.Proofs.Ytfmdbgpalldjoab.fnExactFamilyPolyW
