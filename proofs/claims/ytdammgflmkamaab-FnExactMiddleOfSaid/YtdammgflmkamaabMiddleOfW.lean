/- The law FnExactMiddleOf: its walk. -/
import Derived.Test.YtdammgflmkamaabGpF
import Derived.Test.YtdammgflmkamaabMid
import Derived.Test.YtdammgflmkamaabSameFloatW
import Derived.Laws.Cover2
import Derived.OwnWalk
import Derived.Deep.RegionHeld3
namespace Go.Proofs.Ytdammgflmkamaab.fnExactMiddleOfW
open Go.RowKit Go.Proofs.Ytdammgflmkamaab.wh Go.Proofs.Ytdammgflmkamaab.gp
def fl (a b c : Int) : Nat := if okG a b c = true then Go.Mid.mid (a + b) (c.toNat + 1) else 0
theorem pow30 : ∀ j : Nat, j ≤ 30 → (1 : Int) ≤ 2 * 2 ^ j ∧ (2 : Int) * 2 ^ j ≤ 2147483648 := by decide
theorem facts {a b c : Int} (h : OkG a b c) : ∃ (S T : Int) (k : Nat), S = a + b ∧ c = (k : Int) ∧ k ≤ 30 ∧ T = 2 * 2 ^ k ∧ T = ((2 ^ (k + 1) : Nat) : Int) ∧ 1 ≤ T ∧ T ≤ 2147483648 ∧ -2199023255552 ≤ S ∧ S ≤ 2199023255552 := by
  unfold OkG at h
  obtain ⟨k, hk⟩ : ∃ k : Nat, c = (k : Int) := ⟨c.toNat, by omega⟩
  have hp := pow30 k (by omega)
  refine ⟨a + b, 2 * 2 ^ k, k, rfl, hk, by omega, rfl, ?_, hp.1, hp.2, by omega, by omega⟩
  rw [Nat.pow_succ]
  push_cast
  omega

set_option maxHeartbeats 1600000 in
theorem smid_any (a b c : Int) (h : OkG a b c) (w : World) : Calls Try.prog 30 #[.agg #[.int .i64 a, .int .i64 b, .int .i64 c]] w fun e w' => e = .returned (.float .f32 (fl a b c)) ∧ Below w.heap.size w w' := by
  obtain ⟨S, T, k, hS, rfl, hk, hT, hT2, h1, h2, h3, h4⟩ := facts h
  have HF : Hid (fl a b k = Go.Mid.mid S (k + 1)) := by show _ = _; unfold fl; rw [if_pos (okG_yes h), hS]; rfl
  have hb := Go.Mid.bits32 S (k + 1) h3 h4 (by omega)
  rw [← hT2] at hb
  have hw1 : IntKind.i64.wrap (a + b) = S := by rw [← hS]; exact IntWalk.i64_in _ (by omega)
  have hw2 : IntKind.i64.wrap (2 * 2 ^ k) = T := by rw [← hT]; exact IntWalk.i64_in _ (by omega)
  have hop : ∀ t w, (binOp .quo t (.float .f32 (Go.floatOfInt .f32 S)) (.float .f32 (Go.floatOfInt .f32 T))).run Try.prog w = .ok (.float .f32 (Go.Mid.mid S (k + 1))) w := fun t w => run_float_arith w .quo t .f32 _ _ _ hb
  clear hb hT hT2 h hS
  go_enter Try.func30, Try.ntmps30
  go_wp2
  go_ret
  exact ⟨by rw [HF.out]; rfl, new1 _ _⟩
theorem narrow_any {q r : Nat} (h : floatToFloatBits .f64 q .f32 = some r) (w : World) : Calls Try.prog 49 #[.float .f64 q] w fun e w' => e = .returned (.float .f32 r) ∧ ∃ m, w' = w.drewN m := by
  have hud : (Try.prog.underlying 40).isSome = true := by rw [Try.underlying40]; rfl
  have hc : ∀ w, (convert 40 34 (.float .f64 q)).run Try.prog w = .ok (.float .f32 r) w := fun w => run_convert_float_float w _ _ _ _ _ _ hud Try.underlying34 h
  clear h
  go_enter Try.func49, Try.ntmps49
  go_wp2
  go_ret
  exact ⟨rfl, 0, rfl⟩
set_option maxHeartbeats 1600000 in
theorem imid_any (a b c : Int) (h : OkG a b c) (w : World) : Calls Try.prog 32 #[.agg #[.int .i64 a, .int .i64 b, .int .i64 c]] w fun e w' => e = .returned (.float .f32 (fl a b c)) ∧ Below w.heap.size w w' := by
  obtain ⟨S, T, k, hS, rfl, hk, hT, hT2, h1, h2, h3, h4⟩ := facts h
  have HF : Hid (fl a b k = Go.Mid.mid S (k + 1)) := by show _ = _; unfold fl; rw [if_pos (okG_yes h), hS]; rfl
  obtain ⟨q, hb, hn⟩ := Go.Mid.bits64 S (k + 1) h3 h4 (by omega)
  rw [← hT2] at hb
  have hw1 : IntKind.i64.wrap (a + b) = S := by rw [← hS]; exact IntWalk.i64_in _ (by omega)
  have hw2 : IntKind.i64.wrap (2 * 2 ^ k) = T := by rw [← hT]; exact IntWalk.i64_in _ (by omega)
  have hop : ∀ t w, (binOp .quo t (.float .f64 (Go.floatOfInt .f64 S)) (.float .f64 (Go.floatOfInt .f64 T))).run Try.prog w = .ok (.float .f64 q) w := fun t w => run_float_arith w .quo t .f64 _ _ _ hb
  have HN : Hid (floatToFloatBits .f64 q .f32 = some (Go.Mid.mid S (k + 1))) := hn
  obtain ⟨w0, hw⟩ : ∃ x, x = w.alloc (.cells #[.int .i64 a, .int .i64 b, .int .i64 k] 37) := ⟨_, rfl⟩
  have g0 : w0.heap[w.heap.size]? = some (.cells #[.int .i64 a, .int .i64 b, .int .i64 k] 37 (0, 0)) := by rw [hw]; exact heap_alloc_new w _
  have c0 : w0.cell? ⟨w.heap.size, 0, none⟩ = some (.int .i64 a) := by rw [cell_of_row _ _ 0 _ _ _ g0]; rfl
  have c1 : w0.cell? ⟨w.heap.size, 1, none⟩ = some (.int .i64 b) := by rw [cell_of_row _ _ 1 _ _ _ g0]; rfl
  have c2 : w0.cell? ⟨w.heap.size, 2, none⟩ = some (.int .i64 k) := by rw [cell_of_row _ _ 2 _ _ _ g0]; rfl
  have B0 : Hid (Below w.heap.size w w0) := by rw [hw]; exact new1 _ _
  have hk0 : (0 : Int) ≤ (k : Int) := by omega
  clear hb hT hT2 h hS hn g0
  go_enter Try.func32, Try.ntmps32
  go_wp2_with fail
  rw [← hw]
  clear hw
  have C : Hid (∃ m, w0 = w0.drewN m) := ⟨0, rfl⟩
  go_region_held3 (fun w' => (w'.cell? ⟨w.heap.size, 0, none⟩ = some (.int .i64 a) ∧ w'.cell? ⟨w.heap.size, 1, none⟩ = some (.int .i64 b) ∧ w'.cell? ⟨w.heap.size, 2, none⟩ = some (.int .i64 k)) ∧ Hid (∃ m, w' = w0.drewN m))
    (first | exact ⟨⟨c0, c1, c2⟩, ⟨1, rfl⟩⟩ | exact ⟨by obtain ⟨m, h⟩ := Dq.out; rw [h]; exact ⟨c0, c1, c2⟩, Dq⟩)
    (first
      | (go_at_call 49; refine (narrow_any HN.out _).mono ?_; rintro e w2 ⟨rfl, hm⟩; have Dq : Hid (∃ m, w2 = w0.drewN m) := (by obtain ⟨m, rfl⟩ := hm; exact ⟨1 + m, World.drewN_drewN _ _ _⟩); clear hm))
  go_wp2
  go_ret
  exact ⟨by rw [HF.out]; rfl, B0.out.trans (by obtain ⟨m, rfl⟩ := Dq.out; exact (Go.Pst.below_draws ⟨m, rfl⟩).mono B0.out.size)⟩

theorem fl_no {a b c : Int} (h : okG a b c = false) : fl a b c = 0 := if_neg (by rw [h]; decide)
theorem spec_any (a b c : Int) (w : World) : Calls Try.prog 12 #[.agg #[.int .i64 a, .int .i64 b, .int .i64 c]] w fun e w' => e = .returned (.tuple #[.float .f32 (fl a b c), .bool (okG a b c)]) ∧ Below w.heap.size w w' := by
  obtain ⟨w0, hw⟩ : ∃ x, x = w.alloc (.cells #[.int .i64 a, .int .i64 b, .int .i64 c] 37) := ⟨_, rfl⟩
  have g0 : Hid (w0.heap[w.heap.size]? = some (.cells #[.int .i64 a, .int .i64 b, .int .i64 c] 37 (0, 0))) := by rw [hw]; exact heap_alloc_new w _
  have B0 : Hid (Below w.heap.size w w0) := by rw [hw]; exact new1 _ _
  have key : ∀ W : World, Below w0.heap.size w0 W → W.cell? ⟨w.heap.size, 0, none⟩ = some (.int .i64 a) ∧ W.cell? ⟨w.heap.size, 1, none⟩ = some (.int .i64 b) ∧ W.cell? ⟨w.heap.size, 2, none⟩ = some (.int .i64 c) := fun W hb => by
    have h1 := (hb.block w.heap.size (Array.getElem?_eq_some_iff.1 g0.out).1).trans g0.out
    exact ⟨by rw [cell_of_row _ _ 0 _ _ _ h1]; rfl, by rw [cell_of_row _ _ 1 _ _ _ h1]; rfl, by rw [cell_of_row _ _ 2 _ _ _ h1]; rfl⟩
  have KEY : Hid (∀ W : World, Below w0.heap.size w0 W → W.cell? ⟨w.heap.size, 0, none⟩ = some (.int .i64 a) ∧ W.cell? ⟨w.heap.size, 1, none⟩ = some (.int .i64 b) ∧ W.cell? ⟨w.heap.size, 2, none⟩ = some (.int .i64 c)) := key
  have HS : Hid (w.heap.size ≤ w0.heap.size) := B0.out.size
  obtain ⟨c0, c1, c2⟩ := key w0 (Below.refl _ _)
  clear key
  cases hv : okG a b c with
  | false =>
    have HV : Hid (okG a b c = false) := hv
    have HZ : Hid (fl a b c = 0) := fl_no hv
    clear hv
    go_enter Try.func12, Try.ntmps12
    go_wp2_with fail
    rw [← hw]
    clear hw
    refine (sgap_any a b c _).mono ?_
    rintro e w1 ⟨rfl, b1⟩
    rw [HV.out]
    have B1 : Hid (Below w0.heap.size w0 w1) := b1
    clear b1 c0 c1 c2
    go_wp2_with fail
    go_ret2
    exact ⟨by rw [HZ.out]; rfl, B0.out.trans (B1.out.mono HS.out)⟩
  | true =>
    have HV : Hid (okG a b c = true) := hv
    have HO : Hid (OkG a b c) := (show OkG a b c from of_decide_eq_true hv)
    clear hv
    go_enter Try.func12, Try.ntmps12
    go_wp2_with fail
    rw [← hw]
    clear hw
    refine (sgap_any a b c _).mono ?_
    rintro e w1 ⟨rfl, b1⟩
    rw [HV.out]
    have B1 : Hid (Below w0.heap.size w0 w1) := b1
    clear b1 c0 c1 c2
    obtain ⟨c0, c1, c2⟩ := KEY.out w1 B1.out
    go_wp2_with fail
    refine (smid_any a b c HO.out _).mono ?_
    rintro e w2 ⟨rfl, b2⟩
    have B2 : Hid (Below w0.heap.size w0 w2) := B1.out.trans (b2.mono B1.out.size)
    clear b2 c0 c1 c2
    go_wp2_with fail
    go_ret2
    exact ⟨by rfl, B0.out.trans (B2.out.mono HS.out)⟩
theorem impl_any (a b c : Int) (w : World) : Calls Try.prog 14 #[.agg #[.int .i64 a, .int .i64 b, .int .i64 c]] w fun e w' => e = .returned (.tuple #[.float .f32 (fl a b c), .bool (okG a b c)]) ∧ Below w.heap.size w w' := by
  obtain ⟨w0, hw⟩ : ∃ x, x = w.alloc (.cells #[.int .i64 a, .int .i64 b, .int .i64 c] 37) := ⟨_, rfl⟩
  have g0 : Hid (w0.heap[w.heap.size]? = some (.cells #[.int .i64 a, .int .i64 b, .int .i64 c] 37 (0, 0))) := by rw [hw]; exact heap_alloc_new w _
  have B0 : Hid (Below w.heap.size w w0) := by rw [hw]; exact new1 _ _
  have key : ∀ W : World, Below w0.heap.size w0 W → W.cell? ⟨w.heap.size, 0, none⟩ = some (.int .i64 a) ∧ W.cell? ⟨w.heap.size, 1, none⟩ = some (.int .i64 b) ∧ W.cell? ⟨w.heap.size, 2, none⟩ = some (.int .i64 c) := fun W hb => by
    have h1 := (hb.block w.heap.size (Array.getElem?_eq_some_iff.1 g0.out).1).trans g0.out
    exact ⟨by rw [cell_of_row _ _ 0 _ _ _ h1]; rfl, by rw [cell_of_row _ _ 1 _ _ _ h1]; rfl, by rw [cell_of_row _ _ 2 _ _ _ h1]; rfl⟩
  have KEY : Hid (∀ W : World, Below w0.heap.size w0 W → W.cell? ⟨w.heap.size, 0, none⟩ = some (.int .i64 a) ∧ W.cell? ⟨w.heap.size, 1, none⟩ = some (.int .i64 b) ∧ W.cell? ⟨w.heap.size, 2, none⟩ = some (.int .i64 c)) := key
  have HS : Hid (w.heap.size ≤ w0.heap.size) := B0.out.size
  obtain ⟨c0, c1, c2⟩ := key w0 (Below.refl _ _)
  clear key
  cases hv : okG a b c with
  | false =>
    have HV : Hid (okG a b c = false) := hv
    have HZ : Hid (fl a b c = 0) := fl_no hv
    clear hv
    go_enter Try.func14, Try.ntmps14
    go_wp2_with fail
    rw [← hw]
    clear hw
    refine (igap_any a b c _).mono ?_
    rintro e w1 ⟨rfl, b1⟩
    rw [HV.out]
    have B1 : Hid (Below w0.heap.size w0 w1) := b1
    clear b1 c0 c1 c2
    go_wp2_with fail
    go_ret2
    exact ⟨by rw [HZ.out]; rfl, B0.out.trans (B1.out.mono HS.out)⟩
  | true =>
    have HV : Hid (okG a b c = true) := hv
    have HO : Hid (OkG a b c) := (show OkG a b c from of_decide_eq_true hv)
    clear hv
    go_enter Try.func14, Try.ntmps14
    go_wp2_with fail
    rw [← hw]
    clear hw
    refine (igap_any a b c _).mono ?_
    rintro e w1 ⟨rfl, b1⟩
    rw [HV.out]
    have B1 : Hid (Below w0.heap.size w0 w1) := b1
    clear b1 c0 c1 c2
    obtain ⟨c0, c1, c2⟩ := KEY.out w1 B1.out
    go_wp2_with fail
    refine (imid_any a b c HO.out _).mono ?_
    rintro e w2 ⟨rfl, b2⟩
    have B2 : Hid (Below w0.heap.size w0 w2) := B1.out.trans (b2.mono B1.out.size)
    clear b2 c0 c1 c2
    go_wp2_with fail
    go_ret2
    exact ⟨by rfl, B0.out.trans (B2.out.mono HS.out)⟩

set_option maxRecDepth 100000 in
set_option maxHeartbeats 1600000 in
theorem walk (a b c : Int) (w : World) : Calls Try.prog 4 #[.agg #[.int .i64 a, .int .i64 b, .int .i64 c]] w fun e w' => e = .returned (.bool true) ∧ Below w.heap.size w w' := by
  obtain ⟨w0, hw⟩ : ∃ x, x = w.alloc (.cells #[.int .i64 a, .int .i64 b, .int .i64 c] 33) := ⟨_, rfl⟩
  have h0 : Hid (w0.heap[w.heap.size]? = some (.cells #[.int .i64 a, .int .i64 b, .int .i64 c] 33 (0, 0))) := by rw [hw]; exact heap_alloc_new w _
  have B0 : Hid (Below w.heap.size w w0) := by rw [hw]; exact new1 _ _
  have key : ∀ W : World, Below w0.heap.size w0 W → W.cell? ⟨w.heap.size, 0, none⟩ = some (.int .i64 a) ∧ W.cell? ⟨w.heap.size, 1, none⟩ = some (.int .i64 b) ∧ W.cell? ⟨w.heap.size, 2, none⟩ = some (.int .i64 c) := fun W hb => by
    have h1 := (hb.block w.heap.size (Array.getElem?_eq_some_iff.1 h0.out).1).trans h0.out
    exact ⟨by rw [cell_of_row _ _ 0 _ _ _ h1]; rfl, by rw [cell_of_row _ _ 1 _ _ _ h1]; rfl, by rw [cell_of_row _ _ 2 _ _ _ h1]; rfl⟩
  have KEY : Hid (∀ W : World, Below w0.heap.size w0 W → W.cell? ⟨w.heap.size, 0, none⟩ = some (.int .i64 a) ∧ W.cell? ⟨w.heap.size, 1, none⟩ = some (.int .i64 b) ∧ W.cell? ⟨w.heap.size, 2, none⟩ = some (.int .i64 c)) := key
  have HS : Hid (w.heap.size ≤ w0.heap.size) := B0.out.size
  obtain ⟨c0, c1, c2⟩ := key w0 (Below.refl _ _)
  clear key
  have HSp : Hid (∀ w, Calls Try.prog 12 #[.agg #[.int .i64 a, .int .i64 b, .int .i64 c]] w fun e w' => e = .returned (.tuple #[.float .f32 (fl a b c), .bool (okG a b c)]) ∧ Below w.heap.size w w') := spec_any a b c
  have HIm : Hid (∀ w, Calls Try.prog 14 #[.agg #[.int .i64 a, .int .i64 b, .int .i64 c]] w fun e w' => e = .returned (.tuple #[.float .f32 (fl a b c), .bool (okG a b c)]) ∧ Below w.heap.size w w') := impl_any a b c
  generalize fl a b c = r at *
  generalize okG a b c = ok at *
  go_enter Try.func4, Try.ntmps4
  go_wp2_with fail
  rw [← hw]
  clear hw h0
  refine (toG_any a b c _).mono ?_
  rintro e w1 ⟨rfl, b1⟩
  have B1 : Hid (Below w0.heap.size w0 w1) := b1
  clear b1 c0 c1 c2
  go_wp2_with fail
  refine (HSp.out _).mono ?_
  rintro e w2 ⟨rfl, b2⟩
  have B2 : Hid (Below w0.heap.size w0 w2) := B1.out.trans (b2.mono B1.out.size)
  obtain ⟨c0, c1, c2⟩ := KEY.out w2 B2.out
  clear b2 B1
  go_wp2_with fail
  refine (toG_any a b c _).mono ?_
  rintro e w3 ⟨rfl, b3⟩
  have B3 : Hid (Below w0.heap.size w0 w3) := B2.out.trans (b3.mono B2.out.size)
  clear b3 c0 c1 c2
  go_wp2_with fail
  refine (HIm.out _).mono ?_
  rintro e w4 ⟨rfl, b4⟩
  have B4 : Hid (Below w0.heap.size w0 w4) := B3.out.trans (b4.mono B3.out.size)
  clear b4
  have huf : (Try.prog.underlying 34).isSome = true := by rw [Try.underlying34]; rfl
  go_wp2_with (first | (refine Go.Fl.wpList_cvw rfl 34 40 _ rfl .f32 .f64 (by decide) _ rfl huf Try.underlying40 (Go.Fl.fits_wide _) ?_; intro r n hr hw) | (refine Go.Fl.wpList_cv rfl 34 40 _ rfl .f32 .f64 (by decide) _ rfl huf Try.underlying40 (Go.Fl.fits_wide _) ?_; intro r n hr hw) | (go_at_call 15; refine (Go.Proofs.Ytdammgflmkamaab.sameFloat.same_any _ _ (Go.Fl.Sm.trans (by assumption) (Go.Fl.Sm.symm (by assumption))) _).mono ?_; rintro e w8 ⟨rfl, hws⟩; have b : Below w4.heap.size w4 w8 := (by obtain ⟨n, hws⟩ := hws; rw [hws]; try simp only [World.drewN_drewN]; exact Go.Pst.below_draws ⟨_, rfl⟩); clear hws))
  have B8 : Hid (Below w0.heap.size w0 w8) := B4.out.trans (b.mono B4.out.size)
  go_ret
  exact ⟨rfl, B0.out.trans (B8.out.mono HS.out)⟩
end Go.Proofs.Ytdammgflmkamaab.fnExactMiddleOfW
