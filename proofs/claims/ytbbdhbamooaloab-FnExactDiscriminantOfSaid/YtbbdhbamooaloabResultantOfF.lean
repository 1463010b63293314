/- ResultantOf: what both sides answer. -/
import Derived.Test.YtbbdhbamooaloabDtD
import Derived.Deep.RegionHeld3
namespace Go.Proofs.Ytbbdhbamooaloab.fResultantOf
open Go.RowKit Go.Pl Go.Proofs.Ytbbdhbamooaloab.wh Go.Proofs.Ytbbdhbamooaloab.res

theorem _root_.Go.Proofs.Ytbbdhbamooaloab.res.RwV.len {w : World} {v : Value} {xs : List Value} {LL : List (List Int)} (h : RwV w v xs LL) : LL.length = xs.length := by
  obtain ⟨_, _, _, _, _, _, h4, _⟩ := h
  exact h4
def ok (A B : List Int) : Bool := sml 1 A && sml 1 B
def z (A B : List Int) : Int := if ok A B = true then rsl A B else 0
theorem sy_split {A B : List Int} {m n : Nat} (hm : A.length = m + 1) (hn : B.length = n + 1) : ((List.range n).map fun i => fl A i (A.length - 1 + n) A.length) ++ ((List.range m).map fun i => fl B i (B.length - 1 + m) B.length) = SY A B := by
  have hr : rwN A B = m + n := by unfold rwN; omega
  refine List.ext_getElem? fun i => ?_
  by_cases hi : i < m + n
  · rw [SY_get (by omega)]
    unfold sy
    by_cases h : i < n
    · rw [List.getElem?_append_left (by simpa using h), List.getElem?_map, List.getElem?_range h, if_pos (by omega), hr, show A.length - 1 + n = m + n by omega]
      rfl
    · rw [List.getElem?_append_right (by simp; omega), List.getElem?_map, List.getElem?_range (by simp; omega), if_neg (by omega), hr, show B.length - 1 + m = m + n by omega]
      simp only [Option.map_some, List.length_map, List.length_range]
      rw [show B.length - 1 = n by omega]
  · rw [List.getElem?_eq_none (by simp; omega), List.getElem?_eq_none (by rw [SY_len]; omega)]
theorem no {A B : List Int} (h : ok A B = false) : z A B = 0 := if_neg (by rw [h]; decide)
theorem yes {A B : List Int} (h : ok A B = true) : z A B = rsl A B := if_pos h
theorem sml_bd {d : Nat} {A : List Int} (h : sml d A = true) : d + 1 ≤ A.length ∧ A.length ≤ 5 ∧ inR (-20) 20 A := by
  unfold sml at h
  rw [Bool.and_eq_true, Bool.and_eq_true, decide_eq_true_iff, decide_eq_true_iff] at h
  exact ⟨h.2.1.1, h.2.1.2, h.2.2⟩
theorem rsl_bd {A B : List Int} (ha : inR (-20) 20 A) (hb : inR (-20) 20 B) (hl : rwN A B ≤ 8) : -429496729600000000 ≤ rsl A B ∧ rsl A B ≤ 429496729600000000 := by
  have h := dt_bd (SY A B) (List.range (rwN A B)) (SY_rb ha hb) (by rw [List.length_range]; exact hl)
  have h2 : 160 ^ (SY A B).length ≤ 160 ^ 8 := Nat.pow_le_pow_right (by omega) (by rw [SY_len]; exact hl)
  have h3 : 160 ^ 8 = 429496729600000000 := by decide
  rw [h3] at h2
  unfold rsl
  omega

set_option maxRecDepth 100000 in
set_option maxHeartbeats 4000000 in
theorem spec_any {A B : List Int} {v0 v1 : Value} {w : World} (h0 : Wh w v0 A) (h1 : Wh w v1 B) : Calls Try.prog 13 #[v0, v1] w fun e w' => e = .returned (.tuple #[.int .i64 (z A B), .bool (ok A B)]) ∧ Below w.heap.size w w' := by
  obtain ⟨s0, rfl, h0⟩ := h0
  obtain ⟨s1, rfl, h1⟩ := h1
  obtain ⟨ao, ka, rfl⟩ := id h0.shape
  obtain ⟨bo, kb, rfl⟩ := id h1.shape
  have H0 : Hid (Ls w (.slice ao A.length ka) A) := h0
  have H1 : Hid (Ls w (.slice bo B.length kb) B) := h1
  clear h0 h1
  obtain ⟨w1, hw⟩ : ∃ x, x = (w.alloc (.cells #[.slice ao A.length ka] 37)).alloc (.cells #[.slice bo B.length kb] 37) := ⟨_, rfl⟩
  have B1 : Hid (Below w.heap.size w w1) := by rw [hw]; exact new2 _ _ _
  have X0 : Hid (Bx w1 w.heap.size (.slice ao A.length ka)) := by rw [hw]; exact (Bx.new _ _ _).alloc _
  have X1 : Hid (Bx w1 (w.heap.size + 1) (.slice bo B.length kb)) := by rw [hw]; exact Bx.new2 _ _ _ _
  have c0 := X0.out.cell
  have c1 := X1.out.cell
  go_enter Try.func13, Try.ntmps13
  go_wp2_with fail
  rw [← hw]
  clear hw
  refine (small_any (d := 1) c0 (H0.out.below B1.out) (by omega)).mono ?_
  rintro e w2 ⟨rfl, b⟩
  replace B1 : Hid (Below w.heap.size w w2) := B1.out.trans (b.mono B1.out.size)
  replace X0 : Hid (Bx w2 w.heap.size (.slice ao A.length ka)) := X0.out.kept b
  replace X1 : Hid (Bx w2 (w.heap.size + 1) (.slice bo B.length kb)) := X1.out.kept b
  replace c0 := X0.out.cell
  replace c1 := X1.out.cell
  clear b
  cases hA : sml 1 A with
  | false =>
    have HZ : Hid (ok A B = false) := by show _ = _; unfold ok; rw [hA]; rfl
    clear hA
    go_wp2_with fail
    go_ret2
    exact ⟨by rw [HZ.out, no HZ.out]; rfl, B1.out⟩
  | true =>
  have SA : Hid (sml 1 A = true) := hA
  clear hA
  go_wp2_with fail
  refine (small_any (d := 1) c1 (H1.out.below B1.out) (by omega)).mono ?_
  rintro e w3 ⟨rfl, b⟩
  replace B1 : Hid (Below w.heap.size w w3) := B1.out.trans (b.mono B1.out.size)
  replace X0 : Hid (Bx w3 w.heap.size (.slice ao A.length ka)) := X0.out.kept b
  replace X1 : Hid (Bx w3 (w.heap.size + 1) (.slice bo B.length kb)) := X1.out.kept b
  replace c0 := X0.out.cell
  replace c1 := X1.out.cell
  clear b
  cases hB : sml 1 B with
  | false =>
    have HZ : Hid (ok A B = false) := by show _ = _; unfold ok; rw [hB, Bool.and_false]
    clear hB
    go_wp2_with fail
    go_ret2
    exact ⟨by rw [HZ.out, no HZ.out]; rfl, B1.out⟩
  | true =>
  have HZ : Hid (ok A B = true) := by show _ = _; unfold ok; rw [SA.out, hB]; rfl
  have SB : Hid (sml 1 B = true) := hB
  clear hB
  go_wp2_with fail
  refine (sres_any (H0.out.below B1.out) (H1.out.below B1.out) (sml_bd SA.out) (sml_bd SB.out)).mono ?_
  rintro e w4 ⟨rfl, b⟩
  replace B1 : Hid (Below w.heap.size w w4) := B1.out.trans (b.mono B1.out.size)
  clear b
  go_wp2_with fail
  go_ret2
  exact ⟨by rw [HZ.out, yes HZ.out]; rfl, B1.out⟩

set_option maxRecDepth 100000 in
set_option maxHeartbeats 4000000 in
theorem impl_any {A B : List Int} {v0 v1 : Value} {w : World} (h0 : Wh w v0 A) (h1 : Wh w v1 B) : Calls Try.prog 15 #[v0, v1] w fun e w' => e = .returned (.tuple #[.int .i64 (z A B), .bool (ok A B)]) ∧ Below w.heap.size w w' := by
  obtain ⟨s0, rfl, h0⟩ := h0
  obtain ⟨s1, rfl, h1⟩ := h1
  obtain ⟨ao, ka, rfl⟩ := id h0.shape
  obtain ⟨bo, kb, rfl⟩ := id h1.shape
  have H0 : Hid (Ls w (.slice ao A.length ka) A) := h0
  have H1 : Hid (Ls w (.slice bo B.length kb) B) := h1
  clear h0 h1
  obtain ⟨w1, hw⟩ : ∃ x, x = (w.alloc (.cells #[.slice ao A.length ka] 37)).alloc (.cells #[.slice bo B.length kb] 37) := ⟨_, rfl⟩
  have B1 : Hid (Below w.heap.size w w1) := by rw [hw]; exact new2 _ _ _
  have X0 : Hid (Bx w1 w.heap.size (.slice ao A.length ka)) := by rw [hw]; exact (Bx.new _ _ _).alloc _
  have X1 : Hid (Bx w1 (w.heap.size + 1) (.slice bo B.length kb)) := by rw [hw]; exact Bx.new2 _ _ _ _
  have c0 := X0.out.cell
  have c1 := X1.out.cell
  go_enter Try.func15, Try.ntmps15
  go_wp2_with fail
  rw [← hw]
  clear hw
  refine (isFor_any ⟨_, rfl, H0.out.below B1.out⟩).mono ?_
  rintro e w2 ⟨rfl, b⟩
  replace B1 : Hid (Below w.heap.size w w2) := B1.out.trans (b.mono B1.out.size)
  replace X0 : Hid (Bx w2 w.heap.size (.slice ao A.length ka)) := X0.out.kept b
  replace X1 : Hid (Bx w2 (w.heap.size + 1) (.slice bo B.length kb)) := X1.out.kept b
  replace c0 := X0.out.cell
  replace c1 := X1.out.cell
  clear b
  cases hA : sml 1 A with
  | false =>
    have HZ : Hid (ok A B = false) := by show _ = _; unfold ok; rw [hA]; rfl
    clear hA
    go_wp2_with fail
    go_ret2
    exact ⟨by rw [HZ.out, no HZ.out]; rfl, B1.out⟩
  | true =>
  have SA : Hid (sml 1 A = true) := hA
  clear hA
  go_wp2_with fail
  refine (isFor_any ⟨_, rfl, H1.out.below B1.out⟩).mono ?_
  rintro e w3 ⟨rfl, b⟩
  replace B1 : Hid (Below w.heap.size w w3) := B1.out.trans (b.mono B1.out.size)
  replace X0 : Hid (Bx w3 w.heap.size (.slice ao A.length ka)) := X0.out.kept b
  replace X1 : Hid (Bx w3 (w.heap.size + 1) (.slice bo B.length kb)) := X1.out.kept b
  replace c0 := X0.out.cell
  replace c1 := X1.out.cell
  clear b
  cases hB : sml 1 B with
  | false =>
    have HZ : Hid (ok A B = false) := by show _ = _; unfold ok; rw [hB, Bool.and_false]
    clear hB
    go_wp2_with fail
    go_ret2
    exact ⟨by rw [HZ.out, no HZ.out]; rfl, B1.out⟩
  | true =>
  have HZ : Hid (ok A B = true) := by show _ = _; unfold ok; rw [SA.out, hB]; rfl
  have SB : Hid (sml 1 B = true) := hB
  clear hB
  have sa := sml_bd SA.out
  have sb := sml_bd SB.out
  obtain ⟨m, hm⟩ : ∃ m, A.length = m + 1 := ⟨A.length - 1, by omega⟩
  obtain ⟨n, hn⟩ : ∃ n, B.length = n + 1 := ⟨B.length - 1, by omega⟩
  have HM : Hid (A.length = m + 1) := hm
  have HN : Hid (B.length = n + 1) := hn
  have hm4 : 1 ≤ m ∧ m ≤ 4 := by omega
  have hn4 : 1 ≤ n ∧ n ≤ 4 := by omega
  have cm : ((m + 1 : Nat) : Int) - 1 = m := by omega
  have cn : ((n + 1 : Nat) : Int) - 1 = n := by omega
  have HI : Hid (inR (-20) 20 A ∧ inR (-20) 20 B) := ⟨sa.2.2, sb.2.2⟩
  rw [hm] at c0 X0 H0 ⊢
  rw [hn] at c1 X1 H1 ⊢
  clear sa sb hm hn
  have RA : Hid (Ls w3 (.slice ao (m + 1) ka) A) := H0.out.below B1.out
  have RB : Hid (Ls w3 (.slice bo (n + 1) kb) B) := H1.out.below B1.out
  have bd : Hid (Below w3.heap.size w3 w3.drew) := (Below.refl _ _).drew
  have wn : IntKind.i64.wrap (n : Int) = n := IntWalk.i64_in _ (by omega)
  have wm : IntKind.i64.wrap (m : Int) = m := IntWalk.i64_in _ (by omega)
  clear H0 H1
  go_wp2_with fail
  go_region_held3 (fun w' => w'.cell? ⟨w.heap.size, 0, none⟩ = some (.slice ao (m + 1) ka) ∧ w'.cell? ⟨w.heap.size + 1, 0, none⟩ = some (.slice bo (n + 1) kb) ∧ Hid (Below w3.heap.size w3 w'))
    (first | exact ⟨(X0.out.kept bs.out).cell, (X1.out.kept bs.out).cell, bs⟩ | exact ⟨((X0.out.kept b2.out).alloc _).cell, ((X1.out.kept b2.out).alloc _).cell, b2.out.alloc b2.out.size _⟩ | exact ⟨(X0.out.kept b2.out).cell, (X1.out.kept b2.out).cell, b2⟩ | exact ⟨(X0.out.kept b1.out).cell, (X1.out.kept b1.out).cell, b1⟩ | exact ⟨(X0.out.kept bd.out).cell, (X1.out.kept bd.out).cell, bd⟩)
    (first
      | (go_at_call 47; have hC := moved_any (n := n) (RA.out.below bd.out) (by have := HM.out; omega) hn4; (with_reducible refine hC.mono ?_); clear hC; rintro e wa ⟨va, xa, rfl, hva, b⟩; have b1 : Hid (Below w3.heap.size w3 wa) := viaD bd.out b; have V1 : Hid (RwV wa va xa _) := hva; obtain ⟨ba, fa, qa, rfl, _⟩ := hva; clear b)
      | (go_at_call 47; have hC := moved_any (n := m) (RB.out.below b1.out) (by have := HN.out; omega) hm4; (with_reducible refine hC.mono ?_); clear hC; rintro e wb ⟨vb, xb, rfl, hvb, b⟩; have b2 : Hid (Below w3.heap.size w3 wb) := viaD b1.out b; have V2 : Hid (RwV wb vb xb _) := hvb; have V1b : Hid (RwV wb _ xa _) := V1.out.below b; obtain ⟨bb, fb, qb, rfl, _⟩ := hvb; clear b)
      | (go_at_call 46; have hC := concat_any (w := wb.alloc (.cells #[.slice (some ⟨ba, fa, none⟩) xa.length qa, .slice (some ⟨bb, fb, none⟩) xb.length qb] 74)) (c0 := wb.heap.size) (by rw [cell_of_row _ _ 0 _ _ _ (heap_alloc_new wb _)]; rfl) (by rw [cell_of_row _ _ 1 _ _ _ (heap_alloc_new wb _)]; rfl) (by simp) (V1b.out.below (new1 _ _)) (V2.out.below (new1 _ _)) (by have := V1b.out.len; simp at this; omega) (by have := V2.out.len; simp at this; omega); (with_reducible refine hC.mono ?_); clear hC; rintro e wc ⟨vc, rfl, hvc, b⟩; have bs : Hid (Below w3.heap.size w3 wc) := viaA b2.out b; have VC : Hid (RwV wc vc (xa ++ xb) _) := hvc; have LX : Hid ((xa ++ xb).length = n + m) := (by have h1 := V1b.out.len; have h2 := V2.out.len; simp at h1 h2; show _ = _; rw [List.length_append]; omega); obtain ⟨bc, fc, qc, rfl, _⟩ := hvc; clear b))
  have HSY := sy_split HM.out HN.out
  have DET : Hid (Calls Try.prog 48 #[.slice (some ⟨bc, fc, none⟩) (xa ++ xb).length qc] wc fun e w' => e = .returned (.int .i64 (rsl A B)) ∧ Below wc.heap.size wc w') := by
    have t := VC.out.rd (by rw [LX.out]; omega)
    rw [HSY] at t
    have hrn : rwN A B = m + n := by unfold rwN; have := HM.out; have := HN.out; omega
    have d := det_any (N := m + n) t (by rw [SY_len, hrn]) (by omega) (fun r hr => by
      obtain ⟨j, _, rfl⟩ := List.mem_map.1 hr
      rw [sy_len, hrn]) (SY_rb HI.out.1 HI.out.2)
    unfold rsl
    rw [hrn]
    exact d
  have BC : Hid (Below w.heap.size w wc) := B1.out.trans (bs.out.mono B1.out.size)
  clear HSY VC V1 V1b V2 b1 b2 bd bs RA RB X0 X1
  rw [List.length_append] at DET
  go_wp2_with fail
  refine DET.out.mono ?_
  rintro e wd ⟨rfl, b⟩
  have BD : Hid (Below w.heap.size w wd) := BC.out.trans (b.mono BC.out.size)
  clear b DET
  go_wp2_with fail
  go_ret2
  exact ⟨by rw [HZ.out, yes HZ.out]; rfl, BD.out⟩
end Go.Proofs.Ytbbdhbamooaloab.fResultantOf
