/- The law FnExactEvenNodes: marks from any number on, and its walk. -/
import Derived.Test.YtibpahkjjjhapabEvenNodesF
namespace Go.Proofs.Ytibpahkjjjhapab.fls
open Go.RowKit Go.Fl

theorem fi_all : ∀ k : Nat, k < 300 → isN .f32 (fi (k : Int)) = false := by decide +kernel
theorem fi_eq {s : Int} {j : Nat} (h0 : 0 ≤ s) (h : s + j < 300) : FloatKind.f32.format.order (fi (s + (j : Int))) (fi (s + (j : Int))) = some .eq := by
  obtain ⟨t, ht⟩ : ∃ t : Nat, s + (j : Int) = t := ⟨(s + (j : Int)).toNat, by omega⟩
  rw [ht]
  exact order_self_num (fi_all t (by omega))

set_option maxHeartbeats 800000 in
theorem markk_any {g cap n : Nat} {s : Int} {xs : List Value} {w : World} (h : w.ownsRow g 42 1 (.slice (some ⟨g, 0, none⟩) n cap) n xs) (hn : n ≤ 256) (hs : 0 ≤ s ∧ s ≤ 256) :
    Calls Try.prog 10 #[.slice (some ⟨g, 0, none⟩) n cap, .int .i64 s] w fun e w' => e = .returned (.int .i64 (s + (n : Int))) ∧ Fls w' (.slice (some ⟨g, 0, none⟩) n cap) n (fun j => fi (s + (j : Int))) ∧ Turned g (g + 1) w w' := by
  have start : Hid (w.ownsRow g 42 1 (.slice (some ⟨g, 0, none⟩) n cap) n xs) := h
  clear h
  go_enter Try.func10, Try.ntmps10
  go_wp2
  go_loopw [1, 5] (fun q i wr => ∃ (k : Nat) (ys : List Value), k ≤ n ∧ q = .int .i64 (s + (k : Int)) ∧ i = .int .i64 k ∧ Hid (wr.ownsRow g 42 1 (.slice (some ⟨g, 0, none⟩) n cap) n ys) ∧ Hid (∀ j, j < k → ys[j]? = some (.float .f32 (fi (s + (j : Int))))) ∧ Hid (Turned g (g + 1) w wr)) (fun _ i _ => n - (intOf i).toNat)
  case atStart => exact ⟨0, xs, by omega, by simp, rfl, start, fun j hj => by omega, Turned.refl _ _ _⟩
  case round =>
    obtain ⟨k, ys, hk, rfl, rfl, ho, hx, hb⟩ := hrel
    by_cases hlt : k < n
    · have e2 : wr.cell? ⟨g, k, none⟩ = ys[k]? := ho.out.cellAt k (by omega)
      have hxl : ys.length = n := by have := ho.out.1; simpa using this
      obtain ⟨u, hu⟩ : ∃ u, ys[k]? = some u := ⟨ys[k]'(by omega), List.getElem?_eq_getElem (by omega)⟩
      rw [hu] at e2
      have e3 : wr.frozen? ⟨g, k, none⟩ = false := ho.out.frozenAt k
      have hst := store_float (b := fi (s + (k : Int))) e2 e3
      have HO : Hid ((wr.setCell ⟨g, k, none⟩ (.float .f32 (fi (s + (k : Int))))).ownsRow g 42 1 (.slice (some ⟨g, 0, none⟩) n cap) n (ys.set k (.float .f32 (fi (s + (k : Int)))))) := (ho.out.stored k (.float .f32 (fi (s + (k : Int))))).1
      have HX : Hid (∀ j, j < k + 1 → (ys.set k (.float .f32 (fi (s + (k : Int)))))[j]? = some (.float .f32 (fi (s + (j : Int))))) := by
        intro j hj
        by_cases hjk : j = k
        · subst hjk
          rw [List.getElem?_set_self (by omega)]
        · rw [List.getElem?_set_ne (by omega)]
          exact hx.out j (by omega)
      have HB : Hid (Turned g (g + 1) w (wr.setCell ⟨g, k, none⟩ (.float .f32 (fi (s + (k : Int)))))) := hb.out.setCell (Nat.le_refl _) (by omega) _
      clear hu hb ho hx hxl start
      have hcv := conv_run (s + (k : Int))
      generalize fi (s + (k : Int)) = z at *
      go_wp2
      go_roundw
      case rel => exact ⟨k + 1, _, by omega, (by congr 1; push_cast; omega), by go_num, HO, HX, HB⟩
      case measure => simp [intOf]; omega
    · obtain rfl : k = n := by omega
      clear start
      go_wp2
      go_ret
      exact ⟨rfl, Fls.of_own (by omega) hx.out ho.out, hb.out⟩

theorem heldk_any {v : Value} {n : Nat} {s : Int} {w : World} (h : Fls w v n (fun j => fi (s + (j : Int)))) (hs : 0 ≤ s ∧ s + n ≤ 299) :
    Calls Try.prog 11 #[v, .int .i64 s] w fun e w' => e = .returned (.int .i64 (s + (n : Int))) ∧ w' = w := by
  obtain ⟨ao, cap, rfl, _, hc⟩ := h
  have hc' : Hid (n ≠ 0 → ∃ b off, ao = some ⟨b, off, none⟩ ∧ b < w.heap.size ∧ ∀ k, k < n → w.cell? ⟨b, off + k, none⟩ = some (.float .f32 (fi (s + (k : Int))))) := hc
  clear hc
  go_enter Try.func11, Try.ntmps11
  go_wp2
  go_loop [1, 5] (fun q i => ∃ (k : Nat), k ≤ n ∧ q = .int .i64 (s + (k : Int)) ∧ i = .int .i64 k) (fun _ i => n - (intOf i).toNat)
  case atStart => exact ⟨0, by omega, by simp, rfl⟩
  case round =>
    obtain ⟨k, hk, rfl, rfl⟩ := hrel
    by_cases hlt : k < n
    · obtain ⟨b, off, rfl, _, hcell⟩ := hc'.out (by omega)
      have e1 : w.cell? ⟨b, off + k, none⟩ = some (.float .f32 (fi (s + (k : Int)))) := hcell k hlt
      clear hcell
      have hcv := conv_run (s + (k : Int))
      have hself := fi_eq (s := s) (j := k) (by omega) (by omega)
      generalize fi (s + (k : Int)) = z at *
      go_wp2
      go_round
      case rel => exact ⟨k + 1, by omega, (by congr 1; push_cast; omega), by go_num⟩
      case measure => simp [intOf]; omega
    · obtain rfl : k = n := by omega
      go_wp2
      go_ret
      exact ⟨rfl, rfl⟩
end Go.Proofs.Ytibpahkjjjhapab.fls
namespace Go.Proofs.Ytibpahkjjjhapab.fnExactEvenNodesW
open Go.RowKit Go.Fl Go.Fa Go.Proofs.Ytibpahkjjjhapab.fls Go.Proofs.Ytibpahkjjjhapab.ev Go.Proofs.Ytibpahkjjjhapab.fEvenNodes

set_option maxRecDepth 100000 in
set_option maxHeartbeats 3200000 in
theorem walk_yes (m : Nat) (h1 : 1 ≤ m) (h8 : m ≤ 8) (w : World) :
    Calls Try.prog 5 #[.int .i64 m] w fun e w' => e = .returned (.bool true) ∧ Below w.heap.size w w' := by
  have hS := spec_yes m h1 h8 w
  have HI := Lib.hid (impl_yes m h1 h8)
  unfold EYes at hS HI
  generalize N m = FN at *
  generalize W m = FW at *
  go_enter Try.func5, Try.ntmps5
  go_wp2_with fail
  refine hS.mono ?_
  rintro e w1 ⟨s0, s1, d0, d1, M0, M1, rfl, _, _, _, p0, p1, q0, q1, b1⟩
  obtain ⟨f0, lf0, ls0⟩ := q0.get
  obtain ⟨f1, lf1, ls1⟩ := q1.get
  have P0 : Hid (Fls w1 (.slice (some ⟨s0, 0, none⟩) m d0) m f0) := Fls.of_own (by omega) lf0 p0
  have P1 : Hid (Fls w1 (.slice (some ⟨s1, 0, none⟩) m d1) m f1) := Fls.of_own (by omega) lf1 p1
  have S0 : Hid (∀ k, k < m → Sm .f32 (f0 k) (FN k)) := ls0
  have S1 : Hid (∀ k, k < m → Sm .f32 (f1 k) (FW k)) := ls1
  have B1 : Hid (Below w.heap.size w w1) := b1
  clear p0 p1 q0 q1 b1 lf0 lf1 ls0 ls1 hS
  go_wp2_with fail
  refine (HI.out w1).mono ?_
  rintro e w2 ⟨g0, g1, c0, c1, L0, L1, rfl, hne, hg0, hg1, o0, o1, l0, l1, b2⟩
  obtain ⟨y0, lg0, lt0⟩ := l0.get
  obtain ⟨y1, lg1, lt1⟩ := l1.get
  have O0 := Lib.hid o0
  have O1 := Lib.hid o1
  have Y0 : Hid (Fls w2 (.slice (some ⟨g0, 0, none⟩) m c0) m y0) := Fls.of_own (by omega) lg0 o0
  have LG1 : Hid (∀ k, k < m → L1[k]? = some (.float .f32 (y1 k))) := lg1
  have T0 : Hid (∀ k, k < m → Sm .f32 (y0 k) (f0 k)) := fun k hk => (lt0 k hk).trans (S0.out k hk).symm
  have T1 : Hid (∀ k, k < m → Sm .f32 (y1 k) (f1 k)) := fun k hk => (lt1 k hk).trans (S1.out k hk).symm
  have B2 : Hid (Below w1.heap.size w1 w2) := b2
  have NE : Hid (g0 ≠ g1) := hne
  have G0 : Hid (w1.heap.size ≤ g0 ∧ w1.heap.size ≤ g1) := ⟨hg0, hg1⟩
  have P02 : Hid (Fls w2 (.slice (some ⟨s0, 0, none⟩) m d0) m f0) := P0.out.below b2
  clear o0 o1 l0 l1 b2 lg0 lg1 lt0 lt1 hne hg0 hg1
  go_wp2_with fail
  refine (eqs_any Y0.out P02.out T0.out).mono ?_
  rintro e w3 ⟨rfl, a3, rfl⟩
  have O03 : Hid ((w2.drewN a3).ownsRow g0 42 1 (.slice (some ⟨g0, 0, none⟩) m c0) m L0) := O0.out
  have O13 : Hid ((w2.drewN a3).ownsRow g1 42 1 (.slice (some ⟨g1, 0, none⟩) m c1) m L1) := O1.out
  have B3 : Hid (Below w1.heap.size w1 (w2.drewN a3)) := Go.Pst.below_drewN B2.out _
  clear O0 O1 B2 Y0 P02
  generalize hw3 : w2.drewN a3 = w3 at *
  clear hw3
  have Y13 : Hid (Fls w3 (.slice (some ⟨g1, 0, none⟩) m c1) m y1) := Fls.of_own (by omega) LG1.out O13.out
  have P13 : Hid (Fls w3 (.slice (some ⟨s1, 0, none⟩) m d1) m f1) := P1.out.below B3.out
  go_wp2_with fail
  refine (eqs_any Y13.out P13.out T1.out).mono ?_
  rintro e w4 ⟨rfl, a4, rfl⟩
  have O04 : Hid ((w3.drewN a4).ownsRow g0 42 1 (.slice (some ⟨g0, 0, none⟩) m c0) m L0) := O03.out
  have O14 : Hid ((w3.drewN a4).ownsRow g1 42 1 (.slice (some ⟨g1, 0, none⟩) m c1) m L1) := O13.out
  have B4 : Hid (Below w1.heap.size w1 (w3.drewN a4)) := Go.Pst.below_drewN B3.out _
  clear O03 O13 B3 Y13 P13
  generalize hw4 : w3.drewN a4 = w4 at *
  clear hw4
  go_wp2_with fail
  refine (markk_any O04.out (by omega) (by omega)).mono ?_
  rintro e w5 ⟨rfl, i5, t5⟩
  have I5 : Hid (Fls w5 (.slice (some ⟨g0, 0, none⟩) m c0) m (fun j => fi ((1 : Int) + (j : Int)))) := i5
  have O15 : Hid (w5.ownsRow g1 42 1 (.slice (some ⟨g1, 0, none⟩) m c1) m L1) := own_same O14.out (t5.block g1 (own_lt O14.out) (by have := NE.out; omega))
  have Z5 : Hid (g0 < w5.heap.size) := by
    have h0 := own_lt O04.out
    have h1 := t5.size
    show g0 < _
    omega
  have B5 : Hid (Below w1.heap.size w1 w5) := B4.out.trans (t5.below G0.out.1 B4.out.size)
  clear i5 t5 O04 O14 B4
  go_wp2_with fail
  refine (markk_any O15.out (by omega) (by omega)).mono ?_
  rintro e w6 ⟨rfl, i6, t6⟩
  have I6 : Hid (Fls w6 (.slice (some ⟨g1, 0, none⟩) m c1) m (fun j => fi ((1 : Int) + (m : Int) + (j : Int)))) := i6
  have I06 : Hid (Fls w6 (.slice (some ⟨g0, 0, none⟩) m c0) m (fun j => fi ((1 : Int) + (j : Int)))) := by
    obtain ⟨ao, cap, hv, hn, hc⟩ := I5.out
    refine ⟨ao, cap, hv, hn, fun h0 => ?_⟩
    obtain ⟨b, off, ha, hb, hcell⟩ := hc h0
    simp only [Value.slice.injEq] at hv
    obtain ⟨ha', _⟩ := hv
    rw [ha] at ha'
    simp only [Option.some.injEq, Addr.mk.injEq] at ha'
    obtain ⟨hb', _⟩ := ha'
    refine ⟨b, off, ha, Nat.lt_of_lt_of_le hb t6.size, fun k hk => ?_⟩
    have hblk : w6.heap[b]? = w5.heap[b]? := t6.block b hb (by have := NE.out; omega)
    rw [show w6.cell? ⟨b, off + k, none⟩ = w5.cell? ⟨b, off + k, none⟩ from World.cell?_of_block hblk]
    exact hcell k hk
  have B6 : Hid (Below w1.heap.size w1 w6) := B5.out.trans (t6.below G0.out.2 B5.out.size)
  clear i6 t6 O15 B5 I5 Z5
  go_wp2_with fail
  refine (heldk_any I06.out (by omega)).mono ?_
  rintro e w7 ⟨rfl, hw7⟩
  rw [hw7]
  clear hw7
  go_wp2_with fail
  refine (heldk_any I6.out (by omega)).mono ?_
  rintro e w7 ⟨rfl, hw7⟩
  rw [hw7]
  clear hw7
  have P06 : Hid (Fls w6 (.slice (some ⟨s0, 0, none⟩) m d0) m f0) := P0.out.below B6.out
  have P16 : Hid (Fls w6 (.slice (some ⟨s1, 0, none⟩) m d1) m f1) := P1.out.below B6.out
  have B06 : Hid (Below w.heap.size w w6) := B1.out.trans (B6.out.mono B1.out.size)
  clear B6
  go_wp2_with fail
  refine (HI.out w6).mono ?_
  rintro e w8 ⟨h0, h1', e0, e1, K0, K1, rfl, _, _, _, o0, o1, l0, l1, b8⟩
  obtain ⟨z0, lz0, lu0⟩ := l0.get
  obtain ⟨z1, lz1, lu1⟩ := l1.get
  have Z0 : Hid (Fls w8 (.slice (some ⟨h0, 0, none⟩) m e0) m z0) := Fls.of_own (by omega) lz0 o0
  have Z1 : Hid (Fls w8 (.slice (some ⟨h1', 0, none⟩) m e1) m z1) := Fls.of_own (by omega) lz1 o1
  have U0 : Hid (∀ k, k < m → Sm .f32 (z0 k) (f0 k)) := fun k hk => (lu0 k hk).trans (S0.out k hk).symm
  have U1 : Hid (∀ k, k < m → Sm .f32 (z1 k) (f1 k)) := fun k hk => (lu1 k hk).trans (S1.out k hk).symm
  have P08 : Hid (Fls w8 (.slice (some ⟨s0, 0, none⟩) m d0) m f0) := P06.out.below b8
  have P18 : Hid (Fls w8 (.slice (some ⟨s1, 0, none⟩) m d1) m f1) := P16.out.below b8
  have I08 : Hid (Fls w8 (.slice (some ⟨g0, 0, none⟩) m c0) m (fun j => fi ((1 : Int) + (j : Int)))) := I06.out.below b8
  have I18 : Hid (Fls w8 (.slice (some ⟨g1, 0, none⟩) m c1) m (fun j => fi ((1 : Int) + (m : Int) + (j : Int)))) := I6.out.below b8
  have B8 : Hid (Below w.heap.size w w8) := B06.out.trans (b8.mono B06.out.size)
  clear o0 o1 l0 l1 b8 lz0 lz1 lu0 lu1 I06 I6 P06 P16 B06
  go_wp2_with fail
  refine (eqs_any Z0.out P08.out U0.out).mono ?_
  rintro e w9 ⟨rfl, a9, rfl⟩
  have D9 : Hid (Below w8.heap.size w8 (w8.drewN a9)) := Go.Pst.below_draws ⟨_, rfl⟩
  have Z19 : Hid (Fls (w8.drewN a9) (.slice (some ⟨h1', 0, none⟩) m e1) m z1) := Z1.out.below D9.out
  have P19 : Hid (Fls (w8.drewN a9) (.slice (some ⟨s1, 0, none⟩) m d1) m f1) := P18.out.below D9.out
  have I09 : Hid (Fls (w8.drewN a9) (.slice (some ⟨g0, 0, none⟩) m c0) m (fun j => fi ((1 : Int) + (j : Int)))) := I08.out.below D9.out
  have I19 : Hid (Fls (w8.drewN a9) (.slice (some ⟨g1, 0, none⟩) m c1) m (fun j => fi ((1 : Int) + (m : Int) + (j : Int)))) := I18.out.below D9.out
  have B9 : Hid (Below w.heap.size w (w8.drewN a9)) := Go.Pst.below_drewN B8.out _
  clear D9 Z0 Z1 P08 P18 I08 I18 B8
  generalize hw9 : w8.drewN a9 = w9 at *
  clear hw9
  go_wp2_with fail
  refine (eqs_any Z19.out P19.out U1.out).mono ?_
  rintro e w10 ⟨rfl, a10, rfl⟩
  have D10 : Hid (Below w9.heap.size w9 (w9.drewN a10)) := Go.Pst.below_draws ⟨_, rfl⟩
  have I010 : Hid (Fls (w9.drewN a10) (.slice (some ⟨g0, 0, none⟩) m c0) m (fun j => fi ((1 : Int) + (j : Int)))) := I09.out.below D10.out
  have I110 : Hid (Fls (w9.drewN a10) (.slice (some ⟨g1, 0, none⟩) m c1) m (fun j => fi ((1 : Int) + (m : Int) + (j : Int)))) := I19.out.below D10.out
  have B10 : Hid (Below w.heap.size w (w9.drewN a10)) := Go.Pst.below_drewN B9.out _
  clear D10 Z19 P19 I09 I19 B9
  generalize hw10 : w9.drewN a10 = w10 at *
  clear hw10
  go_wp2_with fail
  refine (heldk_any I010.out (by omega)).mono ?_
  rintro e w11 ⟨rfl, hw11⟩
  rw [hw11]
  clear hw11
  go_wp2_with fail
  refine (heldk_any I110.out (by omega)).mono ?_
  rintro e w11 ⟨rfl, hw11⟩
  rw [hw11]
  clear hw11
  go_wp2_with fail
  go_ret
  exact ⟨rfl, B10.out⟩

set_option maxRecDepth 100000 in
set_option maxHeartbeats 3200000 in
theorem walk_no (n : Int) (h : ¬ (1 ≤ n ∧ n ≤ 8)) (w : World) :
    Calls Try.prog 5 #[.int .i64 n] w fun e w' => e = .returned (.bool true) ∧ Below w.heap.size w w' := by
  have hS := spec_no n h w
  have HI := Lib.hid (impl_no n h)
  have NIL : Hid (∀ w : World, Fls w (.slice none 0 0) 0 (fun _ => 0)) := fun w => ⟨none, 0, rfl, by omega, fun h => absurd rfl h⟩
  have NIM : Hid (∀ w : World, w.ownsRow w.heap.size 42 1 (.slice none 0 0) 0 []) := fun w => ⟨rfl, .inl ⟨rfl, rfl⟩⟩
  have NIH : Hid (∀ w : World, Fls w (.slice none 0 0) 0 (fun j => fi ((j : Int) + 1))) := fun w => ⟨none, 0, rfl, by omega, fun h => absurd rfl h⟩
  unfold ENo at hS HI
  clear h
  go_enter Try.func5, Try.ntmps5
  go_wp2_with fail
  refine hS.mono ?_
  rintro e w1 ⟨rfl, b1⟩
  have B1 : Hid (Below w.heap.size w w1) := b1
  clear b1 hS
  go_wp2_with fail
  refine (HI.out w1).mono ?_
  rintro e w2 ⟨rfl, b2⟩
  have B2 : Hid (Below w.heap.size w w2) := B1.out.trans (b2.mono B1.out.size)
  clear b2 B1
  go_wp2_with fail
  refine (eqs_any (NIL.out _) (NIL.out _) (fun k hk => by omega)).mono ?_
  rintro e w3 ⟨rfl, a3, rfl⟩
  have B3 : Hid (Below w.heap.size w (w2.drewN a3)) := Go.Pst.below_drewN B2.out _
  clear B2
  generalize hw3 : w2.drewN a3 = w3 at *
  clear hw3
  go_wp2_with fail
  refine (eqs_any (NIL.out _) (NIL.out _) (fun k hk => by omega)).mono ?_
  rintro e w4 ⟨rfl, a4, rfl⟩
  have B4 : Hid (Below w.heap.size w (w3.drewN a4)) := Go.Pst.below_drewN B3.out _
  clear B3
  generalize hw4 : w3.drewN a4 = w4 at *
  clear hw4
  go_wp2_with fail
  refine (mark_any (NIM.out _) (by omega) (Nat.le_refl _)).mono ?_
  rintro e w5 ⟨rfl, _, b5⟩
  have B5 : Hid (Below w.heap.size w w5) := B4.out.trans (b5.mono B4.out.size)
  clear b5 B4
  go_wp2_with fail
  refine (mark_any (NIM.out _) (by omega) (Nat.le_refl _)).mono ?_
  rintro e w6 ⟨rfl, _, b6⟩
  have B6 : Hid (Below w.heap.size w w6) := B5.out.trans (b6.mono B5.out.size)
  clear b6 B5
  go_wp2_with fail
  refine (held_any (NIH.out _) (by omega)).mono ?_
  rintro e w7 ⟨rfl, hw7⟩
  rw [hw7]
  clear hw7
  go_wp2_with fail
  refine (held_any (NIH.out _) (by omega)).mono ?_
  rintro e w7 ⟨rfl, hw7⟩
  rw [hw7]
  clear hw7
  go_wp2_with fail
  refine (HI.out w6).mono ?_
  rintro e w8 ⟨rfl, b8⟩
  have B8 : Hid (Below w.heap.size w w8) := B6.out.trans (b8.mono B6.out.size)
  clear b8 B6
  go_wp2_with fail
  refine (eqs_any (NIL.out _) (NIL.out _) (fun k hk => by omega)).mono ?_
  rintro e w9 ⟨rfl, a9, rfl⟩
  have B9 : Hid (Below w.heap.size w (w8.drewN a9)) := Go.Pst.below_drewN B8.out _
  clear B8
  generalize hw9 : w8.drewN a9 = w9 at *
  clear hw9
  go_wp2_with fail
  refine (eqs_any (NIL.out _) (NIL.out _) (fun k hk => by omega)).mono ?_
  rintro e w10 ⟨rfl, a10, rfl⟩
  have B10 : Hid (Below w.heap.size w (w9.drewN a10)) := Go.Pst.below_drewN B9.out _
  clear B9
  generalize hw10 : w9.drewN a10 = w10 at *
  clear hw10
  go_wp2_with fail
  refine (held_any (NIH.out _) (by omega)).mono ?_
  rintro e w11 ⟨rfl, hw11⟩
  rw [hw11]
  clear hw11
  go_wp2_with fail
  refine (held_any (NIH.out _) (by omega)).mono ?_
  rintro e w11 ⟨rfl, hw11⟩
  rw [hw11]
  clear hw11
  go_wp2_with fail
  go_ret
  exact ⟨rfl, B10.out⟩

theorem walk (n : Int) (_wn : (Lit.int .i64 n).wf = true) (w : World) :
    Calls Try.prog 5 #[.int .i64 n] w fun e w' => e = .returned (.bool true) ∧ Below w.heap.size w w' := by
  by_cases h : 1 ≤ n ∧ n ≤ 8
  · obtain ⟨m, rfl⟩ : ∃ m : Nat, n = m := ⟨n.toNat, by omega⟩
    exact walk_yes m (by omega) (by omega) w
  · exact walk_no n h w
end Go.Proofs.Ytibpahkjjjhapab.fnExactEvenNodesW
