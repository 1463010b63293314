/- The law FnExactRoundFit: its walk. -/
import Derived.Test.YtibpahkjjjhapabRoundFitF
namespace Go.Proofs.Ytibpahkjjjhapab.fnExactRoundFitW
open Go.RowKit Go.Fl Go.Fa Go.Proofs.Ytibpahkjjjhapab.fls Go.Proofs.Ytibpahkjjjhapab.fRoundFit

set_option maxRecDepth 100000 in
set_option maxHeartbeats 3200000 in
theorem walk (v : Value) (w : World) (h : ∃ n f, Fls w v n f) :
    Calls Try.prog 4 #[v] w fun e w' => e = .returned (.bool true) ∧ Below w.heap.size w w' := by
  obtain ⟨n, f, h⟩ := h
  obtain ⟨ao, cap, rfl, _, _⟩ := id h
  by_cases hlen : n ≤ 1048576
  · have H0 : Hid (Fls w (.slice ao n cap) n f) := h
    have HSP : Hid (∀ {v : Value} {w : World}, Fls w v n f → Calls Try.prog 12 #[v] w (FAns (len f n) (ok f n) (F f n) w)) := fun h => spec_any h hlen
    have HIM : Hid (∀ {v : Value} {w : World}, Fls w v n f → Calls Try.prog 14 #[v] w (FAns (len f n) (ok f n) (F f n) w)) := fun h => impl_any h hlen
    have hm : len f n ≤ 256 := len_le f n
    clear h
    generalize len f n = m at *
    generalize ok f n = gg at *
    generalize F f n = FF at *
    unfold FAns at HSP HIM
    go_enter Try.func4, Try.ntmps4
    go_wp2_with fail
    refine (too_any H0.out hlen).mono ?_
    rintro e w1 ⟨v1, L1, rfl, _, h1, b1⟩
    have H1 : Hid (Fls w1 v1 n f) := h1
    have B1 : Hid (Below w.heap.size w w1) := b1
    clear h1 b1
    go_wp2_with fail
    refine (HSP.out H1.out).mono ?_
    rintro e w2 ⟨v2, L2, rfl, o2, l2, b2⟩
    obtain ⟨f2, lf2, ls2⟩ := l2.get
    have H2 : Hid (Fls w2 v2 m f2) := Fls.of_own (by omega) lf2 o2
    have S2 : Hid (∀ k, k < m → Sm .f32 (f2 k) (FF k)) := ls2
    have B2 : Hid (Below w.heap.size w w2) := B1.out.trans (b2.mono B1.out.size)
    have H02 : Hid (Fls w2 (.slice ao n cap) n f) := H0.out.below B2.out
    clear o2 l2 b2 lf2 ls2 H1 B1 H0
    go_wp2_with fail
    refine (too_any H02.out hlen).mono ?_
    rintro e w3 ⟨v3, L3, rfl, o3, h3, b3⟩
    have O3 : Hid (w3.ownsRow w2.heap.size 42 1 v3 n L3) := o3
    have G3 : Hid (∀ g cap, v3 = .slice (some ⟨g, 0, none⟩) n cap → g < w3.heap.size) := fun g cap e => by subst e; exact own_lt o3
    have H3 : Hid (Fls w3 v3 n f) := h3
    have B3 : Hid (Below w2.heap.size w2 w3) := b3
    clear o3 h3 b3
    go_wp2_with fail
    refine (HIM.out H3.out).mono ?_
    rintro e w4 ⟨v4, L4, rfl, o4, l4, b4⟩
    obtain ⟨f4, lf4, ls4⟩ := l4.get
    have H4 : Hid (Fls w4 v4 m f4) := Fls.of_own (by omega) lf4 o4
    have S42 : Hid (∀ k, k < m → Sm .f32 (f4 k) (f2 k)) := fun k hk => (ls4 k hk).trans (S2.out k hk).symm
    have O4 : Hid (w4.ownsRow w3.heap.size 42 1 v4 m L4) := o4
    have LF4 : Hid (∀ k, k < m → L4[k]? = some (.float .f32 (f4 k))) := lf4
    have B34 : Hid (Below w3.heap.size w3 w4) := b4
    have B4 : Hid (Below w2.heap.size w2 w4) := B3.out.trans (b4.mono B3.out.size)
    have O34 : Hid (w4.ownsRow w2.heap.size 42 1 v3 n L3) := own_kept O3.out b4
    have H34 : Hid (Fls w4 v3 n f) := H3.out.below b4
    have H24 : Hid (Fls w4 v2 m f2) := H2.out.below B4.out
    have H04 : Hid (Fls w4 (.slice ao n cap) n f) := H02.out.below B4.out
    clear o4 l4 b4 lf4 ls4 O3 H3
    go_wp2_with fail
    refine (eqs_any H4.out H24.out S42.out).mono ?_
    rintro e w5 ⟨rfl, q5, rfl⟩
    have D5 : Hid (Below w4.heap.size w4 (w4.drewN q5)) := Go.Pst.below_draws ⟨_, rfl⟩
    have B5 : Hid (Below w2.heap.size w2 (w4.drewN q5)) := Go.Pst.below_drewN B4.out _
    have O45 : Hid ((w4.drewN q5).ownsRow w3.heap.size 42 1 v4 m L4) := O4.out
    have O35 : Hid ((w4.drewN q5).ownsRow w2.heap.size 42 1 v3 n L3) := O34.out
    have H35 : Hid (Fls (w4.drewN q5) v3 n f) := H34.out.below D5.out
    have H05 : Hid (Fls (w4.drewN q5) (.slice ao n cap) n f) := H04.out.below D5.out
    have Z5 : Hid (w3.heap.size ≤ (w4.drewN q5).heap.size) := B34.out.size
    clear D5 O4 O34 H34 H04 H24 H4 B4 B34
    generalize hw5 : w4.drewN q5 = w5 at *
    clear hw5
    go_wp2_with fail
    refine (too_any H05.out hlen).mono ?_
    rintro e w6 ⟨v6, L6, rfl, _, h6, b6⟩
    have H6 : Hid (Fls w6 v6 n f) := h6
    have H36 : Hid (Fls w6 v3 n f) := H35.out.below b6
    have O46 : Hid (w6.ownsRow w3.heap.size 42 1 v4 m L4) := own_kept O45.out b6
    have O36 : Hid (w6.ownsRow w2.heap.size 42 1 v3 n L3) := own_kept O35.out b6
    have B6 : Hid (Below w2.heap.size w2 w6) := B5.out.trans (b6.mono B5.out.size)
    have Z6 : Hid (w3.heap.size ≤ w6.heap.size) := by have := b6.size; have := Z5.out; show _ ≤ _; omega
    clear h6 b6 H35 O45 O35 B5 H05 Z5
    go_wp2_with fail
    refine (eqs_any H36.out H6.out (fun k _ => Sm.refl _ _)).mono ?_
    rintro e w7 ⟨rfl, q7, rfl⟩
    have O47 : Hid ((w6.drewN q7).ownsRow w3.heap.size 42 1 v4 m L4) := O46.out
    have O37 : Hid ((w6.drewN q7).ownsRow w2.heap.size 42 1 v3 n L3) := O36.out
    have B7 : Hid (Below w2.heap.size w2 (w6.drewN q7)) := Go.Pst.below_drewN B6.out _
    have Z7 : Hid (w3.heap.size ≤ (w6.drewN q7).heap.size) := Z6.out
    clear H6 H36 O46 O36 B6 Z6
    generalize hw7 : w6.drewN q7 = w7 at *
    clear hw7
    go_wp2_with fail
    refine (marko_any (hi := w3.heap.size) O37.out hlen ?side).mono ?_
    case side => exact G3.out
    rintro e w8 ⟨rfl, t8⟩
    have T8 : Hid (Turned w2.heap.size w3.heap.size w7 w8) := t8
    have B8 : Hid (Below w2.heap.size w2 w8) := B7.out.trans (t8.below (Nat.le_refl _) B7.out.size)
    have O48 : Hid (w8.ownsRow w3.heap.size 42 1 v4 m L4) := own_turned O47.out t8 (Nat.le_refl _)
    have H48 : Hid (Fls w8 v4 m f4) := Fls.of_own (by omega) LF4.out O48.out
    have H28 : Hid (Fls w8 v2 m f2) := H2.out.below B8.out
    have Z8 : Hid (w3.heap.size ≤ w8.heap.size) := by have := t8.size; have := Z7.out; show _ ≤ _; omega
    clear t8 T8 O47 O37 B7 Z7
    go_wp2_with fail
    refine (eqs_any H48.out H28.out S42.out).mono ?_
    rintro e w9 ⟨rfl, q9, rfl⟩
    have O49 : Hid ((w8.drewN q9).ownsRow w3.heap.size 42 1 v4 m L4) := O48.out
    have B9 : Hid (Below w2.heap.size w2 (w8.drewN q9)) := Go.Pst.below_drewN B8.out _
    have Z9 : Hid (w3.heap.size ≤ (w8.drewN q9).heap.size) := Z8.out
    clear O48 H48 H28 B8 Z8
    generalize hw9 : w8.drewN q9 = w9 at *
    clear hw9
    go_wp2_with fail
    refine (mark_any O49.out hm Z9.out).mono ?_
    rintro e w10 ⟨rfl, i10, b10⟩
    have I10 : Hid (Fls w10 v4 m (fun j => fi ((j : Int) + 1))) := i10
    have B10 : Hid (Below w2.heap.size w2 w10) := B9.out.trans (b10.mono B3.out.size)
    clear i10 b10 O49 B9 Z9
    go_wp2_with fail
    refine (held_any I10.out hm).mono ?_
    rintro e w11 ⟨rfl, hw11⟩
    rw [hw11]
    clear hw11
    have H010 : Hid (Fls w10 (.slice ao n cap) n f) := H02.out.below B10.out
    have H210 : Hid (Fls w10 v2 m f2) := H2.out.below B10.out
    go_wp2_with fail
    refine (too_any H010.out hlen).mono ?_
    rintro e w12 ⟨v12, L12, rfl, _, h12, b12⟩
    have H12 : Hid (Fls w12 v12 n f) := h12
    have I12 : Hid (Fls w12 v4 m (fun j => fi ((j : Int) + 1))) := I10.out.below b12
    have H212 : Hid (Fls w12 v2 m f2) := H210.out.below b12
    have B12 : Hid (Below w2.heap.size w2 w12) := B10.out.trans (b12.mono B10.out.size)
    clear h12 b12 I10 H210 H010 B10
    go_wp2_with fail
    refine (HIM.out H12.out).mono ?_
    rintro e w13 ⟨v13, L13, rfl, o13, l13, b13⟩
    obtain ⟨f13, lf13, ls13⟩ := l13.get
    have H13 : Hid (Fls w13 v13 m f13) := Fls.of_own (by omega) lf13 o13
    have S13 : Hid (∀ k, k < m → Sm .f32 (f13 k) (f2 k)) := fun k hk => (ls13 k hk).trans (S2.out k hk).symm
    have I13 : Hid (Fls w13 v4 m (fun j => fi ((j : Int) + 1))) := I12.out.below b13
    have H213 : Hid (Fls w13 v2 m f2) := H212.out.below b13
    have B13 : Hid (Below w2.heap.size w2 w13) := B12.out.trans (b13.mono B12.out.size)
    clear o13 l13 b13 lf13 ls13 I12 H212 H12 B12
    go_wp2_with fail
    refine (eqs_any H13.out H213.out S13.out).mono ?_
    rintro e w14 ⟨rfl, q14, rfl⟩
    have I14 : Hid (Fls (w13.drewN q14) v4 m (fun j => fi ((j : Int) + 1))) := I13.out
    have B14 : Hid (Below w2.heap.size w2 (w13.drewN q14)) := Go.Pst.below_drewN B13.out _
    clear H13 H213 I13 B13
    generalize hw14 : w13.drewN q14 = w14 at *
    clear hw14
    go_wp2_with fail
    refine (held_any I14.out hm).mono ?_
    rintro e w15 ⟨rfl, hw15⟩
    rw [hw15]
    clear hw15
    go_wp2_with fail
    go_ret
    exact ⟨rfl, B2.out.trans (B14.out.mono B2.out.size)⟩
  · clear h
    go_enter Try.func4, Try.ntmps4
    go_wp2
    go_ret
    exact ⟨rfl, Go.Pst.below_draws ⟨0, rfl⟩⟩
end Go.Proofs.Ytibpahkjjjhapab.fnExactRoundFitW
