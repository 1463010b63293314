/- LiftPair: the program's check. -/
import Derived.Test.YtfhcfeafohcjpaaLiF
namespace Go.Proofs.Ytfhcfeafohcjpaa.fLiftPair
open Go.RowKit Go.Pl Go.Proofs.Ytfhcfeafohcjpaa.wh

set_option maxRecDepth 100000 in
set_option maxHeartbeats 3200000 in
theorem ifl_any {po go ho : Option Addr} {pc gc hc : Nat} {P G H : List Int} {w : World} (p : Int) (hp0 : (Lit.int .i64 p).wf = true) (lP : Ls w (.slice po P.length pc) P) (lG : Ls w (.slice go G.length gc) G) (lH : Ls w (.slice ho H.length hc) H) :
    Calls Try.prog 36 #[.agg #[.slice po P.length pc], .agg #[.slice go G.length gc], .agg #[.slice ho H.length hc], .int .i64 p] w fun e w' => e = .returned (.bool (chk P G H p)) ∧ Below w.heap.size w w' := by
  obtain ⟨w1, hw⟩ : ∃ x, x = ((w.alloc (.cells #[.slice po P.length pc] 26)).alloc (.cells #[.slice go G.length gc] 26)).alloc (.cells #[.slice ho H.length hc] 26) := ⟨_, rfl⟩
  have XP : Hid (Bx w1 w.heap.size (.slice po P.length pc)) := by rw [hw]; exact ((Bx.new _ _ _).alloc _).alloc _
  have XG : Hid (Bx w1 (w.heap.size + 1) (.slice go G.length gc)) := by rw [hw]; exact (Bx.new2 _ _ _ _).alloc _
  have XH : Hid (Bx w1 (w.heap.size + 1 + 1) (.slice ho H.length hc)) := by rw [hw]; exact Bx.new3 _ _ _ _ _
  have B1 : Hid (Below w.heap.size w w1) := by rw [hw]; exact new3 _ _ _ _
  have LP : Hid (Ls w1 (.slice po P.length pc) P) := lP.below B1.out
  have LG : Hid (Ls w1 (.slice go G.length gc) G) := lG.below B1.out
  have LH : Hid (Ls w1 (.slice ho H.length hc) H) := lH.below B1.out
  have CF : Hid (∀ W, Below w1.heap.size w1 W → W.cell? ⟨w.heap.size, 0, none⟩ = some (.slice po P.length pc) ∧ W.cell? ⟨w.heap.size + 1, 0, none⟩ = some (.slice go G.length gc) ∧ W.cell? ⟨w.heap.size + 1 + 1, 0, none⟩ = some (.slice ho H.length hc) ∧ Ls W (.slice po P.length pc) P ∧ Ls W (.slice go G.length gc) G ∧ Ls W (.slice ho H.length hc) H) :=
    fun W b => ⟨(XP.out.kept b).cell, (XG.out.kept b).cell, (XH.out.kept b).cell, LP.out.below b, LG.out.below b, LH.out.below b⟩
  have HP0 : Hid ((Lit.int .i64 p).wf = true) := hp0
  have BC : Hid (Below w1.heap.size w1 w1) := Below.refl _ _
  obtain ⟨c0, c1, c2, l0, l1, l2⟩ := CF.out _ BC.out
  have K0 := l0
  have K1 := l1
  have K2 := l2
  clear hp0 lP lG lH l0 l1 l2
  have NO : Hid (∀ W, chk P G H p = false → Below w1.heap.size w1 W → (Ending.returned (.bool false) = .returned (.bool (chk P G H p)) ∧ Below w.heap.size w W)) := fun W h b => ⟨by rw [h], B1.out.trans (b.mono B1.out.size)⟩
  go_enter Try.func36, Try.ntmps36
  go_wp2_with fail
  rw [← hw]
  clear hw
  refine (iover_any ⟨_, rfl, K1⟩ p).mono ?_
  rintro e w2 ⟨rfl, b⟩
  replace BC : Hid (Below w1.heap.size w1 w2) := BC.out.trans (b.mono BC.out.size)
  clear b K0 K1 K2 c0 c1 c2
  obtain ⟨c0, c1, c2, l0, l1, l2⟩ := CF.out _ BC.out
  cases hg : over G p with
  | false =>
    have HA := NO.out _ (chk_no (fun h => by have := h.1; rw [hg] at this; cases this)) BC.out
    clear l0 l1 l2 hg
    go_wp2_with fail
    go_ret
    exact HA
  | true =>
    have K2 := l2
    clear l0 l1 l2
    go_wp2_with fail
    refine (iover_any ⟨_, rfl, K2⟩ p).mono ?_
    rintro e w3 ⟨rfl, b⟩
    replace BC : Hid (Below w1.heap.size w1 w3) := BC.out.trans (b.mono BC.out.size)
    clear b K2 c0 c1 c2
    obtain ⟨c0, c1, c2, l0, l1, l2⟩ := CF.out _ BC.out
    cases hh : over H p with
    | false =>
      have HA := NO.out _ (chk_no (fun h => by have := h.2.1; rw [hh] at this; cases this)) BC.out
      clear l0 l1 l2 hg hh
      go_wp2_with fail
      go_ret
      exact HA
    | true =>
      have K0 := l0
      have HG : Hid (over G p = true) := hg
      have HH : Hid (over H p = true) := hh
      clear l0 l1 l2 hg hh
      go_wp2_with fail
      refine (hasDeg_any ⟨_, rfl, K0⟩ 2 8).mono ?_
      rintro e w4 ⟨rfl, b⟩
      replace BC : Hid (Below w1.heap.size w1 w4) := BC.out.trans (b.mono BC.out.size)
      clear b K0 c0 c1 c2
      obtain ⟨c0, c1, c2, l0, l1, l2⟩ := CF.out _ BC.out
      clear l0 l1 l2
      by_cases hd : val P = true ∧ 3 ≤ P.length ∧ P.length ≤ 9
      · have hd' : (val P && decide ((2 : Int) ≤ (P.length : Int) - 1 ∧ (P.length : Int) - 1 ≤ 8)) = true := by
          rw [hd.1, decide_eq_true ⟨by omega, by omega⟩]; rfl
        rw [hd']
        have HD : Hid (val P = true ∧ 3 ≤ P.length ∧ P.length ≤ 9) := hd
        clear hd hd'
        go_wp2_with fail
        obtain ⟨wA, hwA⟩ : ∃ x, x = w4.alloc (.cells #[.slice go G.length gc, .slice ho H.length hc] 26) := ⟨_, rfl⟩
        rw [← hwA]
        have BA : Hid (Below w1.heap.size w1 wA) := by rw [hwA]; exact BC.out.alloc BC.out.size _
        have AR : Hid (∀ W, Below wA.heap.size wA W → W.cell? ⟨w4.heap.size, 0, none⟩ = some (.slice go G.length gc) ∧ W.cell? ⟨w4.heap.size, 1, none⟩ = some (.slice ho H.length hc)) := fun W b => by
          have hg := heap_alloc_new w4 (.cells #[.slice go G.length gc, .slice ho H.length hc] 26)
          rw [← hwA] at hg
          have hl : w4.heap.size < wA.heap.size := (Array.getElem?_eq_some_iff.1 hg).1
          rw [← b.block _ hl] at hg
          exact ⟨by rw [cell_of_row _ _ _ _ _ _ hg]; rfl, by rw [cell_of_row _ _ _ _ _ _ hg]; rfl⟩
        clear hwA c0 c1 c2
        go_loopw [36] (fun i wr => ∃ k : Nat, k ≤ 2 ∧ i = .int .i64 (k : Int) ∧ Hid (Below wA.heap.size wA wr) ∧ Hid (1 ≤ k → 2 ≤ G.length ∧ at' G (G.length - 1) = 1) ∧ Hid (2 ≤ k → 2 ≤ H.length ∧ at' H (H.length - 1) = 1)) (fun i _ => 2 - (intOf i).toNat)
        case atStart => exact ⟨0, by omega, rfl, Below.refl _ _, fun h => by omega, fun h => by omega⟩
        case round =>
          obtain ⟨k, hk, rfl, hb, h1, h2⟩ := hrel
          obtain ⟨a0, a1⟩ := AR.out _ hb.out
          have hBr : Hid (Below w1.heap.size w1 wr) := BA.out.trans (hb.out.mono BA.out.size)
          have hZ : Hid (wA.heap.size ≤ wr.heap.size) := hb.out.size
          rcases (show k = 0 ∨ k = 1 ∨ k = 2 by omega) with rfl | rfl | rfl
          · obtain ⟨wB, hwB⟩ : ∃ x, x = wr.alloc (.cells #[.slice go G.length gc] 26) := ⟨_, rfl⟩
            have LB : Hid (Ls wB (.slice go G.length gc) G) := by rw [hwB]; exact (CF.out _ hBr.out).2.2.2.2.1.below (new1 _ _)
            have BB : Hid (Below wA.heap.size wA wB) := by rw [hwB]; exact hb.out.alloc hZ.out _
            have XB : Hid (Bx wB wr.heap.size (.slice go G.length gc)) := by rw [hwB]; exact Bx.new _ _ _
            have cB := XB.out.cell
            have NB := fun h => NO.out wB h (BA.out.trans (BB.out.mono BA.out.size))
            have HN : Hid (chk P G H p = false → (Ending.returned (.bool false) = .returned (.bool (chk P G H p)) ∧ Below w.heap.size w wB)) := NB
            clear NB
            go_wp2_with fail
            rw [← hwB]
            clear hwB
            refine (deg_any LB.out).mono ?_
            rintro e w0 ⟨rfl, hw0⟩
            rw [hw0]
            clear hw0
            by_cases hlen : G.length < 2
            · have HA := HN.out (chk_no fun h => by obtain ⟨_, _, _, _, hG2, hH2, _, hGl, hHl, _⟩ := h; omega)
              have q : (G.length : Int) - 1 < 1 := by omega
              clear HN
              go_wp2_with fail
              go_ret
              exact HA
            · have q : ¬ (G.length : Int) - 1 < 1 := by omega
              have hz := last_any (z := at' G (G.length - 1)) LB.out (at_some G _ (by omega))
              obtain ⟨x, hx⟩ : ∃ x, x = at' G (G.length - 1) := ⟨_, rfl⟩
              rw [← hx] at hz
              have HX : Hid (x = at' G (G.length - 1)) := hx
              have HLN : Hid (2 ≤ G.length) := by show 2 ≤ _; omega
              clear hx
              go_wp2_with fail
              refine hz.mono ?_
              rintro e w0 ⟨rfl, hw0⟩
              rw [hw0]
              clear hw0 hz
              by_cases hl : x = 1
              · have HXL : Hid (at' G (G.length - 1) = 1) := by show _ = _; rw [← HX.out]; exact hl
                subst hl
                clear HN
                go_wp2_with fail
                refine ⟨⟨1, by omega, by go_num, BB, fun _ => ⟨HLN.out, HXL.out⟩, fun h => by omega⟩, ?_⟩
                simp [intOf]
              · have hl' : (x == 1) = false := by rw [beq_eq_false_iff_ne]; exact hl
                have hl2 : (x != 1) = true := by rw [bne, hl']; rfl
                have HA := HN.out (chk_no fun h => by obtain ⟨_, _, _, _, hG2, hH2, _, hGl, hHl, _⟩ := h; exact hl (by rw [HX.out]; assumption))
                clear HN
                go_wp2_with fail
                go_ret
                exact HA
          · obtain ⟨wB, hwB⟩ : ∃ x, x = wr.alloc (.cells #[.slice ho H.length hc] 26) := ⟨_, rfl⟩
            have LB : Hid (Ls wB (.slice ho H.length hc) H) := by rw [hwB]; exact (CF.out _ hBr.out).2.2.2.2.2.below (new1 _ _)
            have BB : Hid (Below wA.heap.size wA wB) := by rw [hwB]; exact hb.out.alloc hZ.out _
            have XB : Hid (Bx wB wr.heap.size (.slice ho H.length hc)) := by rw [hwB]; exact Bx.new _ _ _
            have cB := XB.out.cell
            have NB := fun h => NO.out wB h (BA.out.trans (BB.out.mono BA.out.size))
            have HN : Hid (chk P G H p = false → (Ending.returned (.bool false) = .returned (.bool (chk P G H p)) ∧ Below w.heap.size w wB)) := NB
            clear NB
            go_wp2_with fail
            rw [← hwB]
            clear hwB
            refine (deg_any LB.out).mono ?_
            rintro e w0 ⟨rfl, hw0⟩
            rw [hw0]
            clear hw0
            by_cases hlen : H.length < 2
            · have HA := HN.out (chk_no fun h => by obtain ⟨_, _, _, _, hG2, hH2, _, hGl, hHl, _⟩ := h; omega)
              have q : (H.length : Int) - 1 < 1 := by omega
              clear HN
              go_wp2_with fail
              go_ret
              exact HA
            · have q : ¬ (H.length : Int) - 1 < 1 := by omega
              have hz := last_any (z := at' H (H.length - 1)) LB.out (at_some H _ (by omega))
              obtain ⟨x, hx⟩ : ∃ x, x = at' H (H.length - 1) := ⟨_, rfl⟩
              rw [← hx] at hz
              have HX : Hid (x = at' H (H.length - 1)) := hx
              have HLN : Hid (2 ≤ H.length) := by show 2 ≤ _; omega
              clear hx
              go_wp2_with fail
              refine hz.mono ?_
              rintro e w0 ⟨rfl, hw0⟩
              rw [hw0]
              clear hw0 hz
              by_cases hl : x = 1
              · have HXL : Hid (at' H (H.length - 1) = 1) := by show _ = _; rw [← HX.out]; exact hl
                subst hl
                clear HN
                go_wp2_with fail
                refine ⟨⟨2, by omega, by go_num, BB, fun _ => h1.out (by omega), fun _ => ⟨HLN.out, HXL.out⟩⟩, ?_⟩
                simp [intOf]
              · have hl' : (x == 1) = false := by rw [beq_eq_false_iff_ne]; exact hl
                have hl2 : (x != 1) = true := by rw [bne, hl']; rfl
                have HA := HN.out (chk_no fun h => by obtain ⟨_, _, _, _, hG2, hH2, _, hGl, hHl, _⟩ := h; exact hl (by rw [HX.out]; assumption))
                clear HN
                go_wp2_with fail
                go_ret
                exact HA
          · have HG2 := h1.out (by omega)
            have HH2 := h2.out (by omega)
            have HE : Hid (chk P G H p = (decide (at' P (P.length - 1) = 1) && (decide (fMulOver.R G H p = fOverPrime.R P p) && decide ((fCommonOver.R G H p).length = 1)))) := prog_eq HG.out HH.out HD.out.1 HD.out.2.2 HG2.1 HH2.1 HG2.2 HH2.2
            obtain ⟨c0, c1, c2, l0, l1, l2⟩ := CF.out _ hBr.out
            have K0 := l0
            clear l0 l1 l2 HG2 HH2 NO
            go_wp2_with fail
            refine (fOverPrime.impl_any ⟨_, rfl, K0⟩ p HP0.out).mono ?_
            rintro e w5 ⟨_, rfl, ⟨vo, rfl, oo⟩, b⟩
            obtain ⟨oa, oc, rfl⟩ := oo.shape
            obtain ⟨w6, hw6⟩ : ∃ x, x = w5.alloc (.cells #[.slice oa (fOverPrime.R P p).length oc] 26) := ⟨_, rfl⟩
            have XO : Hid (Bx w6 w5.heap.size (.slice oa (fOverPrime.R P p).length oc)) := by rw [hw6]; exact Bx.new _ _ _
            have LO : Hid (Ls w6 (.slice oa (fOverPrime.R P p).length oc) (fOverPrime.R P p)) := by rw [hw6]; exact (oo.ls (Nat.le_refl _)).below (new1 _ _)
            have B5 : Hid (Below w1.heap.size w1 w5) := hBr.out.trans (b.mono hBr.out.size)
            have B6 : Hid (Below w1.heap.size w1 w6) := by rw [hw6]; exact B5.out.alloc B5.out.size _
            clear oo b K0 c0 c1 c2
            obtain ⟨c0, c1, c2, l0, l1, l2⟩ := CF.out _ B6.out
            have K1 := l1
            have K2 := l2
            clear l0 l1 l2
            have dc1 : (w5.alloc (.cells #[.slice oa (fOverPrime.R P p).length oc] 26)).cell? ⟨w.heap.size + 1, 0, none⟩ = some (.slice go G.length gc) := by rw [← hw6]; exact c1
            have dc2 : (w5.alloc (.cells #[.slice oa (fOverPrime.R P p).length oc] 26)).cell? ⟨w.heap.size + 1 + 1, 0, none⟩ = some (.slice ho H.length hc) := by rw [← hw6]; exact c2
            go_wp2_with fail
            clear dc1 dc2
            rw [← hw6]
            clear hw6
            refine (fMulOver.impl_any ⟨_, rfl, K1⟩ ⟨_, rfl, K2⟩ p HP0.out).mono ?_
            rintro e w7 ⟨_, rfl, ⟨vm, rfl, om'⟩, b⟩
            obtain ⟨ma, mc, rfl⟩ := om'.shape
            obtain ⟨w8, hw8⟩ : ∃ x, x = w7.alloc (.cells #[.slice ma (fMulOver.R G H p).length mc] 26) := ⟨_, rfl⟩
            have XM : Hid (Bx w8 w7.heap.size (.slice ma (fMulOver.R G H p).length mc)) := by rw [hw8]; exact Bx.new _ _ _
            have LM : Hid (Ls w8 (.slice ma (fMulOver.R G H p).length mc) (fMulOver.R G H p)) := by rw [hw8]; exact (om'.ls (Nat.le_refl _)).below (new1 _ _)
            have b68 : Hid (Below w6.heap.size w6 w8) := by rw [hw8]; exact b.alloc b.size _
            have B8 : Hid (Below w1.heap.size w1 w8) := B6.out.trans (b68.out.mono B6.out.size)
            replace XO : Hid (Bx w8 w5.heap.size (.slice oa (fOverPrime.R P p).length oc)) := XO.out.kept b68.out
            replace LO : Hid (Ls w8 (.slice oa (fOverPrime.R P p).length oc) (fOverPrime.R P p)) := LO.out.below b68.out
            clear om' b K1 K2 c0 c1 c2
            obtain ⟨c0, c1, c2, l0, l1, l2⟩ := CF.out _ B8.out
            have K1 := l1
            have K2 := l2
            clear l0 l1 l2
            have dc1 : (w7.alloc (.cells #[.slice ma (fMulOver.R G H p).length mc] 26)).cell? ⟨w.heap.size + 1, 0, none⟩ = some (.slice go G.length gc) := by rw [← hw8]; exact c1
            have dc2 : (w7.alloc (.cells #[.slice ma (fMulOver.R G H p).length mc] 26)).cell? ⟨w.heap.size + 1 + 1, 0, none⟩ = some (.slice ho H.length hc) := by rw [← hw8]; exact c2
            go_wp2_with fail
            clear dc1 dc2
            rw [← hw8]
            clear hw8
            refine (fCommonOver.impl_any ⟨_, rfl, K1⟩ ⟨_, rfl, K2⟩ p HP0.out).mono ?_
            rintro e w9 ⟨_, rfl, ⟨vc, rfl, oc'⟩, b⟩
            obtain ⟨ca, cc, rfl⟩ := oc'.shape
            obtain ⟨wa, hwa⟩ : ∃ x, x = w9.alloc (.cells #[.slice ca (fCommonOver.R G H p).length cc] 26) := ⟨_, rfl⟩
            have XC : Hid (Bx wa w9.heap.size (.slice ca (fCommonOver.R G H p).length cc)) := by rw [hwa]; exact Bx.new _ _ _
            have LC : Hid (Ls wa (.slice ca (fCommonOver.R G H p).length cc) (fCommonOver.R G H p)) := by rw [hwa]; exact (oc'.ls (Nat.le_refl _)).below (new1 _ _)
            have b8a : Hid (Below w8.heap.size w8 wa) := by rw [hwa]; exact b.alloc b.size _
            have Ba : Hid (Below w1.heap.size w1 wa) := B8.out.trans (b8a.out.mono B8.out.size)
            replace XO : Hid (Bx wa w5.heap.size (.slice oa (fOverPrime.R P p).length oc)) := XO.out.kept b8a.out
            replace LO : Hid (Ls wa (.slice oa (fOverPrime.R P p).length oc) (fOverPrime.R P p)) := LO.out.below b8a.out
            replace XM : Hid (Bx wa w7.heap.size (.slice ma (fMulOver.R G H p).length mc)) := XM.out.kept b8a.out
            replace LM : Hid (Ls wa (.slice ma (fMulOver.R G H p).length mc) (fMulOver.R G H p)) := LM.out.below b8a.out
            clear oc' b K1 K2 c0 c1 c2
            obtain ⟨c0, c1, c2, l0, l1, l2⟩ := CF.out _ Ba.out
            have K0 := l0
            clear l0 l1 l2
            have cO := XO.out.cell
            have cM := XM.out.cell
            have cC := XC.out.cell
            have hz := last_any (z := at' P (P.length - 1)) K0 (at_some P _ (by have := HD.out; omega))
            obtain ⟨x, hx⟩ : ∃ x, x = at' P (P.length - 1) := ⟨_, rfl⟩
            rw [← hx] at hz HE
            clear hx K0
            have hsm := fSameWhole.impl_any (w := wa) ⟨_, rfl, LM.out⟩ ⟨_, rfl, LO.out⟩
            have hsk : fSameWhole.ok (fMulOver.R G H p) (fOverPrime.R P p) = decide (fMulOver.R G H p = fOverPrime.R P p) := rfl
            rw [hsk] at hsm
            clear hsk
            obtain ⟨sm', hsm'⟩ : ∃ x, x = decide (fMulOver.R G H p = fOverPrime.R P p) := ⟨_, rfl⟩
            rw [← hsm'] at hsm HE
            clear hsm'
            have HF : Hid (Below w.heap.size w wa) := B1.out.trans (Ba.out.mono B1.out.size)
            have dc0 : (w9.alloc (.cells #[.slice ca (fCommonOver.R G H p).length cc] 26)).cell? ⟨w.heap.size, 0, none⟩ = some (.slice po P.length pc) := by rw [← hwa]; exact c0
            go_wp2_with fail
            clear dc0
            rw [← hwa]
            clear hwa
            refine hz.mono ?_
            rintro e w0 ⟨rfl, hw0⟩
            rw [hw0]
            clear hw0 hz
            by_cases hl : x = 1
            · subst hl
              have HE1 : Hid (chk P G H p = (sm' && decide ((fCommonOver.R G H p).length = 1))) := by show _ = _; rw [HE.out]; simp
              clear HE
              go_wp2_with fail
              refine hsm.mono ?_
              rintro e wb ⟨rfl, bb⟩
              have cCb := (XC.out.kept bb).cell
              have hdg := deg_any (LC.out.below bb)
              have HFb : Hid (Below w.heap.size w wb) := HF.out.trans (bb.mono HF.out.size)
              clear cO cM cC c0 c1 c2 bb hsm
              cases sm' with
              | false =>
                have HA : Hid (Ending.returned (.bool false) = .returned (.bool (chk P G H p)) ∧ Below w.heap.size w wb) := ⟨by rw [HE1.out]; rfl, HFb.out⟩
                clear hdg cCb
                go_wp2_with fail
                go_ret
                exact HA.out
              | true =>
                obtain ⟨m, hm⟩ : ∃ m, m = (fCommonOver.R G H p).length := ⟨_, rfl⟩
                rw [← hm] at hdg HE1 cCb
                clear hm
                have HA : Hid (∀ b : Bool, b = decide (m = 1) → (Ending.returned (.bool b) = .returned (.bool (chk P G H p)) ∧ Below w.heap.size w wb)) := fun b h => ⟨by rw [HE1.out, h]; rfl, HFb.out⟩
                by_cases h1 : m = 1
                · subst h1
                  go_wp2_with fail
                  refine hdg.mono ?_
                  rintro e w0 ⟨rfl, hw0⟩
                  rw [hw0]
                  clear hw0 hdg
                  go_wp2_with fail
                  go_ret
                  exact HA.out _ rfl
                · have q : (((m : Int) - 1) == 0) = false := by rw [beq_eq_false_iff_ne]; omega
                  go_wp2_with fail
                  refine hdg.mono ?_
                  rintro e w0 ⟨rfl, hw0⟩
                  rw [hw0]
                  clear hw0 hdg
                  go_wp2_with fail
                  go_ret
                  exact HA.out _ (decide_eq_false h1).symm
            · have hl' : (x == 1) = false := by rw [beq_eq_false_iff_ne]; exact hl
              have HA : Hid (Ending.returned (.bool false) = .returned (.bool (chk P G H p)) ∧ Below w.heap.size w wa) := ⟨by rw [HE.out, decide_eq_false hl]; rfl, HF.out⟩
              clear hsm
              go_wp2_with fail
              go_ret
              exact HA.out
      · have hd' : (val P && decide ((2 : Int) ≤ (P.length : Int) - 1 ∧ (P.length : Int) - 1 ≤ 8)) = false := by
          rw [Bool.and_eq_false_iff]
          by_cases hv : val P = true
          · exact .inr (decide_eq_false fun h => hd ⟨hv, by omega, by omega⟩)
          · exact .inl (Bool.eq_false_iff.2 hv)
        rw [hd']
        have hck : chk P G H p = false := by
          by_cases h3 : P.length < 3
          · exact chk_short h3
          · exact chk_no fun h => hd ⟨h.2.2.1, by omega, h.2.2.2.1⟩
        have HA := NO.out _ hck BC.out
        clear hd hd' hck
        go_wp2_with fail
        go_ret
        exact HA
end Go.Proofs.Ytfhcfeafohcjpaa.fLiftPair
