/- Greatest common wholes: the program's loops. -/
import Derived.Test.YtbbdhbamooaloaaCwI
import Derived.Deep.LoopGhost
namespace Go.Proofs.Ytbbdhbamooaloaa.wh
open Go.RowKit Go.Pl

theorem zd_eq' {L : List Int} (h : Val L) : decide (at' L (L.length - 1) = 0) = decide (L = [0]) := by
  by_cases h0 : L = [0]
  · rw [decide_eq_true h0, h0]; rfl
  · rw [decide_eq_false h0, decide_eq_false (clean_last h.2.2.2 h0 h.pos)]

set_option maxRecDepth 100000 in
set_option maxHeartbeats 3200000 in
theorem iprs_any {va vb : Value} {A B : List Int} {w : World} (ha : Ls w va A) (hb : Ls w vb B) (hA : Val A) (hB : Val B) :
    Calls Try.prog 82 #[va, vb] w fun e w' => (match prs B (mv A) A with | none => e = .returned (.tuple #[.slice none 0 0, .bool false]) | some R => ∃ v, e = .returned (.tuple #[v, .bool true]) ∧ Own w' w.heap.size w'.heap.size v (prim R)) ∧ Below w.heap.size w w' := by
  obtain ⟨RES, hRES⟩ : ∃ r, r = prs B (mv A) A := ⟨_, rfl⟩
  rw [← hRES]
  suffices H : ∀ P : Ending → World → Prop, (∀ w', RES = none → Below w.heap.size w w' → P (.returned (.tuple #[.slice none 0 0, .bool false])) w') →
      (∀ R v w', RES = some R → Own w' w.heap.size w'.heap.size v (prim R) → Below w.heap.size w w' → P (.returned (.tuple #[v, .bool true])) w') →
      Calls Try.prog 82 #[va, vb] w P by
    refine H _ (fun w' h hb => ⟨by rw [h], hb⟩) (fun R v w' h ho hb => ⟨?_, hb⟩)
    rw [h]
    exact ⟨v, rfl, ho⟩
  intro P hpn hps
  have HPN : Hid (∀ w', RES = none → Below w.heap.size w w' → P (.returned (.tuple #[.slice none 0 0, .bool false])) w') := hpn
  have HPS : Hid (∀ R v w', RES = some R → Own w' w.heap.size w'.heap.size v (prim R) → Below w.heap.size w w' → P (.returned (.tuple #[v, .bool true])) w') := hps
  have HLA : Hid (Ls w va A) := ha
  have HLB : Hid (Ls w vb B) := hb
  have HVA : Hid (Val A) := hA
  have HVB : Hid (Val B) := hB
  have HR0 : Hid (prs B (mv A) A = RES) := hRES.symm
  obtain ⟨ao, cap, rfl⟩ := ha.shape
  obtain ⟨bo, cap1, rfl⟩ := hb.shape
  clear hRES hpn hps ha hb hA hB
  go_enter Try.func82, Try.ntmps82
  go_wp2_with fail
  go_loopg [6] (mv A) (fun k x wr => ∃ (X : List Int) (xo : Option Addr) (xc : Nat), x = .slice xo X.length xc ∧ mv X ≤ k ∧ Hid (prs B k X = RES) ∧ Hid (Val X) ∧ Hid (Ls wr (.slice xo X.length xc) X) ∧ Hid (Below w.heap.size w wr))
  case atStart => exact ⟨A, ao, cap, rfl, Nat.le_refl _, HR0, HVA, HLA, Below.refl _ _⟩
  case round =>
    obtain ⟨X, xo, xc, rfl, hk, hrs, hv, hx, hb⟩ := hrel
    by_cases hc : B.length ≤ X.length
    · have HNE : Hid (X ≠ []) := hv.out.ne
      by_cases h0 : X = [0]
      · have HZ : Hid (decide (at' X (X.length - 1) = 0) = true) := by show _ = true; rw [zd_eq' hv.out]; exact decide_eq_true h0
        have HRR : Hid (RES = some X) := by
          show _ = _
          rw [← hrs.out]
          exact prs_end (fun h => h.2 h0)
        clear h0 hrs
        go_wp2_with fail
        refine (izero_any hx.out HNE.out).mono ?_
        rintro e w1 ⟨rfl, hw1⟩
        rw [hw1, HZ.out]
        clear hw1
        go_wp2_with fail
        refine (iprim_any hx.out hv.out).mono ?_
        rintro e w2 ⟨v2, rfl, o, b⟩
        obtain ⟨ra, rc, rfl⟩ := o.shape
        have O2 : Hid (Own w2 w.heap.size w2.heap.size (.slice ra (prim X).length rc) (prim X)) := o.wide hb.out.size (Nat.le_refl _)
        have B2 : Hid (Below w.heap.size w w2) := hb.out.trans (b.mono hb.out.size)
        clear o b
        generalize hle : (prim X).length = le at *
        clear hle
        go_wp2_with fail
        exact HPS.out _ _ _ HRR.out O2.out B2.out
      · have HZ : Hid (decide (at' X (X.length - 1) = 0) = false) := by show _ = false; rw [zd_eq' hv.out]; exact decide_eq_false h0
        have hmx := mv_pos h0
        have hvp := hv.out.pos
        obtain ⟨j, rfl⟩ : ∃ j, gk = j + 1 := ⟨gk - 1, by omega⟩
        have hwl := wl_len hvp HVB.out.pos hc
        have HC : Hid (B.length ≤ X.length ∧ X ≠ [0]) := ⟨hc, h0⟩
        have HM : Hid (mv (wl X B) ≤ j) := by show _ ≤ _; omega
        clear h0 hmx hwl hvp
        go_wp2_with fail
        refine (izero_any hx.out HNE.out).mono ?_
        rintro e w1 ⟨rfl, hw1⟩
        rw [hw1, HZ.out]
        clear hw1
        go_wp2_with fail
        refine (iwl_any hx.out (HLB.out.below hb.out) hv.out HVB.out HC.out.1).mono ?_
        rintro e w2 ⟨v2, rfl, o, b⟩
        obtain ⟨ra, rc, rfl⟩ := o.shape
        have O2 : Hid (Ls w2 (.slice ra (wl X B).length rc) (wl X B)) := o.ls (Nat.le_refl _)
        have B2 : Hid (Below w.heap.size w w2) := hb.out.trans (b.mono hb.out.size)
        have HVW : Hid (wok (wl X B) = true → Val (wl X B)) := fun h => wl_val hv.out HVB.out HC.out.1 h
        have HRN : Hid (wok (wl X B) = false → RES = none) := fun h => by rw [← hrs.out]; exact prs_no HC.out h
        have HRG : Hid (wok (wl X B) = true → prs B j (wl X B) = RES) := fun h => by rw [← hrs.out]; exact (prs_go HC.out h).symm
        have HWK : Hid (decide (inR (-1000000) 1000000 (wl X B)) = wok (wl X B)) := rfl
        clear o b hrs hv hx HC hc
        generalize wl X B = Y at *
        go_wp2_with fail
        refine (are_any O2.out _ _).mono ?_
        rintro e w3 ⟨rfl, hw3⟩
        rw [hw3, HWK.out]
        clear hw3
        cases hwk : wok Y with
        | false =>
          have HNN : Hid (RES = none) := HRN.out hwk
          clear hwk
          go_wp2_with fail
          exact HPN.out _ HNN.out B2.out
        | true =>
          have HVV : Hid (Val Y) := HVW.out hwk
          have HGG : Hid (prs B j Y = RES) := HRG.out hwk
          clear hwk
          go_wp2_with fail
          go_roundg j
          case rel => exact ⟨Y, ra, rc, rfl, HM.out, HGG, HVV, O2, B2⟩
          case measure => omega
    · have hc' : X.length < B.length := by omega
      have HRR : Hid (RES = some X) := by
        show _ = _
        rw [← hrs.out]
        exact prs_end (fun h => hc h.1)
      clear hc hrs
      go_wp2_with fail
      refine (iprim_any hx.out hv.out).mono ?_
      rintro e w2 ⟨v2, rfl, o, b⟩
      obtain ⟨ra, rc, rfl⟩ := o.shape
      have O2 : Hid (Own w2 w.heap.size w2.heap.size (.slice ra (prim X).length rc) (prim X)) := o.wide hb.out.size (Nat.le_refl _)
      have B2 : Hid (Below w.heap.size w w2) := hb.out.trans (b.mono hb.out.size)
      clear o b
      generalize hle : (prim X).length = le at *
      clear hle
      go_wp2_with fail
      exact HPS.out _ _ _ HRR.out O2.out B2.out

set_option maxRecDepth 100000 in
set_option maxHeartbeats 3200000 in
theorem igcw_any {va vb : Value} {A B : List Int} {w : World} (ha : Ls w va A) (hb : Ls w vb B) (hA : Val A) (hB : Val B) :
    Calls Try.prog 81 #[va, vb, .func (.func 65) #[] #[], .func (.func 82) #[] #[]] w
      fun e w' => (∃ ao n cap, match cgw (mv B) A B with | none => e = .returned (.tuple #[.slice ao n cap, .bool false]) | some C => e = .returned (.tuple #[.slice ao C.length cap, .bool true]) ∧ Ls w' (.slice ao C.length cap) C) ∧ Below w.heap.size w w' := by
  obtain ⟨RES, hRES⟩ : ∃ r, r = cgw (mv B) A B := ⟨_, rfl⟩
  rw [← hRES]
  suffices H : ∀ P : Ending → World → Prop, (∀ ao n cap w', RES = none → Below w.heap.size w w' → P (.returned (.tuple #[.slice ao n cap, .bool false])) w') →
      (∀ C ao cap w', RES = some C → Ls w' (.slice ao C.length cap) C → Below w.heap.size w w' → P (.returned (.tuple #[.slice ao C.length cap, .bool true])) w') →
      Calls Try.prog 81 #[va, vb, .func (.func 65) #[] #[], .func (.func 82) #[] #[]] w P by
    refine H _ (fun ao n cap w' h hb => ⟨⟨ao, n, cap, by rw [h]⟩, hb⟩) (fun C ao cap w' h ho hb => ⟨⟨ao, 0, cap, ?_⟩, hb⟩)
    rw [h]
    exact ⟨rfl, ho⟩
  intro P hpn hps
  have HPN : Hid (∀ ao n cap w', RES = none → Below w.heap.size w w' → P (.returned (.tuple #[.slice ao n cap, .bool false])) w') := hpn
  have HPS : Hid (∀ C ao cap w', RES = some C → Ls w' (.slice ao C.length cap) C → Below w.heap.size w w' → P (.returned (.tuple #[.slice ao C.length cap, .bool true])) w') := hps
  have HLA : Hid (Ls w va A) := ha
  have HLB : Hid (Ls w vb B) := hb
  have HVV : Hid (Val A ∧ Val B) := ⟨hA, hB⟩
  have HR0 : Hid (cgw (mv B) A B = RES) := hRES.symm
  obtain ⟨ao, cap, rfl⟩ := ha.shape
  obtain ⟨bo, cap1, rfl⟩ := hb.shape
  clear hRES hpn hps ha hb hA hB
  go_enter Try.func81, Try.ntmps81
  go_wp2_with fail
  go_loopg [0, 1] (mv B) (fun k x y wr => ∃ (X Y : List Int) (xo yo : Option Addr) (xc yc : Nat), x = .slice xo X.length xc ∧ y = .slice yo Y.length yc ∧ mv Y ≤ k ∧ Hid (cgw k X Y = RES) ∧ Hid (Val X ∧ Val Y) ∧ Hid (Ls wr (.slice xo X.length xc) X) ∧ Hid (Ls wr (.slice yo Y.length yc) Y) ∧ Hid (Below w.heap.size w wr))
  case atStart => exact ⟨A, B, ao, bo, cap, cap1, rfl, rfl, Nat.le_refl _, HR0, HVV, HLA, HLB, Below.refl _ _⟩
  case round =>
    obtain ⟨X, Y, xo, yo, xc, yc, rfl, rfl, hk, hcg, hgd, hx, hy, hb⟩ := hrel
    have HNE : Hid (Y ≠ []) := hgd.out.2.ne
    by_cases hY : Y = [0]
    · have HZ : Hid (decide (at' Y (Y.length - 1) = 0) = true) := by show _ = true; rw [hY]; rfl
      have HR : Hid (RES = some X) := by
        have := hcg.out
        rw [hY, cgw_stop] at this
        exact this.symm
      clear hY hcg
      go_wp2_with fail
      refine (izero_any hy.out HNE.out).mono ?_
      rintro e w1 ⟨rfl, hw1⟩
      rw [hw1, HZ.out]
      clear hw1
      go_wp2_with fail
      exact HPS.out _ _ _ _ HR.out hx.out hb.out
    · have HZ : Hid (decide (at' Y (Y.length - 1) = 0) = false) := by show _ = false; rw [zd_eq' hgd.out.2]; exact decide_eq_false hY
      have hmy := mv_pos hY
      have hyp := hgd.out.2.pos
      obtain ⟨j, rfl⟩ : ∃ j, gk = j + 1 := ⟨gk - 1, by omega⟩
      have HYN : Hid (Y ≠ [0]) := hY
      have HRN : Hid (prs Y (mv X) X = none → RES = none) := fun h => by rw [← hcg.out]; exact cgw_no HYN.out h
      have HRG : Hid (∀ R, prs Y (mv X) X = some R → cgw j Y (prim R) = RES) := fun R h => by rw [← hcg.out]; exact (cgw_go HYN.out h).symm
      have HVR : Hid (∀ R, prs Y (mv X) X = some R → (Val Y ∧ Val (prim R)) ∧ mv (prim R) ≤ j) := fun R h => by
        have h1 := prs_val hgd.out.2 _ _ _ hgd.out.1 (Nat.le_refl _) h
        have h2 := mv_prim hY h1.2 hyp
        exact ⟨⟨hgd.out.2, prim_val h1.1⟩, by omega⟩
      clear hY hcg hmy hyp
      go_wp2_with fail
      refine (izero_any hy.out HNE.out).mono ?_
      rintro e w1 ⟨rfl, hw1⟩
      rw [hw1, HZ.out]
      clear hw1
      go_wp2_with fail
      refine (iprs_any hx.out hy.out hgd.out.1 hgd.out.2).mono ?_
      rintro e w2 ⟨hres, b⟩
      have B2 : Hid (Below w.heap.size w w2) := hb.out.trans (b.mono hb.out.size)
      have HYL : Hid (Ls w2 (.slice yo Y.length yc) Y) := hy.out.below b
      clear b hx hy hb hgd
      cases hp : prs Y (mv X) X with
      | none =>
        rw [hp] at hres
        subst hres
        have HNN : Hid (RES = none) := HRN.out hp
        clear hp HRN HRG HVR
        go_wp2_with fail
        exact HPN.out _ _ _ _ HNN.out B2.out
      | some R =>
        rw [hp] at hres
        obtain ⟨v2, rfl, o⟩ := hres
        obtain ⟨ra, rc, rfl⟩ := o.shape
        have HO : Hid (Ls w2 (.slice ra (prim R).length rc) (prim R)) := o.ls (Nat.le_refl _)
        have HGG : Hid (cgw j Y (prim R) = RES) := HRG.out R hp
        have HVG : Hid ((Val Y ∧ Val (prim R)) ∧ mv (prim R) ≤ j) := HVR.out R hp
        clear hp HRN HRG HVR o
        generalize prim R = Z at *
        go_wp2_with fail
        go_roundg j
        case rel => exact ⟨Y, Z, yo, ra, yc, rc, rfl, rfl, HVG.out.2, HGG, HVG.out.1, HYL, HO, B2⟩
        case measure => omega
end Go.Proofs.Ytbbdhbamooaloaa.wh
