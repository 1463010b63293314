/- Greatest common wholes: the model's, whole. -/
import Derived.Test.YtbbdhbamooaloaaCwS
namespace Go.Pl
theorem cgw_turn {X Y : List Int} (hX : X = [0]) (hY : Y.length ≤ 1) (hY1 : 1 ≤ Y.length) : cgw (mv X) Y X = cgw (mv Y) X Y := by
  subst hX
  by_cases h : Y = [0]
  · rw [h]
  · rw [cgw_stop, cgw_swap (by omega) h]
theorem mul_comm_map (X : List Int) (g : Int) {k : Nat} {z : Int} (h : X[k]? = some z) : (X.map (· * g))[k]? = some (g * z) := by
  rw [List.getElem?_map, h]
  simp [Int.mul_comm]
end Go.Pl
namespace Go.Proofs.Ytbbdhbamooaloaa.wh
open Go.RowKit Go.Pl

set_option maxRecDepth 100000 in
set_option maxHeartbeats 12800000 in
theorem sgre_any {va vb : Value} {A B : List Int} {w : World} (ha : Ls w va A) (hb : Ls w vb B) (hA : Val A) (hB : Val B) :
    Calls Try.prog 77 #[va, vb] w fun e w' => (match CW A B with | none => e = .returned (.tuple #[.slice none 0 0, .bool false]) | some R => ∃ v, e = .returned (.tuple #[v, .bool true]) ∧ Own w' w.heap.size w'.heap.size v R) ∧ Below w.heap.size w w' := by
  obtain ⟨RES, hRES⟩ : ∃ r, r = CW A B := ⟨_, rfl⟩
  rw [← hRES]
  suffices H : ∀ P : Ending → World → Prop, (∀ w', RES = none → Below w.heap.size w w' → P (.returned (.tuple #[.slice none 0 0, .bool false])) w') →
      (∀ R v w', RES = some R → Own w' w.heap.size w'.heap.size v R → Below w.heap.size w w' → P (.returned (.tuple #[v, .bool true])) w') →
      Calls Try.prog 77 #[va, vb] w P by
    refine H _ (fun w' h hb => ⟨by rw [h], hb⟩) (fun R v w' h ho hb => ⟨?_, hb⟩)
    rw [h]
    exact ⟨v, rfl, ho⟩
  intro P hpn hps
  have HPN : Hid (∀ w', RES = none → Below w.heap.size w w' → P (.returned (.tuple #[.slice none 0 0, .bool false])) w') := hpn
  have HPS : Hid (∀ R v w', RES = some R → Own w' w.heap.size w'.heap.size v R → Below w.heap.size w w' → P (.returned (.tuple #[v, .bool true])) w') := hps
  have II := info_i
  have HLA : Hid (Ls w va A) := ha
  have HLB : Hid (Ls w vb B) := hb
  have HVA : Hid (Val A) := hA
  have HVB : Hid (Val B) := hB
  have hcA := cont_bd6 hA
  have hcB := cont_bd6 hB
  have hgb := gcd_bd hA hB
  obtain ⟨G, hG⟩ : ∃ G, G = ((Int.gcd (content A) (content B) : Nat) : Int) := ⟨_, rfl⟩
  have HG : Hid (G = ((Int.gcd (content A) (content B) : Nat) : Int)) := hG
  obtain ⟨R0, hR0⟩ : ∃ r, r = cgw (mv (prim (shr A B))) (prim (lgr A B)) (prim (shr A B)) := ⟨_, rfl⟩
  have HRN : Hid (R0 = none → RES = none) := fun h => by rw [hRES]; unfold CW; rw [← hR0, h]; rfl
  have HRS : Hid (∀ C, R0 = some C → RES = some (C.map (· * G))) := fun C h => by rw [hRES]; unfold CW; rw [← hR0, h, hG]; rfl
  obtain ⟨PA, hPA⟩ : ∃ x, x = prim A := ⟨_, rfl⟩
  obtain ⟨PB, hPB⟩ : ∃ x, x = prim B := ⟨_, rfl⟩
  have HPA : Hid (PA = prim A) := hPA
  have HPB : Hid (PB = prim B) := hPB
  have HV : Hid (Val PA ∧ Val PB) := by rw [hPA, hPB]; exact ⟨prim_val hA, prim_val hB⟩
  have HL : Hid (PA.length = A.length ∧ PB.length = B.length) := by rw [hPA, hPB]; exact ⟨prim_len A, prim_len B⟩
  have HR1 : Hid (A.length < B.length → cgw (mv PA) PB PA = R0) := fun h => by rw [hR0, hPA, hPB]; unfold lgr shr; rw [if_pos h, if_pos h]
  have HR2 : Hid (¬ A.length < B.length → cgw (mv PB) PA PB = R0) := fun h => by rw [hR0, hPA, hPB]; unfold lgr shr; rw [if_neg h, if_neg h]
  rw [← hG] at hgb
  have hgb2 := hgb
  obtain ⟨ao, cap, rfl⟩ := ha.shape
  obtain ⟨bo, cap1, rfl⟩ := hb.shape
  have HCA : Hid (-1000000000000 ≤ content A ∧ content A ≤ 1000000000000) := by show _ ∧ _; omega
  have HCB : Hid (-1000000000000 ≤ content B ∧ content B ≤ 1000000000000) := by show _ ∧ _; omega
  clear hRES hpn hps ha hb hA hB hcA hcB hG hR0 hPA hPB hgb2
  have I2 : Hid (∀ {α : Prop}, (∀ i0, Try.prog.info? 2 = some i0 → i0.zero = some (.int .i64 0) → i0.size = 1 → i0.bytes = 8 → α) → α) := fun f => by obtain ⟨i0, hi, h1, h2, h3⟩ := info_parts II; exact f i0 hi h1 h2 h3
  clear II
  go_enter Try.func77, Try.ntmps77
  go_wp2_with fail
  refine (scont_any HLA.out HVA.out.2.2.1).mono ?_
  rintro e w1 ⟨rfl, hw1⟩
  rw [hw1]
  clear hw1
  go_wp2_with fail
  refine (scont_any HLB.out HVB.out.2.2.1).mono ?_
  rintro e w1 ⟨rfl, hw1⟩
  rw [hw1]
  clear hw1
  go_wp2_with fail
  refine (scom_any _ _ HCA.out HCB.out _).mono ?_
  rintro e w1 ⟨rfl, hw1⟩
  rw [hw1, ← HG.out]
  clear hw1
  go_wp2_with fail
  refine (sprim_any HLA.out HVA.out).mono ?_
  rintro e w1 ⟨v1, rfl, o1, b1⟩
  rw [← HPA.out] at o1
  obtain ⟨pao, pac, rfl⟩ := o1.shape
  have LA1 : Hid (Ls w1 (.slice pao PA.length pac) PA) := o1.ls (Nat.le_refl _)
  have B1 : Hid (Below w.heap.size w w1) := b1
  have HLB1 : Hid (Ls w1 (.slice bo B.length cap1) B) := HLB.out.below b1
  clear o1 b1
  go_wp2_with fail
  refine (sprim_any HLB1.out HVB.out).mono ?_
  rintro e w2 ⟨v2, rfl, o2, b2⟩
  rw [← HPB.out] at o2
  obtain ⟨pbo, pbc, rfl⟩ := o2.shape
  have LPB : Hid (Ls w2 (.slice pbo PB.length pbc) PB) := o2.ls (Nat.le_refl _)
  have LPA : Hid (Ls w2 (.slice pao PA.length pac) PA) := LA1.out.below b2
  have B2 : Hid (Below w.heap.size w w2) := B1.out.trans (b2.mono B1.out.size)
  clear o2 b2 LA1 B1 HLB1
  have HVP : Hid (1 ≤ PA.length ∧ PA.length ≤ 17 ∧ 1 ≤ PB.length ∧ PB.length ≤ 17) := ⟨HV.out.1.pos, HV.out.1.le, HV.out.2.pos, HV.out.2.le⟩
  obtain ⟨na, hna⟩ : ∃ n, n = PA.length := ⟨_, rfl⟩
  obtain ⟨nb, hnb⟩ : ∃ n, n = PB.length := ⟨_, rfl⟩
  have HNA : Hid (na = PA.length) := hna
  have HNB : Hid (nb = PB.length) := hnb
  rw [← hna] at LPA ⊢
  rw [← hnb] at LPB ⊢
  clear hna hnb
  by_cases hs : A.length < B.length
  · have hs2 : na < nb := by have h1 := HNA.out; have h2 := HNB.out; have h3 := HL.out; omega
    have HRX : Hid (cgw (mv PA) PB PA = R0) := HR1.out hs
    have hv17 := HVP.out
    have hlen : PA.length ≤ PB.length := by have h3 := HL.out; omega
    have HLEN : Hid (PA.length ≤ PB.length) := hlen
    clear hs hlen hv17
    by_cases h0 : PB = [0]
    · have HZ0 : Hid (decide (PB = [0]) = true) := decide_eq_true h0
      have HTN : Hid (cgw (mv PB) PA PB = R0) := by show _ = _; rw [← HRX.out]; exact cgw_turn h0 (by have h1 := HLEN.out; have h2 : PB.length = 1 := (by rw [h0]; rfl); omega) (by have := HVP.out; omega)
      clear h0
      go_wp2_with fail
      refine (szero_any LPB.out).mono ?_
      rintro e w1 ⟨rfl, hw1⟩
      rw [hw1, HZ0.out]
      clear hw1
      go_wp2_with fail
      have HST : Hid (cgw (mv PB) PA PB = R0) := HTN.out
      have HSV : Hid (Val PA ∧ Val PB) := ⟨HV.out.1, HV.out.2⟩
      have HSP : Hid (Ls w2 (.slice pao PA.length pac) PA) := by rw [← HNA.out]; exact LPA.out
      have HSQ : Hid (Ls w2 (.slice pbo PB.length pbc) PB) := by rw [← HNB.out]; exact LPB.out
      have e1 := HNA.out
      have e2 := HNB.out
      go_loopg [7, 8] (mv PB) (fun k x y wr => ∃ (X Y : List Int) (xo yo : Option Addr) (xc yc : Nat), x = .slice xo X.length xc ∧ y = .slice yo Y.length yc ∧ mv Y ≤ k ∧ Hid (cgw k X Y = R0) ∧ Hid (Val X ∧ Val Y) ∧ Hid (Ls wr (.slice xo X.length xc) X) ∧ Hid (Ls wr (.slice yo Y.length yc) Y) ∧ Hid (Below w.heap.size w wr))
      case atStart => exact ⟨PA, PB, pao, pbo, pac, pbc, by rw [← e1], by rw [← e2], Nat.le_refl _, HST, HSV, HSP, HSQ, B2⟩
      case round =>
        obtain ⟨X, Y, xo, yo, xc, yc, rfl, rfl, hk, hcg, hgd, hx, hy, hb⟩ := hrel
        clear e1 e2 LPA LPB HST HSV HSP HSQ B2
        by_cases hY : Y = [0]
        · have HZ : Hid (decide (Y = [0]) = true) := decide_eq_true hY
          have HRR : Hid (RES = some (X.map (· * G))) := HRS.out X (by
            have := hcg.out
            rw [hY, cgw_stop] at this
            exact this.symm)
          have HXV : Hid (Val X) := hgd.out.1
          clear hY hcg hgd
          go_wp2_with fail
          refine (szero_any hy.out).mono ?_
          rintro e w1 ⟨rfl, hw1⟩
          rw [hw1, HZ.out]
          clear hw1
          have start : Hid ((wr.alloc (.cells #[] 2)).ownsRow wr.heap.size 2 1 (.slice (some ⟨wr.heap.size, 0, none⟩) 0 0) 0 (((X.map (· * G)).take 0).map (Value.int .i64))) :=
            ⟨rfl, .inr ⟨wr.heap.size, 0, #[], rfl, Nat.le_refl _, heap_alloc_new wr _, by simp, by decide, rfl, rfl⟩⟩
          have startB : Hid (Below wr.heap.size wr (wr.alloc (.cells #[] 2))) := new1 _ _
          refine I2.out ?_
          intro i0 hi hz0 hz1 hz2
          have hx17 : X.length ≤ 17 := HXV.out.le
          have hx1 : 1 ≤ X.length := HXV.out.pos
          obtain ⟨n, hn⟩ : ∃ n, n = X.length := ⟨_, rfl⟩
          have HN : Hid (n = X.length) := hn
          rw [← hn] at hx hx17 hx1 ⊢
          obtain ⟨_, hcap, hxc⟩ := hx.out.use
          obtain ⟨b0, off, rfl, hbw, hcell⟩ := hxc (by omega)
          have HCX : Hid (∀ (k : Nat) (z : Int), X[k]? = some z → wr.cell? ⟨b0, off + k, none⟩ = some (.int .i64 z)) := hcell
          have HBw : Hid (b0 < wr.heap.size) := hbw
          clear hxc hcell hbw hn hx
          obtain ⟨W, hW⟩ : ∃ W, W = wr := ⟨_, rfl⟩
          rw [← hW] at start startB HCX HBw hb
          rw [← hW]
          clear hW
          go_wp2_with fail
          go_loopw [13, 54] (fun o t wr => ∃ (k g cp : Nat), k ≤ n ∧ o = .slice (some ⟨g, 0, none⟩) k cp ∧ t = .int .i64 k ∧ Hid (W.heap.size ≤ g) ∧ Hid (wr.ownsRow W.heap.size 2 1 (.slice (some ⟨g, 0, none⟩) k cp) k (((X.map (· * G)).take k).map (Value.int .i64))) ∧ Hid (Below W.heap.size W wr)) (fun _ t _ => n - (intOf t).toNat)
          case atStart => exact ⟨0, _, _, by omega, rfl, rfl, Nat.le_refl _, start, startB⟩
          case round =>
            obtain ⟨k, g, cp, hk2, rfl, rfl, hg, ho, hbl⟩ := hrel
            clear start startB
            by_cases hlt : k < n
            · obtain ⟨z, hz⟩ := get_some X k (by have := HN.out; omega)
              have e1 : wr.cell? ⟨b0, off + k, none⟩ = some (.int .i64 z) := (hbl.out.cell (p := ⟨b0, off + k, none⟩) HBw.out).trans (HCX.out k z hz)
              have hzz : Hid (((X.map (· * G)).take k).map (Value.int .i64) ++ [Value.int .i64 (G * z)] = ((X.map (· * G)).take (k + 1)).map (Value.int .i64)) := by
                show _ = _
                rw [List.take_add_one, mul_comm_map X G hz]; simp
              have HS : Hid (W.heap.size ≤ wr.heap.size) := hbl.out.size
              have hbd := HXV.out.get hz
              clear hz
              have hq := mul_le (A := 1000000) (B := 1000000) (a := G) (b := z) (by omega) (by omega)
              have hw1 : IntKind.i64.wrap (G * z) = G * z := IntWalk.i64_in _ (by omega)
              have hw2 : wrap64 (G * z) = G * z := IntWalk.wrap64_in _ (by omega)
              clear hq hbd
              go_wp2_with (first | (at_builtin; refine wpList_append_own _ rfl (.tmp 57) (.tmp 64) 22 rfl W.heap.size 2 i0 (.int .i64 0) 1 8 Try.underlying22 hi hz0 hz1 hz2 rfl (by decide) _ k _ rfl (ho.out.alloc _) ⟨wr.heap.size, 0, none⟩ 1 1 [.int .i64 _] rfl rfl (cell_one_new wr _ _) (by intro u hu; rw [List.mem_singleton] at hu; subst hu; rfl) (by unfold maxLen; omega) (by omega) (by have := HS.out; simp; omega) ?_; intro v' w3 hown' hgrow _))
              obtain ⟨g', cap', rfl⟩ := own_shape hown' (by omega)
              rw [hzz.out] at hown'
              have HGg : Hid (W.heap.size ≤ g') := by
                rcases hown'.2 with ⟨h', _⟩ | ⟨g2, cap2, cur, h', hB, _⟩
                · simp at h'
                · simp only [Value.slice.injEq, Option.some.injEq, Addr.mk.injEq, and_true] at h'
                  obtain ⟨rfl, _⟩ := h'
                  exact hB
              have HO : Hid (w3.ownsRow W.heap.size 2 1 (.slice (some ⟨g', 0, none⟩) (k + 1) cap') (k + 1) (((X.map (· * G)).take (k + 1)).map (Value.int .i64))) := hown'
              have HB : Hid (Below W.heap.size W w3) := (hbl.out.alloc HS.out _).grown hgrow (by have := HS.out; simp; omega) (by intro j hj; have hj' : some g = some j := hj; injection hj' with hj'; have := hg.out; omega)
              clear hown' hgrow
              go_roundw
              case rel => exact ⟨k + 1, g', cap', by omega, rfl, by go_num, HGg, HO, HB⟩
              case measure => simp [RowKit.intOf]; omega
            · obtain rfl : k = n := by omega
              have ho' := ho.out
              have hml : (X.map (· * G)).length = k := by rw [List.length_map]; exact HN.out.symm
              rw [List.take_of_length_le (by omega)] at ho'
              have HO : Hid (Own wr w.heap.size wr.heap.size (.slice (some ⟨g, 0, none⟩) k cp) (X.map (· * G))) := by
                have h2 : wr.ownsRow W.heap.size 2 1 (.slice (some ⟨g, 0, none⟩) k cp) (X.map (· * G)).length ((X.map (· * G)).map (Value.int .i64)) := by rw [hml]; exact ho'
                exact (Own.of_row h2 (by omega) (Nat.le_refl _)).wide hb.out.size (Nat.le_refl _)
              have HB : Hid (Below w.heap.size w wr) := hb.out.trans (hbl.out.mono hb.out.size)
              clear ho ho' hi hz0 hz1 hz2 hml
              go_wp2_with fail
              exact HPS.out _ _ _ HRR.out HO.out HB.out
        · have HZ : Hid (decide (Y = [0]) = false) := decide_eq_false hY
          have hmy := mv_pos hY
          have hyp := hgd.out.2.pos
          obtain ⟨j, rfl⟩ : ∃ j, gk = j + 1 := ⟨gk - 1, by omega⟩
          have HYN : Hid (Y ≠ [0]) := hY
          have HN1 : Hid (prs Y (mv X) X = none → RES = none) := fun h => HRN.out (by rw [← hcg.out]; exact cgw_no HYN.out h)
          have HG1 : Hid (∀ R, prs Y (mv X) X = some R → cgw j Y (prim R) = R0) := fun R h => by rw [← hcg.out]; exact (cgw_go HYN.out h).symm
          have HV1 : Hid (∀ R, prs Y (mv X) X = some R → Val R ∧ (Val Y ∧ Val (prim R)) ∧ mv (prim R) ≤ j) := fun R h => by
            have h1 := prs_val hgd.out.2 _ _ _ hgd.out.1 (Nat.le_refl _) h
            have h2 := mv_prim hY h1.2 hyp
            exact ⟨h1.1, ⟨hgd.out.2, prim_val h1.1⟩, by omega⟩
          clear hY hcg hmy hyp
          go_wp2_with fail
          refine (szero_any hy.out).mono ?_
          rintro e w1 ⟨rfl, hw1⟩
          rw [hw1, HZ.out]
          clear hw1
          go_wp2_with fail
          refine (srest_any hx.out hy.out hgd.out.1 hgd.out.2).mono ?_
          rintro e w3 ⟨hres, b⟩
          have B3 : Hid (Below w.heap.size w w3) := hb.out.trans (b.mono hb.out.size)
          have HYL : Hid (Ls w3 (.slice yo Y.length yc) Y) := hy.out.below b
          clear b hx hy hb hgd
          cases hp : prs Y (mv X) X with
          | none =>
            rw [hp] at hres
            subst hres
            have HNN : Hid (RES = none) := HN1.out hp
            clear hp HN1 HG1 HV1
            go_wp2_with fail
            exact HPN.out _ HNN.out B3.out
          | some R =>
            rw [hp] at hres
            obtain ⟨v3, rfl, o⟩ := hres
            obtain ⟨ra, rc, rfl⟩ := o.shape
            have HO : Hid (Ls w3 (.slice ra R.length rc) R) := o.ls (Nat.le_refl _)
            have HGG : Hid (cgw j Y (prim R) = R0) := HG1.out R hp
            have HVG : Hid (Val R ∧ (Val Y ∧ Val (prim R)) ∧ mv (prim R) ≤ j) := HV1.out R hp
            clear hp HN1 HG1 HV1 o
            go_wp2_with fail
            refine (sprim_any HO.out HVG.out.1).mono ?_
            rintro e w4 ⟨v4, rfl, o4, b4⟩
            obtain ⟨sa, sc, rfl⟩ := o4.shape
            have HZL : Hid (Ls w4 (.slice sa (prim R).length sc) (prim R)) := o4.ls (Nat.le_refl _)
            have HYL4 : Hid (Ls w4 (.slice yo Y.length yc) Y) := HYL.out.below b4
            have B4 : Hid (Below w.heap.size w w4) := B3.out.trans (b4.mono B3.out.size)
            have HVG2 : Hid ((Val Y ∧ Val (prim R)) ∧ mv (prim R) ≤ j) := HVG.out.2
            clear o4 b4 HO HVG
            generalize prim R = Z at *
            go_wp2_with fail
            go_roundg j
            case rel => exact ⟨Y, Z, yo, sa, yc, sc, rfl, rfl, HVG2.out.2, HGG, HVG2.out.1, HYL4, HZL, B4⟩
            case measure => omega
    · have HZ0 : Hid (decide (PB = [0]) = false) := decide_eq_false h0
      have HTN : Hid (cgw (mv PA) PB PA = R0) := HRX.out
      clear h0
      go_wp2_with fail
      refine (szero_any LPB.out).mono ?_
      rintro e w1 ⟨rfl, hw1⟩
      rw [hw1, HZ0.out]
      clear hw1
      go_wp2_with fail
      have HST : Hid (cgw (mv PA) PB PA = R0) := HTN.out
      have HSV : Hid (Val PB ∧ Val PA) := ⟨HV.out.2, HV.out.1⟩
      have HSP : Hid (Ls w2 (.slice pbo PB.length pbc) PB) := by rw [← HNB.out]; exact LPB.out
      have HSQ : Hid (Ls w2 (.slice pao PA.length pac) PA) := by rw [← HNA.out]; exact LPA.out
      have e1 := HNB.out
      have e2 := HNA.out
      go_loopg [7, 8] (mv PA) (fun k x y wr => ∃ (X Y : List Int) (xo yo : Option Addr) (xc yc : Nat), x = .slice xo X.length xc ∧ y = .slice yo Y.length yc ∧ mv Y ≤ k ∧ Hid (cgw k X Y = R0) ∧ Hid (Val X ∧ Val Y) ∧ Hid (Ls wr (.slice xo X.length xc) X) ∧ Hid (Ls wr (.slice yo Y.length yc) Y) ∧ Hid (Below w.heap.size w wr))
      case atStart => exact ⟨PB, PA, pbo, pao, pbc, pac, by rw [← e1], by rw [← e2], Nat.le_refl _, HST, HSV, HSP, HSQ, B2⟩
      case round =>
        obtain ⟨X, Y, xo, yo, xc, yc, rfl, rfl, hk, hcg, hgd, hx, hy, hb⟩ := hrel
        clear e1 e2 LPA LPB HST HSV HSP HSQ B2
        by_cases hY : Y = [0]
        · have HZ : Hid (decide (Y = [0]) = true) := decide_eq_true hY
          have HRR : Hid (RES = some (X.map (· * G))) := HRS.out X (by
            have := hcg.out
            rw [hY, cgw_stop] at this
            exact this.symm)
          have HXV : Hid (Val X) := hgd.out.1
          clear hY hcg hgd
          go_wp2_with fail
          refine (szero_any hy.out).mono ?_
          rintro e w1 ⟨rfl, hw1⟩
          rw [hw1, HZ.out]
          clear hw1
          have start : Hid ((wr.alloc (.cells #[] 2)).ownsRow wr.heap.size 2 1 (.slice (some ⟨wr.heap.size, 0, none⟩) 0 0) 0 (((X.map (· * G)).take 0).map (Value.int .i64))) :=
            ⟨rfl, .inr ⟨wr.heap.size, 0, #[], rfl, Nat.le_refl _, heap_alloc_new wr _, by simp, by decide, rfl, rfl⟩⟩
          have startB : Hid (Below wr.heap.size wr (wr.alloc (.cells #[] 2))) := new1 _ _
          refine I2.out ?_
          intro i0 hi hz0 hz1 hz2
          have hx17 : X.length ≤ 17 := HXV.out.le
          have hx1 : 1 ≤ X.length := HXV.out.pos
          obtain ⟨n, hn⟩ : ∃ n, n = X.length := ⟨_, rfl⟩
          have HN : Hid (n = X.length) := hn
          rw [← hn] at hx hx17 hx1 ⊢
          obtain ⟨_, hcap, hxc⟩ := hx.out.use
          obtain ⟨b0, off, rfl, hbw, hcell⟩ := hxc (by omega)
          have HCX : Hid (∀ (k : Nat) (z : Int), X[k]? = some z → wr.cell? ⟨b0, off + k, none⟩ = some (.int .i64 z)) := hcell
          have HBw : Hid (b0 < wr.heap.size) := hbw
          clear hxc hcell hbw hn hx
          obtain ⟨W, hW⟩ : ∃ W, W = wr := ⟨_, rfl⟩
          rw [← hW] at start startB HCX HBw hb
          rw [← hW]
          clear hW
          go_wp2_with fail
          go_loopw [13, 54] (fun o t wr => ∃ (k g cp : Nat), k ≤ n ∧ o = .slice (some ⟨g, 0, none⟩) k cp ∧ t = .int .i64 k ∧ Hid (W.heap.size ≤ g) ∧ Hid (wr.ownsRow W.heap.size 2 1 (.slice (some ⟨g, 0, none⟩) k cp) k (((X.map (· * G)).take k).map (Value.int .i64))) ∧ Hid (Below W.heap.size W wr)) (fun _ t _ => n - (intOf t).toNat)
          case atStart => exact ⟨0, _, _, by omega, rfl, rfl, Nat.le_refl _, start, startB⟩
          case round =>
            obtain ⟨k, g, cp, hk2, rfl, rfl, hg, ho, hbl⟩ := hrel
            clear start startB
            by_cases hlt : k < n
            · obtain ⟨z, hz⟩ := get_some X k (by have := HN.out; omega)
              have e1 : wr.cell? ⟨b0, off + k, none⟩ = some (.int .i64 z) := (hbl.out.cell (p := ⟨b0, off + k, none⟩) HBw.out).trans (HCX.out k z hz)
              have hzz : Hid (((X.map (· * G)).take k).map (Value.int .i64) ++ [Value.int .i64 (G * z)] = ((X.map (· * G)).take (k + 1)).map (Value.int .i64)) := by
                show _ = _
                rw [List.take_add_one, mul_comm_map X G hz]; simp
              have HS : Hid (W.heap.size ≤ wr.heap.size) := hbl.out.size
              have hbd := HXV.out.get hz
              clear hz
              have hq := mul_le (A := 1000000) (B := 1000000) (a := G) (b := z) (by omega) (by omega)
              have hw1 : IntKind.i64.wrap (G * z) = G * z := IntWalk.i64_in _ (by omega)
              have hw2 : wrap64 (G * z) = G * z := IntWalk.wrap64_in _ (by omega)
              clear hq hbd
              go_wp2_with (first | (at_builtin; refine wpList_append_own _ rfl (.tmp 57) (.tmp 64) 22 rfl W.heap.size 2 i0 (.int .i64 0) 1 8 Try.underlying22 hi hz0 hz1 hz2 rfl (by decide) _ k _ rfl (ho.out.alloc _) ⟨wr.heap.size, 0, none⟩ 1 1 [.int .i64 _] rfl rfl (cell_one_new wr _ _) (by intro u hu; rw [List.mem_singleton] at hu; subst hu; rfl) (by unfold maxLen; omega) (by omega) (by have := HS.out; simp; omega) ?_; intro v' w3 hown' hgrow _))
              obtain ⟨g', cap', rfl⟩ := own_shape hown' (by omega)
              rw [hzz.out] at hown'
              have HGg : Hid (W.heap.size ≤ g') := by
                rcases hown'.2 with ⟨h', _⟩ | ⟨g2, cap2, cur, h', hB, _⟩
                · simp at h'
                · simp only [Value.slice.injEq, Option.some.injEq, Addr.mk.injEq, and_true] at h'
                  obtain ⟨rfl, _⟩ := h'
                  exact hB
              have HO : Hid (w3.ownsRow W.heap.size 2 1 (.slice (some ⟨g', 0, none⟩) (k + 1) cap') (k + 1) (((X.map (· * G)).take (k + 1)).map (Value.int .i64))) := hown'
              have HB : Hid (Below W.heap.size W w3) := (hbl.out.alloc HS.out _).grown hgrow (by have := HS.out; simp; omega) (by intro j hj; have hj' : some g = some j := hj; injection hj' with hj'; have := hg.out; omega)
              clear hown' hgrow
              go_roundw
              case rel => exact ⟨k + 1, g', cap', by omega, rfl, by go_num, HGg, HO, HB⟩
              case measure => simp [RowKit.intOf]; omega
            · obtain rfl : k = n := by omega
              have ho' := ho.out
              have hml : (X.map (· * G)).length = k := by rw [List.length_map]; exact HN.out.symm
              rw [List.take_of_length_le (by omega)] at ho'
              have HO : Hid (Own wr w.heap.size wr.heap.size (.slice (some ⟨g, 0, none⟩) k cp) (X.map (· * G))) := by
                have h2 : wr.ownsRow W.heap.size 2 1 (.slice (some ⟨g, 0, none⟩) k cp) (X.map (· * G)).length ((X.map (· * G)).map (Value.int .i64)) := by rw [hml]; exact ho'
                exact (Own.of_row h2 (by omega) (Nat.le_refl _)).wide hb.out.size (Nat.le_refl _)
              have HB : Hid (Below w.heap.size w wr) := hb.out.trans (hbl.out.mono hb.out.size)
              clear ho ho' hi hz0 hz1 hz2 hml
              go_wp2_with fail
              exact HPS.out _ _ _ HRR.out HO.out HB.out
        · have HZ : Hid (decide (Y = [0]) = false) := decide_eq_false hY
          have hmy := mv_pos hY
          have hyp := hgd.out.2.pos
          obtain ⟨j, rfl⟩ : ∃ j, gk = j + 1 := ⟨gk - 1, by omega⟩
          have HYN : Hid (Y ≠ [0]) := hY
          have HN1 : Hid (prs Y (mv X) X = none → RES = none) := fun h => HRN.out (by rw [← hcg.out]; exact cgw_no HYN.out h)
          have HG1 : Hid (∀ R, prs Y (mv X) X = some R → cgw j Y (prim R) = R0) := fun R h => by rw [← hcg.out]; exact (cgw_go HYN.out h).symm
          have HV1 : Hid (∀ R, prs Y (mv X) X = some R → Val R ∧ (Val Y ∧ Val (prim R)) ∧ mv (prim R) ≤ j) := fun R h => by
            have h1 := prs_val hgd.out.2 _ _ _ hgd.out.1 (Nat.le_refl _) h
            have h2 := mv_prim hY h1.2 hyp
            exact ⟨h1.1, ⟨hgd.out.2, prim_val h1.1⟩, by omega⟩
          clear hY hcg hmy hyp
          go_wp2_with fail
          refine (szero_any hy.out).mono ?_
          rintro e w1 ⟨rfl, hw1⟩
          rw [hw1, HZ.out]
          clear hw1
          go_wp2_with fail
          refine (srest_any hx.out hy.out hgd.out.1 hgd.out.2).mono ?_
          rintro e w3 ⟨hres, b⟩
          have B3 : Hid (Below w.heap.size w w3) := hb.out.trans (b.mono hb.out.size)
          have HYL : Hid (Ls w3 (.slice yo Y.length yc) Y) := hy.out.below b
          clear b hx hy hb hgd
          cases hp : prs Y (mv X) X with
          | none =>
            rw [hp] at hres
            subst hres
            have HNN : Hid (RES = none) := HN1.out hp
            clear hp HN1 HG1 HV1
            go_wp2_with fail
            exact HPN.out _ HNN.out B3.out
          | some R =>
            rw [hp] at hres
            obtain ⟨v3, rfl, o⟩ := hres
            obtain ⟨ra, rc, rfl⟩ := o.shape
            have HO : Hid (Ls w3 (.slice ra R.length rc) R) := o.ls (Nat.le_refl _)
            have HGG : Hid (cgw j Y (prim R) = R0) := HG1.out R hp
            have HVG : Hid (Val R ∧ (Val Y ∧ Val (prim R)) ∧ mv (prim R) ≤ j) := HV1.out R hp
            clear hp HN1 HG1 HV1 o
            go_wp2_with fail
            refine (sprim_any HO.out HVG.out.1).mono ?_
            rintro e w4 ⟨v4, rfl, o4, b4⟩
            obtain ⟨sa, sc, rfl⟩ := o4.shape
            have HZL : Hid (Ls w4 (.slice sa (prim R).length sc) (prim R)) := o4.ls (Nat.le_refl _)
            have HYL4 : Hid (Ls w4 (.slice yo Y.length yc) Y) := HYL.out.below b4
            have B4 : Hid (Below w.heap.size w w4) := B3.out.trans (b4.mono B3.out.size)
            have HVG2 : Hid ((Val Y ∧ Val (prim R)) ∧ mv (prim R) ≤ j) := HVG.out.2
            clear o4 b4 HO HVG
            generalize prim R = Z at *
            go_wp2_with fail
            go_roundg j
            case rel => exact ⟨Y, Z, yo, sa, yc, sc, rfl, rfl, HVG2.out.2, HGG, HVG2.out.1, HYL4, HZL, B4⟩
            case measure => omega
  · have hs2 : ¬ na < nb := by have h1 := HNA.out; have h2 := HNB.out; have h3 := HL.out; omega
    have HRX : Hid (cgw (mv PB) PA PB = R0) := HR2.out hs
    have hv17 := HVP.out
    have hlen : PB.length ≤ PA.length := by have h3 := HL.out; omega
    have HLEN : Hid (PB.length ≤ PA.length) := hlen
    clear hs hlen hv17
    by_cases h0 : PA = [0]
    · have HZ0 : Hid (decide (PA = [0]) = true) := decide_eq_true h0
      have HTN : Hid (cgw (mv PA) PB PA = R0) := by show _ = _; rw [← HRX.out]; exact cgw_turn h0 (by have h1 := HLEN.out; have h2 : PA.length = 1 := (by rw [h0]; rfl); omega) (by have := HVP.out; omega)
      clear h0
      go_wp2_with fail
      refine (szero_any LPA.out).mono ?_
      rintro e w1 ⟨rfl, hw1⟩
      rw [hw1, HZ0.out]
      clear hw1
      go_wp2_with fail
      have HST : Hid (cgw (mv PA) PB PA = R0) := HTN.out
      have HSV : Hid (Val PB ∧ Val PA) := ⟨HV.out.2, HV.out.1⟩
      have HSP : Hid (Ls w2 (.slice pbo PB.length pbc) PB) := by rw [← HNB.out]; exact LPB.out
      have HSQ : Hid (Ls w2 (.slice pao PA.length pac) PA) := by rw [← HNA.out]; exact LPA.out
      have e1 := HNB.out
      have e2 := HNA.out
      go_loopg [7, 8] (mv PA) (fun k x y wr => ∃ (X Y : List Int) (xo yo : Option Addr) (xc yc : Nat), x = .slice xo X.length xc ∧ y = .slice yo Y.length yc ∧ mv Y ≤ k ∧ Hid (cgw k X Y = R0) ∧ Hid (Val X ∧ Val Y) ∧ Hid (Ls wr (.slice xo X.length xc) X) ∧ Hid (Ls wr (.slice yo Y.length yc) Y) ∧ Hid (Below w.heap.size w wr))
      case atStart => exact ⟨PB, PA, pbo, pao, pbc, pac, by rw [← e1], by rw [← e2], Nat.le_refl _, HST, HSV, HSP, HSQ, B2⟩
      case round =>
        obtain ⟨X, Y, xo, yo, xc, yc, rfl, rfl, hk, hcg, hgd, hx, hy, hb⟩ := hrel
        clear e1 e2 LPA LPB HST HSV HSP HSQ B2
        by_cases hY : Y = [0]
        · have HZ : Hid (decide (Y = [0]) = true) := decide_eq_true hY
          have HRR : Hid (RES = some (X.map (· * G))) := HRS.out X (by
            have := hcg.out
            rw [hY, cgw_stop] at this
            exact this.symm)
          have HXV : Hid (Val X) := hgd.out.1
          clear hY hcg hgd
          go_wp2_with fail
          refine (szero_any hy.out).mono ?_
          rintro e w1 ⟨rfl, hw1⟩
          rw [hw1, HZ.out]
          clear hw1
          have start : Hid ((wr.alloc (.cells #[] 2)).ownsRow wr.heap.size 2 1 (.slice (some ⟨wr.heap.size, 0, none⟩) 0 0) 0 (((X.map (· * G)).take 0).map (Value.int .i64))) :=
            ⟨rfl, .inr ⟨wr.heap.size, 0, #[], rfl, Nat.le_refl _, heap_alloc_new wr _, by simp, by decide, rfl, rfl⟩⟩
          have startB : Hid (Below wr.heap.size wr (wr.alloc (.cells #[] 2))) := new1 _ _
          refine I2.out ?_
          intro i0 hi hz0 hz1 hz2
          have hx17 : X.length ≤ 17 := HXV.out.le
          have hx1 : 1 ≤ X.length := HXV.out.pos
          obtain ⟨n, hn⟩ : ∃ n, n = X.length := ⟨_, rfl⟩
          have HN : Hid (n = X.length) := hn
          rw [← hn] at hx hx17 hx1 ⊢
          obtain ⟨_, hcap, hxc⟩ := hx.out.use
          obtain ⟨b0, off, rfl, hbw, hcell⟩ := hxc (by omega)
          have HCX : Hid (∀ (k : Nat) (z : Int), X[k]? = some z → wr.cell? ⟨b0, off + k, none⟩ = some (.int .i64 z)) := hcell
          have HBw : Hid (b0 < wr.heap.size) := hbw
          clear hxc hcell hbw hn hx
          obtain ⟨W, hW⟩ : ∃ W, W = wr := ⟨_, rfl⟩
          rw [← hW] at start startB HCX HBw hb
          rw [← hW]
          clear hW
          go_wp2_with fail
          go_loopw [13, 54] (fun o t wr => ∃ (k g cp : Nat), k ≤ n ∧ o = .slice (some ⟨g, 0, none⟩) k cp ∧ t = .int .i64 k ∧ Hid (W.heap.size ≤ g) ∧ Hid (wr.ownsRow W.heap.size 2 1 (.slice (some ⟨g, 0, none⟩) k cp) k (((X.map (· * G)).take k).map (Value.int .i64))) ∧ Hid (Below W.heap.size W wr)) (fun _ t _ => n - (intOf t).toNat)
          case atStart => exact ⟨0, _, _, by omega, rfl, rfl, Nat.le_refl _, start, startB⟩
          case round =>
            obtain ⟨k, g, cp, hk2, rfl, rfl, hg, ho, hbl⟩ := hrel
            clear start startB
            by_cases hlt : k < n
            · obtain ⟨z, hz⟩ := get_some X k (by have := HN.out; omega)
              have e1 : wr.cell? ⟨b0, off + k, none⟩ = some (.int .i64 z) := (hbl.out.cell (p := ⟨b0, off + k, none⟩) HBw.out).trans (HCX.out k z hz)
              have hzz : Hid (((X.map (· * G)).take k).map (Value.int .i64) ++ [Value.int .i64 (G * z)] = ((X.map (· * G)).take (k + 1)).map (Value.int .i64)) := by
                show _ = _
                rw [List.take_add_one, mul_comm_map X G hz]; simp
              have HS : Hid (W.heap.size ≤ wr.heap.size) := hbl.out.size
              have hbd := HXV.out.get hz
              clear hz
              have hq := mul_le (A := 1000000) (B := 1000000) (a := G) (b := z) (by omega) (by omega)
              have hw1 : IntKind.i64.wrap (G * z) = G * z := IntWalk.i64_in _ (by omega)
              have hw2 : wrap64 (G * z) = G * z := IntWalk.wrap64_in _ (by omega)
              clear hq hbd
              go_wp2_with (first | (at_builtin; refine wpList_append_own _ rfl (.tmp 57) (.tmp 64) 22 rfl W.heap.size 2 i0 (.int .i64 0) 1 8 Try.underlying22 hi hz0 hz1 hz2 rfl (by decide) _ k _ rfl (ho.out.alloc _) ⟨wr.heap.size, 0, none⟩ 1 1 [.int .i64 _] rfl rfl (cell_one_new wr _ _) (by intro u hu; rw [List.mem_singleton] at hu; subst hu; rfl) (by unfold maxLen; omega) (by omega) (by have := HS.out; simp; omega) ?_; intro v' w3 hown' hgrow _))
              obtain ⟨g', cap', rfl⟩ := own_shape hown' (by omega)
              rw [hzz.out] at hown'
              have HGg : Hid (W.heap.size ≤ g') := by
                rcases hown'.2 with ⟨h', _⟩ | ⟨g2, cap2, cur, h', hB, _⟩
                · simp at h'
                · simp only [Value.slice.injEq, Option.some.injEq, Addr.mk.injEq, and_true] at h'
                  obtain ⟨rfl, _⟩ := h'
                  exact hB
              have HO : Hid (w3.ownsRow W.heap.size 2 1 (.slice (some ⟨g', 0, none⟩) (k + 1) cap') (k + 1) (((X.map (· * G)).take (k + 1)).map (Value.int .i64))) := hown'
              have HB : Hid (Below W.heap.size W w3) := (hbl.out.alloc HS.out _).grown hgrow (by have := HS.out; simp; omega) (by intro j hj; have hj' : some g = some j := hj; injection hj' with hj'; have := hg.out; omega)
              clear hown' hgrow
              go_roundw
              case rel => exact ⟨k + 1, g', cap', by omega, rfl, by go_num, HGg, HO, HB⟩
              case measure => simp [RowKit.intOf]; omega
            · obtain rfl : k = n := by omega
              have ho' := ho.out
              have hml : (X.map (· * G)).length = k := by rw [List.length_map]; exact HN.out.symm
              rw [List.take_of_length_le (by omega)] at ho'
              have HO : Hid (Own wr w.heap.size wr.heap.size (.slice (some ⟨g, 0, none⟩) k cp) (X.map (· * G))) := by
                have h2 : wr.ownsRow W.heap.size 2 1 (.slice (some ⟨g, 0, none⟩) k cp) (X.map (· * G)).length ((X.map (· * G)).map (Value.int .i64)) := by rw [hml]; exact ho'
                exact (Own.of_row h2 (by omega) (Nat.le_refl _)).wide hb.out.size (Nat.le_refl _)
              have HB : Hid (Below w.heap.size w wr) := hb.out.trans (hbl.out.mono hb.out.size)
              clear ho ho' hi hz0 hz1 hz2 hml
              go_wp2_with fail
              exact HPS.out _ _ _ HRR.out HO.out HB.out
        · have HZ : Hid (decide (Y = [0]) = false) := decide_eq_false hY
          have hmy := mv_pos hY
          have hyp := hgd.out.2.pos
          obtain ⟨j, rfl⟩ : ∃ j, gk = j + 1 := ⟨gk - 1, by omega⟩
          have HYN : Hid (Y ≠ [0]) := hY
          have HN1 : Hid (prs Y (mv X) X = none → RES = none) := fun h => HRN.out (by rw [← hcg.out]; exact cgw_no HYN.out h)
          have HG1 : Hid (∀ R, prs Y (mv X) X = some R → cgw j Y (prim R) = R0) := fun R h => by rw [← hcg.out]; exact (cgw_go HYN.out h).symm
          have HV1 : Hid (∀ R, prs Y (mv X) X = some R → Val R ∧ (Val Y ∧ Val (prim R)) ∧ mv (prim R) ≤ j) := fun R h => by
            have h1 := prs_val hgd.out.2 _ _ _ hgd.out.1 (Nat.le_refl _) h
            have h2 := mv_prim hY h1.2 hyp
            exact ⟨h1.1, ⟨hgd.out.2, prim_val h1.1⟩, by omega⟩
          clear hY hcg hmy hyp
          go_wp2_with fail
          refine (szero_any hy.out).mono ?_
          rintro e w1 ⟨rfl, hw1⟩
          rw [hw1, HZ.out]
          clear hw1
          go_wp2_with fail
          refine (srest_any hx.out hy.out hgd.out.1 hgd.out.2).mono ?_
          rintro e w3 ⟨hres, b⟩
          have B3 : Hid (Below w.heap.size w w3) := hb.out.trans (b.mono hb.out.size)
          have HYL : Hid (Ls w3 (.slice yo Y.length yc) Y) := hy.out.below b
          clear b hx hy hb hgd
          cases hp : prs Y (mv X) X with
          | none =>
            rw [hp] at hres
            subst hres
            have HNN : Hid (RES = none) := HN1.out hp
            clear hp HN1 HG1 HV1
            go_wp2_with fail
            exact HPN.out _ HNN.out B3.out
          | some R =>
            rw [hp] at hres
            obtain ⟨v3, rfl, o⟩ := hres
            obtain ⟨ra, rc, rfl⟩ := o.shape
            have HO : Hid (Ls w3 (.slice ra R.length rc) R) := o.ls (Nat.le_refl _)
            have HGG : Hid (cgw j Y (prim R) = R0) := HG1.out R hp
            have HVG : Hid (Val R ∧ (Val Y ∧ Val (prim R)) ∧ mv (prim R) ≤ j) := HV1.out R hp
            clear hp HN1 HG1 HV1 o
            go_wp2_with fail
            refine (sprim_any HO.out HVG.out.1).mono ?_
            rintro e w4 ⟨v4, rfl, o4, b4⟩
            obtain ⟨sa, sc, rfl⟩ := o4.shape
            have HZL : Hid (Ls w4 (.slice sa (prim R).length sc) (prim R)) := o4.ls (Nat.le_refl _)
            have HYL4 : Hid (Ls w4 (.slice yo Y.length yc) Y) := HYL.out.below b4
            have B4 : Hid (Below w.heap.size w w4) := B3.out.trans (b4.mono B3.out.size)
            have HVG2 : Hid ((Val Y ∧ Val (prim R)) ∧ mv (prim R) ≤ j) := HVG.out.2
            clear o4 b4 HO HVG
            generalize prim R = Z at *
            go_wp2_with fail
            go_roundg j
            case rel => exact ⟨Y, Z, yo, sa, yc, sc, rfl, rfl, HVG2.out.2, HGG, HVG2.out.1, HYL4, HZL, B4⟩
            case measure => omega
    · have HZ0 : Hid (decide (PA = [0]) = false) := decide_eq_false h0
      have HTN : Hid (cgw (mv PB) PA PB = R0) := HRX.out
      clear h0
      go_wp2_with fail
      refine (szero_any LPA.out).mono ?_
      rintro e w1 ⟨rfl, hw1⟩
      rw [hw1, HZ0.out]
      clear hw1
      go_wp2_with fail
      have HST : Hid (cgw (mv PB) PA PB = R0) := HTN.out
      have HSV : Hid (Val PA ∧ Val PB) := ⟨HV.out.1, HV.out.2⟩
      have HSP : Hid (Ls w2 (.slice pao PA.length pac) PA) := by rw [← HNA.out]; exact LPA.out
      have HSQ : Hid (Ls w2 (.slice pbo PB.length pbc) PB) := by rw [← HNB.out]; exact LPB.out
      have e1 := HNA.out
      have e2 := HNB.out
      go_loopg [7, 8] (mv PB) (fun k x y wr => ∃ (X Y : List Int) (xo yo : Option Addr) (xc yc : Nat), x = .slice xo X.length xc ∧ y = .slice yo Y.length yc ∧ mv Y ≤ k ∧ Hid (cgw k X Y = R0) ∧ Hid (Val X ∧ Val Y) ∧ Hid (Ls wr (.slice xo X.length xc) X) ∧ Hid (Ls wr (.slice yo Y.length yc) Y) ∧ Hid (Below w.heap.size w wr))
      case atStart => exact ⟨PA, PB, pao, pbo, pac, pbc, by rw [← e1], by rw [← e2], Nat.le_refl _, HST, HSV, HSP, HSQ, B2⟩
      case round =>
        obtain ⟨X, Y, xo, yo, xc, yc, rfl, rfl, hk, hcg, hgd, hx, hy, hb⟩ := hrel
        clear e1 e2 LPA LPB HST HSV HSP HSQ B2
        by_cases hY : Y = [0]
        · have HZ : Hid (decide (Y = [0]) = true) := decide_eq_true hY
          have HRR : Hid (RES = some (X.map (· * G))) := HRS.out X (by
            have := hcg.out
            rw [hY, cgw_stop] at this
            exact this.symm)
          have HXV : Hid (Val X) := hgd.out.1
          clear hY hcg hgd
          go_wp2_with fail
          refine (szero_any hy.out).mono ?_
          rintro e w1 ⟨rfl, hw1⟩
          rw [hw1, HZ.out]
          clear hw1
          have start : Hid ((wr.alloc (.cells #[] 2)).ownsRow wr.heap.size 2 1 (.slice (some ⟨wr.heap.size, 0, none⟩) 0 0) 0 (((X.map (· * G)).take 0).map (Value.int .i64))) :=
            ⟨rfl, .inr ⟨wr.heap.size, 0, #[], rfl, Nat.le_refl _, heap_alloc_new wr _, by simp, by decide, rfl, rfl⟩⟩
          have startB : Hid (Below wr.heap.size wr (wr.alloc (.cells #[] 2))) := new1 _ _
          refine I2.out ?_
          intro i0 hi hz0 hz1 hz2
          have hx17 : X.length ≤ 17 := HXV.out.le
          have hx1 : 1 ≤ X.length := HXV.out.pos
          obtain ⟨n, hn⟩ : ∃ n, n = X.length := ⟨_, rfl⟩
          have HN : Hid (n = X.length) := hn
          rw [← hn] at hx hx17 hx1 ⊢
          obtain ⟨_, hcap, hxc⟩ := hx.out.use
          obtain ⟨b0, off, rfl, hbw, hcell⟩ := hxc (by omega)
          have HCX : Hid (∀ (k : Nat) (z : Int), X[k]? = some z → wr.cell? ⟨b0, off + k, none⟩ = some (.int .i64 z)) := hcell
          have HBw : Hid (b0 < wr.heap.size) := hbw
          clear hxc hcell hbw hn hx
          obtain ⟨W, hW⟩ : ∃ W, W = wr := ⟨_, rfl⟩
          rw [← hW] at start startB HCX HBw hb
          rw [← hW]
          clear hW
          go_wp2_with fail
          go_loopw [13, 54] (fun o t wr => ∃ (k g cp : Nat), k ≤ n ∧ o = .slice (some ⟨g, 0, none⟩) k cp ∧ t = .int .i64 k ∧ Hid (W.heap.size ≤ g) ∧ Hid (wr.ownsRow W.heap.size 2 1 (.slice (some ⟨g, 0, none⟩) k cp) k (((X.map (· * G)).take k).map (Value.int .i64))) ∧ Hid (Below W.heap.size W wr)) (fun _ t _ => n - (intOf t).toNat)
          case atStart => exact ⟨0, _, _, by omega, rfl, rfl, Nat.le_refl _, start, startB⟩
          case round =>
            obtain ⟨k, g, cp, hk2, rfl, rfl, hg, ho, hbl⟩ := hrel
            clear start startB
            by_cases hlt : k < n
            · obtain ⟨z, hz⟩ := get_some X k (by have := HN.out; omega)
              have e1 : wr.cell? ⟨b0, off + k, none⟩ = some (.int .i64 z) := (hbl.out.cell (p := ⟨b0, off + k, none⟩) HBw.out).trans (HCX.out k z hz)
              have hzz : Hid (((X.map (· * G)).take k).map (Value.int .i64) ++ [Value.int .i64 (G * z)] = ((X.map (· * G)).take (k + 1)).map (Value.int .i64)) := by
                show _ = _
                rw [List.take_add_one, mul_comm_map X G hz]; simp
              have HS : Hid (W.heap.size ≤ wr.heap.size) := hbl.out.size
              have hbd := HXV.out.get hz
              clear hz
              have hq := mul_le (A := 1000000) (B := 1000000) (a := G) (b := z) (by omega) (by omega)
              have hw1 : IntKind.i64.wrap (G * z) = G * z := IntWalk.i64_in _ (by omega)
              have hw2 : wrap64 (G * z) = G * z := IntWalk.wrap64_in _ (by omega)
              clear hq hbd
              go_wp2_with (first | (at_builtin; refine wpList_append_own _ rfl (.tmp 57) (.tmp 64) 22 rfl W.heap.size 2 i0 (.int .i64 0) 1 8 Try.underlying22 hi hz0 hz1 hz2 rfl (by decide) _ k _ rfl (ho.out.alloc _) ⟨wr.heap.size, 0, none⟩ 1 1 [.int .i64 _] rfl rfl (cell_one_new wr _ _) (by intro u hu; rw [List.mem_singleton] at hu; subst hu; rfl) (by unfold maxLen; omega) (by omega) (by have := HS.out; simp; omega) ?_; intro v' w3 hown' hgrow _))
              obtain ⟨g', cap', rfl⟩ := own_shape hown' (by omega)
              rw [hzz.out] at hown'
              have HGg : Hid (W.heap.size ≤ g') := by
                rcases hown'.2 with ⟨h', _⟩ | ⟨g2, cap2, cur, h', hB, _⟩
                · simp at h'
                · simp only [Value.slice.injEq, Option.some.injEq, Addr.mk.injEq, and_true] at h'
                  obtain ⟨rfl, _⟩ := h'
                  exact hB
              have HO : Hid (w3.ownsRow W.heap.size 2 1 (.slice (some ⟨g', 0, none⟩) (k + 1) cap') (k + 1) (((X.map (· * G)).take (k + 1)).map (Value.int .i64))) := hown'
              have HB : Hid (Below W.heap.size W w3) := (hbl.out.alloc HS.out _).grown hgrow (by have := HS.out; simp; omega) (by intro j hj; have hj' : some g = some j := hj; injection hj' with hj'; have := hg.out; omega)
              clear hown' hgrow
              go_roundw
              case rel => exact ⟨k + 1, g', cap', by omega, rfl, by go_num, HGg, HO, HB⟩
              case measure => simp [RowKit.intOf]; omega
            · obtain rfl : k = n := by omega
              have ho' := ho.out
              have hml : (X.map (· * G)).length = k := by rw [List.length_map]; exact HN.out.symm
              rw [List.take_of_length_le (by omega)] at ho'
              have HO : Hid (Own wr w.heap.size wr.heap.size (.slice (some ⟨g, 0, none⟩) k cp) (X.map (· * G))) := by
                have h2 : wr.ownsRow W.heap.size 2 1 (.slice (some ⟨g, 0, none⟩) k cp) (X.map (· * G)).length ((X.map (· * G)).map (Value.int .i64)) := by rw [hml]; exact ho'
                exact (Own.of_row h2 (by omega) (Nat.le_refl _)).wide hb.out.size (Nat.le_refl _)
              have HB : Hid (Below w.heap.size w wr) := hb.out.trans (hbl.out.mono hb.out.size)
              clear ho ho' hi hz0 hz1 hz2 hml
              go_wp2_with fail
              exact HPS.out _ _ _ HRR.out HO.out HB.out
        · have HZ : Hid (decide (Y = [0]) = false) := decide_eq_false hY
          have hmy := mv_pos hY
          have hyp := hgd.out.2.pos
          obtain ⟨j, rfl⟩ : ∃ j, gk = j + 1 := ⟨gk - 1, by omega⟩
          have HYN : Hid (Y ≠ [0]) := hY
          have HN1 : Hid (prs Y (mv X) X = none → RES = none) := fun h => HRN.out (by rw [← hcg.out]; exact cgw_no HYN.out h)
          have HG1 : Hid (∀ R, prs Y (mv X) X = some R → cgw j Y (prim R) = R0) := fun R h => by rw [← hcg.out]; exact (cgw_go HYN.out h).symm
          have HV1 : Hid (∀ R, prs Y (mv X) X = some R → Val R ∧ (Val Y ∧ Val (prim R)) ∧ mv (prim R) ≤ j) := fun R h => by
            have h1 := prs_val hgd.out.2 _ _ _ hgd.out.1 (Nat.le_refl _) h
            have h2 := mv_prim hY h1.2 hyp
            exact ⟨h1.1, ⟨hgd.out.2, prim_val h1.1⟩, by omega⟩
          clear hY hcg hmy hyp
          go_wp2_with fail
          refine (szero_any hy.out).mono ?_
          rintro e w1 ⟨rfl, hw1⟩
          rw [hw1, HZ.out]
          clear hw1
          go_wp2_with fail
          refine (srest_any hx.out hy.out hgd.out.1 hgd.out.2).mono ?_
          rintro e w3 ⟨hres, b⟩
          have B3 : Hid (Below w.heap.size w w3) := hb.out.trans (b.mono hb.out.size)
          have HYL : Hid (Ls w3 (.slice yo Y.length yc) Y) := hy.out.below b
          clear b hx hy hb hgd
          cases hp : prs Y (mv X) X with
          | none =>
            rw [hp] at hres
            subst hres
            have HNN : Hid (RES = none) := HN1.out hp
            clear hp HN1 HG1 HV1
            go_wp2_with fail
            exact HPN.out _ HNN.out B3.out
          | some R =>
            rw [hp] at hres
            obtain ⟨v3, rfl, o⟩ := hres
            obtain ⟨ra, rc, rfl⟩ := o.shape
            have HO : Hid (Ls w3 (.slice ra R.length rc) R) := o.ls (Nat.le_refl _)
            have HGG : Hid (cgw j Y (prim R) = R0) := HG1.out R hp
            have HVG : Hid (Val R ∧ (Val Y ∧ Val (prim R)) ∧ mv (prim R) ≤ j) := HV1.out R hp
            clear hp HN1 HG1 HV1 o
            go_wp2_with fail
            refine (sprim_any HO.out HVG.out.1).mono ?_
            rintro e w4 ⟨v4, rfl, o4, b4⟩
            obtain ⟨sa, sc, rfl⟩ := o4.shape
            have HZL : Hid (Ls w4 (.slice sa (prim R).length sc) (prim R)) := o4.ls (Nat.le_refl _)
            have HYL4 : Hid (Ls w4 (.slice yo Y.length yc) Y) := HYL.out.below b4
            have B4 : Hid (Below w.heap.size w w4) := B3.out.trans (b4.mono B3.out.size)
            have HVG2 : Hid ((Val Y ∧ Val (prim R)) ∧ mv (prim R) ≤ j) := HVG.out.2
            clear o4 b4 HO HVG
            generalize prim R = Z at *
            go_wp2_with fail
            go_roundg j
            case rel => exact ⟨Y, Z, yo, sa, yc, sc, rfl, rfl, HVG2.out.2, HGG, HVG2.out.1, HYL4, HZL, B4⟩
            case measure => omega
end Go.Proofs.Ytbbdhbamooaloaa.wh
