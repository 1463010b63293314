/- SquareFree: what the model answers. -/
import Derived.Test.YtbbdhbamooaloaaSqI
namespace Go.Proofs.Ytbbdhbamooaloaa.fSquareFree
open Go.RowKit Go.Pl Go.Proofs.Ytbbdhbamooaloaa.wh

theorem slope_no {P : List Int} (h : fSlopeWhole.ok P = false) : fCommonWhole.ok P (fSlopeWhole.R P) = false := by
  cases hc : fCommonWhole.ok P (fSlopeWhole.R P) with
  | false => rfl
  | true =>
    have hv := cw_val hc
    unfold fSlopeWhole.ok at h
    rw [val_iff.2 hv.1, Bool.true_and] at h
    have h2 := hv.2.1
    unfold fSlopeWhole.R at h2
    rw [if_pos (val_iff.2 hv.1), gv_no h] at h2
    exact absurd rfl h2.ne
theorem good_no {A : List Int} (h : good A = false) : ans A = none := by
  unfold ans
  rw [h]
  rfl

set_option maxRecDepth 100000 in
set_option maxHeartbeats 8000000 in
theorem spec_any {A : List Int} {v : Value} {w : World} (h : Wh w v A) : Calls Try.prog 8 #[v] w (AnsQ (ans A) w) := by
  obtain ⟨s, rfl, h⟩ := h
  obtain ⟨ao, cap, rfl⟩ := id h.shape
  have HH : Hid (Ls w (.slice ao A.length cap) A) := h
  clear h
  obtain ⟨w1, hw⟩ : ∃ x, x = w.alloc (.cells #[.slice ao A.length cap] 29) := ⟨_, rfl⟩
  have X : Hid (Bx w1 w.heap.size (.slice ao A.length cap)) := by rw [hw]; exact Bx.new _ _ _
  have B1 : Hid (Below w.heap.size w w1) := by rw [hw]; exact new1 _ _
  have H1 : Hid (Ls w1 (.slice ao A.length cap) A) := HH.out.below B1.out
  have c := X.out.cell
  clear HH
  go_enter Try.func8, Try.ntmps8
  go_wp2_with fail
  rw [← hw]
  clear hw
  refine (is_any X.out.cell H1.out).mono ?_
  rintro e w0 ⟨rfl, hw0⟩
  rw [hw0]
  clear hw0
  cases hv : val A with
  | false =>
    have HZ : Hid (ans A = none) := deg_no (by rw [hv]; rfl)
    clear hv
    go_wp2_with fail
    go_ret2
    exact AnsQ.no HZ.out B1.out
  | true =>
  by_cases hl : A.length < 2
  case pos =>
    have HZ : Hid (ans A = none) := deg_no (by rw [hv, decide_eq_false (show ¬ (1 ≤ (A.length : Int) - 1 ∧ (A.length : Int) - 1 ≤ 16) by omega)]; rfl)
    have hl' : (A.length : Int) < 2 := by omega
    clear hv hl
    go_wp2_with fail
    go_ret2
    exact AnsQ.no HZ.out B1.out
  case neg =>
  have HV : Hid (Val A) := val_iff.1 hv
  have HVV : Hid (val A = true ∧ 2 ≤ A.length) := ⟨hv, by omega⟩
  have hl' : ¬ (A.length : Int) < 2 := by omega
  clear hv hl
  go_wp2_with fail
  refine (sprim_any H1.out HV.out).mono ?_
  rintro e w2 ⟨v2, rfl, o, b⟩
  obtain ⟨qa, qc, rfl⟩ := o.shape
  replace B1 : Hid (Below w.heap.size w w2) := B1.out.trans (b.mono B1.out.size)
  have OQ : Hid (Ls w2 (.slice qa (prim A).length qc) (prim A)) := o.ls (Nat.le_refl _)
  clear o b X H1 c hl'
  go_wp2_with fail
  refine (give_any OQ.out (by rw [prim_len]; have := HV.out.2.1; omega)).mono ?_
  rintro e w3 ⟨v3, rfl, ⟨s3, rfl, o⟩, b⟩
  obtain ⟨pa, pc, rfl⟩ := o.shape
  have B4 : Hid (Below w.heap.size w w3) := B1.out.trans (b.mono B1.out.size)
  have hl1 : w.heap.size ≤ w3.heap.size := B4.out.size
  have OP : Hid (Own w3 w2.heap.size w3.heap.size (.slice pa (gv (prim A)).length pc) (gv (prim A))) := o
  obtain ⟨P, hP⟩ : ∃ P, P = gv (prim A) := ⟨_, rfl⟩
  have HPE : Hid (P = W A) := by
    show P = W A
    unfold W fPrimitiveOf.R
    rw [if_pos HVV.out.1]
    exact hP
  rw [← hP] at OP ⊢
  clear o b OQ hP B1
  go_wp2_with fail
  obtain ⟨w4, hw⟩ : ∃ x, x = w3.alloc (.cells #[.slice pa P.length pc] 29) := ⟨_, rfl⟩
  obtain ⟨b, XX, z4⟩ := boxed w3 (.slice pa P.length pc) 29
  rw [← hw] at b XX z4 ⊢
  clear hw
  have X4 : Hid (Bx w4 w3.heap.size (.slice pa P.length pc)) := XX
  replace B4 : Hid (Below w.heap.size w w4) := B4.out.trans (b.mono B4.out.size)
  replace OP : Hid (Own w4 w2.heap.size w3.heap.size (.slice pa P.length pc) P) := Own.kept OP.out b
  clear b XX
  refine (fSlopeWhole.spec_any ⟨_, rfl, OP.out.ls (by omega)⟩).mono ?_
  rintro e w5 ⟨v5, rfl, ⟨s5, rfl, o⟩, b⟩
  obtain ⟨sa, sc, rfl⟩ := o.shape
  replace B4 : Hid (Below w.heap.size w w5) := B4.out.trans (b.mono B4.out.size)
  replace X4 : Hid (Bx w5 w3.heap.size (.slice pa P.length pc)) := X4.out.kept b
  have h45 : w4.heap.size ≤ w5.heap.size := b.size
  replace OP : Hid (Own w5 w2.heap.size w3.heap.size (.slice pa P.length pc) P) := Own.kept OP.out b
  have LS : Hid (Ls w5 (.slice sa (fSlopeWhole.R P).length sc) (fSlopeWhole.R P)) := o
  clear o b
  have HNS : Hid (fSlopeWhole.ok P = false → fCommonWhole.ok P (fSlopeWhole.R P) = false) := slope_no
  obtain ⟨S0, hS⟩ : ∃ P, P = fSlopeWhole.R (W A) := ⟨_, rfl⟩
  have HSE : Hid (S0 = S A) := hS
  rw [← HPE.out] at hS
  rw [← hS] at LS HNS ⊢
  clear hS
  have c := X4.out.cell
  have d := (X4.out.alloc (.cells #[.slice sa S0.length sc] 29)).cell
  cases hk1 : fSlopeWhole.ok P with
  | false =>
    have HN : Hid (ans A = none) := good_no (by unfold good; rw [← HPE.out, ← HSE.out, HNS.out hk1]; simp)
    have HB : Hid (Below w.heap.size w (w5.alloc (.cells #[.slice sa S0.length sc] 29))) := B4.out.trans ((boxed w5 _ _).1.mono B4.out.size)
    clear hk1 HNS
    go_wp2_with fail
    go_ret2
    exact AnsQ.no HN.out HB.out
  | true =>
  clear hk1 HNS
  go_wp2_with fail
  obtain ⟨w6, hw⟩ : ∃ x, x = w5.alloc (.cells #[.slice sa S0.length sc] 29) := ⟨_, rfl⟩
  obtain ⟨b, XS, z6⟩ := boxed w5 (.slice sa S0.length sc) 29
  rw [← hw] at b XS z6 ⊢
  clear hw
  replace B4 : Hid (Below w.heap.size w w6) := B4.out.trans (b.mono B4.out.size)
  replace X4 : Hid (Bx w6 w3.heap.size (.slice pa P.length pc)) := X4.out.kept b
  replace OP : Hid (Own w6 w2.heap.size w3.heap.size (.slice pa P.length pc) P) := Own.kept OP.out b
  replace LS : Hid (Ls w6 (.slice sa S0.length sc) S0) := LS.out.below b
  clear b c d XS
  refine (fCommonWhole.spec_any ⟨_, rfl, OP.out.ls (by omega)⟩ ⟨_, rfl, LS.out⟩).mono ?_
  rintro e w7 ⟨v7, rfl, ⟨s7, rfl, o⟩, b⟩
  obtain ⟨ca, cc, rfl⟩ := o.shape
  replace B4 : Hid (Below w.heap.size w w7) := B4.out.trans (b.mono B4.out.size)
  replace X4 : Hid (Bx w7 w3.heap.size (.slice pa P.length pc)) := X4.out.kept b
  replace OP : Hid (Own w7 w2.heap.size w3.heap.size (.slice pa P.length pc) P) := Own.kept OP.out b
  have h67 : w6.heap.size ≤ w7.heap.size := b.size
  have OC : Hid (Own w7 w6.heap.size w7.heap.size (.slice ca (fCommonWhole.R P S0).length cc) (fCommonWhole.R P S0)) := o
  clear o b LS
  obtain ⟨C0, hC⟩ : ∃ x, x = fCommonWhole.R (W A) (S A) := ⟨_, rfl⟩
  have HCE : Hid (C0 = C A) := hC
  rw [← HPE.out, ← HSE.out] at hC
  rw [← hC] at OC ⊢
  clear hC
  have c := X4.out.cell
  have d := (X4.out.alloc (.cells #[.slice ca C0.length cc] 29)).cell
  cases hk1 : fCommonWhole.ok P S0 with
  | false =>
    have HN : Hid (ans A = none) := good_no (by unfold good; rw [← HPE.out, ← HSE.out, hk1]; simp)
    have HB : Hid (Below w.heap.size w (w7.alloc (.cells #[.slice ca C0.length cc] 29))) := B4.out.trans ((boxed w7 _ _).1.mono B4.out.size)
    clear hk1
    go_wp2_with fail
    go_ret2
    exact AnsQ.no HN.out HB.out
  | true =>
  have HK1 : Hid (fCommonWhole.ok P S0 = true) := hk1
  clear hk1
  go_wp2_with fail
  obtain ⟨w8, hw⟩ : ∃ x, x = w7.alloc (.cells #[.slice ca C0.length cc] 29) := ⟨_, rfl⟩
  obtain ⟨b, XC, z8⟩ := boxed w7 (.slice ca C0.length cc) 29
  rw [← hw] at b XC z8 ⊢
  clear hw
  replace B4 : Hid (Below w.heap.size w w8) := B4.out.trans (b.mono B4.out.size)
  replace OP : Hid (Own w8 w2.heap.size w3.heap.size (.slice pa P.length pc) P) := Own.kept OP.out b
  replace OC : Hid (Own w8 w6.heap.size w7.heap.size (.slice ca C0.length cc) C0) := Own.kept OC.out b
  have X8 : Hid (Bx w8 w7.heap.size (.slice ca C0.length cc)) := XC
  clear b c d XC X4
  refine (fExactQuotient.spec_any ⟨_, rfl, OP.out.ls (by omega)⟩ ⟨_, rfl, OC.out.ls (by omega)⟩).mono ?_
  rintro e w9 ⟨v9, rfl, ⟨s9, rfl, o⟩, b⟩
  obtain ⟨va, vc, rfl⟩ := o.shape
  replace B4 : Hid (Below w.heap.size w w9) := B4.out.trans (b.mono B4.out.size)
  replace X8 : Hid (Bx w9 w7.heap.size (.slice ca C0.length cc)) := X8.out.kept b
  replace OC : Hid (Own w9 w6.heap.size w7.heap.size (.slice ca C0.length cc) C0) := Own.kept OC.out b
  have h89 : w8.heap.size ≤ w9.heap.size := b.size
  have OV : Hid (Own w9 w8.heap.size w9.heap.size (.slice va (fExactQuotient.R P C0).length vc) (fExactQuotient.R P C0)) := o
  clear o b OP
  obtain ⟨V0, hV⟩ : ∃ x, x = fExactQuotient.R (W A) (C A) := ⟨_, rfl⟩
  have HVE : Hid (V0 = V A) := hV
  rw [← HPE.out, ← HCE.out] at hV
  rw [← hV] at OV ⊢
  clear hV
  have c := X8.out.cell
  have d := (X8.out.alloc (.cells #[.slice va V0.length vc] 29)).cell
  cases hk1 : fExactQuotient.ok P C0 with
  | false =>
    have HN : Hid (ans A = none) := good_no (by unfold good; rw [← HPE.out, ← HSE.out, ← HCE.out, hk1]; simp)
    have HB : Hid (Below w.heap.size w (w9.alloc (.cells #[.slice va V0.length vc] 29))) := B4.out.trans ((boxed w9 _ _).1.mono B4.out.size)
    clear hk1
    go_wp2_with fail
    go_ret2
    exact AnsQ.no HN.out HB.out
  | true =>
  have HG : Hid (good A = true) := by
    show good A = true
    unfold good
    rw [← HPE.out, ← HSE.out, ← HCE.out, hk1, HK1.out, HVV.out.1, decide_eq_true HVV.out.2]
    rfl
  clear hk1
  go_wp2_with fail
  obtain ⟨ws, hw⟩ : ∃ x, x = (w9.alloc (.cells #[.slice va V0.length vc] 29)).alloc (.cells #[] 29) := ⟨_, rfl⟩
  have b : Below w9.heap.size w9 ws := by rw [hw]; exact new2 _ _ _
  have zs : ws.heap.size = w9.heap.size + 1 + 1 := by rw [hw]; simp
  have XV : Hid (Bx ws w9.heap.size (.slice va V0.length vc)) := by rw [hw]; exact (Bx.new _ _ _).alloc _
  have ROW : Hid (ws.ownsRow w.heap.size 29 1 (.slice (some ⟨w9.heap.size + 1, 0, none⟩) 0 0) 0 []) := by
    refine ⟨rfl, .inr ⟨w9.heap.size + 1, 0, #[], rfl, by have := B4.out.size; omega, ?_, by simp, by decide, rfl, rfl⟩⟩
    rw [hw]
    have := heap_alloc_new (w9.alloc (.cells #[.slice va V0.length vc] 29)) (.cells #[] 29)
    simpa using this
  rw [← hw]
  clear hw c d
  replace B4 : Hid (Below w.heap.size w ws) := B4.out.trans (b.mono B4.out.size)
  replace X8 : Hid (Bx ws w7.heap.size (.slice ca C0.length cc)) := X8.out.kept b
  have hI := good_inv HG.out
  rw [← HVE.out, ← HCE.out] at hI
  have HI : Hid (Inv V0 C0 []) := hI
  have HQ : Hid (SQ V0 C0 [] = ans A) := by
    show _ = ans A
    unfold ans
    rw [if_pos HG.out, HVE.out, HCE.out]
  obtain ⟨tb, t1, t2, t3, OT⟩ := Own.at (Own.kept OV.out b) hI.1.ne
  obtain ⟨db, d1, d2, d3, OD⟩ := Own.at (Own.kept OC.out b) hI.2.1.ne
  have HOT : Hid (Own ws tb (tb + 1) (.slice va V0.length vc) V0) := OT
  have HOD : Hid (Own ws db (db + 1) (.slice ca C0.length cc) C0) := OD
  obtain ⟨G6, hG6⟩ : ∃ x, x = w7.heap.size := ⟨_, rfl⟩
  obtain ⟨G8, hG8⟩ : ∃ x, x = w9.heap.size := ⟨_, rfl⟩
  have HNE : Hid (tb ≠ G8 + 1 ∧ tb ≠ G6 ∧ tb ≠ G8 ∧ db ≠ G8 + 1 ∧ db ≠ G6 ∧ db ≠ G8) := by show _ ∧ _; omega
  have HGG : Hid (G6 ≠ G8 ∧ G8 + 1 ≠ G6 ∧ w.heap.size ≤ G6 ∧ w.heap.size ≤ G8) := by
    have := B4.out.size
    show _ ∧ _
    omega
  have HLT : Hid (tb < ws.heap.size ∧ db < ws.heap.size ∧ G8 + 1 < ws.heap.size) := by show _ ∧ _; omega
  rw [← hG6] at X8 ⊢
  rw [← hG8] at XV ROW ⊢
  have HIT : Hid (It w.heap.size G6 G8 (G8 + 1) ws [] [] (fun _ => 0)) := ⟨fun i j _ h => by simp at h, fun k L h => by simp at h⟩
  clear hG6 hG8 t1 t2 t3 d1 d2 d3 OT OD hI b OV OC zs z4 h45 z6 h67 z8 h89 hl1
  obtain ⟨i0, hi, hz0, hz1, hz2⟩ := info_parts info_w
  go_loopg [12] (mq V0 C0) (fun k l wr => ∃ (T D : List Int) (out : List (List Int)) (g cp : Nat) (xs : List Value) (p : Nat → Nat) (ta da : Option Addr) (tc dc tb db : Nat), l = .slice (some ⟨g, 0, none⟩) out.length cp ∧ mq T D = k ∧ Hid (Inv T D out) ∧ Hid (SQ T D out = ans A) ∧ Hid (Bx wr G8 (.slice ta T.length tc)) ∧ Hid (Bx wr G6 (.slice da D.length dc)) ∧ Hid (Own wr tb (tb + 1) (.slice ta T.length tc) T) ∧ Hid (Own wr db (db + 1) (.slice da D.length dc) D) ∧ Hid (tb ≠ g ∧ tb ≠ G6 ∧ tb ≠ G8 ∧ db ≠ g ∧ db ≠ G6 ∧ db ≠ G8) ∧ Hid (tb < wr.heap.size ∧ db < wr.heap.size ∧ g < wr.heap.size) ∧ Hid (g ≠ G6 ∧ g ≠ G8 ∧ w.heap.size ≤ g) ∧ Hid (wr.ownsRow w.heap.size 29 1 (.slice (some ⟨g, 0, none⟩) out.length cp) out.length xs) ∧ Hid (It w.heap.size G6 G8 g wr xs out p) ∧ Hid (Below w.heap.size w wr))
  case atStart => exact ⟨V0, C0, [], G8 + 1, 0, [], fun _ => 0, va, ca, vc, cc, tb, db, rfl, rfl, HI, HQ, XV, X8, HOT, HOD, HNE, HLT, ⟨HGG.out.2.1, by omega, by have := HGG.out; omega⟩, ROW, HIT, B4⟩
  case round =>
    clear HI HQ XV X8 HOT HOD HNE HLT ROW HIT B4
    obtain ⟨T, D, out, g, cp, xs, p, ta, da, tc, dc, tb, db, rfl, hk, hin, hsq, x8, x6, ot, od, hne, hlt, hgg, hrow, hit, hb⟩ := hrel
    have c8 := x8.out.cell
    have c6 := x6.out.cell
    by_cases hl : T.length ≤ 1
    · have HR : Hid (AnsQ (ans A) w (.returned (.tuple #[.slice (some ⟨g, 0, none⟩) out.length cp, .bool true])) wr) := by
        have h1 := hsq.out
        rw [SQ_stop hl] at h1
        rw [← h1]
        exact ⟨_, rfl, hit.out.ows (by have := hin.out.2.2.2.2; omega) hgg.out.2.2 hrow.out, hb.out⟩
      have q1 : ¬ 1 < (T.length : Int) := by omega
      have q2 : (T.length : Int) ≤ 1 := by omega
      clear hl
      go_wp2_with fail
      go_ret2
      exact HR.out
    · have q1 : 1 < (T.length : Int) := by omega
      have q2 : ¬ (T.length : Int) ≤ 1 := by omega
      have HL : Hid (¬ T.length ≤ 1) := hl
      clear hl
      go_wp2_with fail
      refine (fCommonWhole.spec_any ⟨_, rfl, ot.out.ls (by have := hlt.out; omega)⟩ ⟨_, rfl, od.out.ls (by have := hlt.out; omega)⟩).mono ?_
      rintro e u1 ⟨v1, rfl, ⟨s1, rfl, o⟩, b⟩
      obtain ⟨ya, yc, rfl⟩ := o.shape
      have bb1 : Hid (Below wr.heap.size wr u1) := b
      have OY : Hid (Own u1 wr.heap.size u1.heap.size (.slice ya (fCommonWhole.R T D).length yc) (fCommonWhole.R T D)) := o
      clear o b
      obtain ⟨Y, hY⟩ : ∃ x, x = fCommonWhole.R T D := ⟨_, rfl⟩
      have HY : Hid (Y = fCommonWhole.R T D) := hY
      rw [← hY] at OY ⊢
      clear hY
      obtain ⟨o1, ho1⟩ : ∃ x, x = fCommonWhole.ok T D := ⟨_, rfl⟩
      have HO1 : Hid (o1 = fCommonWhole.ok T D) := ho1
      rw [← ho1]
      clear ho1 c8 c6
      cases o1
      case false =>
        have HN : Hid (ans A = none) := by
          have h1 : ¬ go T D = true := fun h => by
            have h2 := (go_oks h).1
            rw [← HO1.out] at h2
            cases h2
          have h2 := SQ_no (out := out) hin.out.2.1 hin.out.2.2.1 HL.out h1
          rw [hsq.out] at h2
          exact h2
        have HB : Hid (Below w.heap.size w (u1.alloc (.cells #[.slice ya Y.length yc] 29))) := hb.out.trans ((bb1.out.trans ((new1 _ _).mono bb1.out.size)).mono hb.out.size)
        clear HO1
        go_wp2_with fail
        go_ret2
        exact AnsQ.no HN.out HB.out
      case true =>
      have c8 := (x8.out.kept bb1.out).cell
      have c6 := (x6.out.kept bb1.out).cell
      have d8 := ((x8.out.kept bb1.out).alloc (.cells #[.slice ya Y.length yc] 29)).cell
      have d6 := ((x6.out.kept bb1.out).alloc (.cells #[.slice ya Y.length yc] 29)).cell
      go_wp2_with fail
      obtain ⟨u2, hw⟩ : ∃ x, x = u1.alloc (.cells #[.slice ya Y.length yc] 29) := ⟨_, rfl⟩
      obtain ⟨b, XY, z2⟩ := boxed u1 (.slice ya Y.length yc) 29
      rw [← hw] at b XY z2 ⊢
      clear hw c8 c6 d8 d6
      have bb2 : Hid (Below wr.heap.size wr u2) := bb1.out.trans (b.mono bb1.out.size)
      replace OY : Hid (Own u2 wr.heap.size u1.heap.size (.slice ya Y.length yc) Y) := Own.kept OY.out b
      replace XY : Hid (Bx u2 u1.heap.size (.slice ya Y.length yc)) := XY
      clear b
      refine (fExactQuotient.spec_any ⟨_, rfl, (Own.kept ot.out bb2.out).ls (by have := hlt.out; have := bb2.out.size; omega)⟩ ⟨_, rfl, OY.out.ls (by omega)⟩).mono ?_
      rintro e u3 ⟨v3, rfl, ⟨s3, rfl, o⟩, b⟩
      obtain ⟨fa, fc, rfl⟩ := o.shape
      have bb3 : Hid (Below wr.heap.size wr u3) := bb2.out.trans (b.mono bb2.out.size)
      replace OY : Hid (Own u3 wr.heap.size u1.heap.size (.slice ya Y.length yc) Y) := Own.kept OY.out b
      replace XY : Hid (Bx u3 u1.heap.size (.slice ya Y.length yc)) := XY.out.kept b
      have h23 : u2.heap.size ≤ u3.heap.size := b.size
      have OF : Hid (Own u3 u2.heap.size u3.heap.size (.slice fa (fExactQuotient.R T Y).length fc) (fExactQuotient.R T Y)) := o
      clear o b
      obtain ⟨F, hF⟩ : ∃ x, x = fExactQuotient.R T Y := ⟨_, rfl⟩
      have HF : Hid (F = fExactQuotient.R T Y) := hF
      rw [← hF] at OF ⊢
      clear hF
      obtain ⟨o2, ho2⟩ : ∃ x, x = fExactQuotient.ok T Y := ⟨_, rfl⟩
      have HO2 : Hid (o2 = fExactQuotient.ok T Y) := ho2
      rw [← ho2]
      clear ho2
      have d6 := ((x6.out.kept bb3.out).alloc (.cells #[.slice fa F.length fc] 29)).cell
      have dY := (XY.out.alloc (.cells #[.slice fa F.length fc] 29)).cell
      go_wp2_with fail
      obtain ⟨u4, hw⟩ : ∃ x, x = u3.alloc (.cells #[.slice fa F.length fc] 29) := ⟨_, rfl⟩
      obtain ⟨b, XF, z4⟩ := boxed u3 (.slice fa F.length fc) 29
      rw [← hw] at b XF z4 ⊢
      clear hw d6 dY
      have bb4 : Hid (Below wr.heap.size wr u4) := bb3.out.trans (b.mono bb3.out.size)
      replace OY : Hid (Own u4 wr.heap.size u1.heap.size (.slice ya Y.length yc) Y) := Own.kept OY.out b
      replace OF : Hid (Own u4 u2.heap.size u3.heap.size (.slice fa F.length fc) F) := Own.kept OF.out b
      replace XY : Hid (Bx u4 u1.heap.size (.slice ya Y.length yc)) := XY.out.kept b
      replace XF : Hid (Bx u4 u3.heap.size (.slice fa F.length fc)) := XF
      clear b
      refine (fExactQuotient.spec_any ⟨_, rfl, (Own.kept od.out bb4.out).ls (by have := hlt.out; have := bb4.out.size; omega)⟩ ⟨_, rfl, OY.out.ls (by omega)⟩).mono ?_
      rintro e u5 ⟨v5, rfl, ⟨s5, rfl, o⟩, b⟩
      obtain ⟨ea, ec, rfl⟩ := o.shape
      have bb5 : Hid (Below wr.heap.size wr u5) := bb4.out.trans (b.mono bb4.out.size)
      replace OY : Hid (Own u5 wr.heap.size u1.heap.size (.slice ya Y.length yc) Y) := Own.kept OY.out b
      replace OF : Hid (Own u5 u2.heap.size u3.heap.size (.slice fa F.length fc) F) := Own.kept OF.out b
      replace XY : Hid (Bx u5 u1.heap.size (.slice ya Y.length yc)) := XY.out.kept b
      replace XF : Hid (Bx u5 u3.heap.size (.slice fa F.length fc)) := XF.out.kept b
      have h45 : u4.heap.size ≤ u5.heap.size := b.size
      have OE : Hid (Own u5 u4.heap.size u5.heap.size (.slice ea (fExactQuotient.R D Y).length ec) (fExactQuotient.R D Y)) := o
      clear o b
      obtain ⟨E, hE⟩ : ∃ x, x = fExactQuotient.R D Y := ⟨_, rfl⟩
      have HE : Hid (E = fExactQuotient.R D Y) := hE
      rw [← hE] at OE ⊢
      clear hE
      obtain ⟨o3, ho3⟩ : ∃ x, x = fExactQuotient.ok D Y := ⟨_, rfl⟩
      have HO3 : Hid (o3 = fExactQuotient.ok D Y) := ho3
      rw [← ho3]
      clear ho3
      by_cases hall : true = true ∧ o2 = true ∧ o3 = true
      case neg =>
        have HN : Hid (ans A = none) := by
          have h1 : ¬ go T D = true := fun h => by
            have h2 := go_oks h
            rw [← HY.out, ← HO1.out, ← HO2.out, ← HO3.out] at h2
            exact hall h2
          have h2 := SQ_no (out := out) hin.out.2.1 hin.out.2.2.1 HL.out h1
          rw [hsq.out] at h2
          exact h2
        have HB : Hid (Below w.heap.size w (u5.alloc (.cells #[.slice ea E.length ec] 29))) := hb.out.trans ((bb5.out.trans ((new1 _ _).mono bb5.out.size)).mono hb.out.size)
        clear HO1 HO2 HO3
        cases o2 <;> cases o3 <;> first
          | exact absurd ⟨rfl, rfl, rfl⟩ hall
          | (clear hall; go_wp2_with fail; go_ret2; exact AnsQ.no HN.out HB.out)
      case pos =>
        obtain ⟨h1, h2, h3⟩ := hall
        have HGO : Hid (go T D = true) := by
          show go T D = true
          unfold go
          rw [← HY.out, ← HO1.out, ← HO2.out, ← HO3.out, h2, h3]
          rfl
        clear HO1 HO2 HO3
        clear h1
        subst h2 h3
        have dF := (XF.out.alloc (.cells #[.slice ea E.length ec] 29)).cell
        have BE : Hid (Below u5.heap.size u5 (u5.alloc (.cells #[.slice ea E.length ec] 29))) := new1 _ _
        have HR7 : Hid (((u5.alloc (.cells #[.slice ea E.length ec] 29)).alloc (.cells #[.slice fa F.length fc] 29)).ownsRow w.heap.size 29 1 (.slice (some ⟨g, 0, none⟩) out.length cp) out.length xs) := row_below hrow.out (bb5.out.trans ((new2 _ _ _).mono bb5.out.size))
        have H17 : Hid (out.length ≤ 17) := by have := hin.out.2.2.2.2; show _ ≤ _; omega
        have HZ7 : Hid (w.heap.size ≤ u5.heap.size) := by have := bb5.out.size; have := hb.out.size; show _ ≤ _; omega
        clear BE
        go_wp2_with (first
          | (at_builtin
             refine wpList_append_own_at _ rfl (.tmp 88) (.tmp 90) 26 rfl w.heap.size 29 i0 (.agg #[.slice none 0 0]) 1 24 Try.underlying26 hi hz0 hz1 hz2 rfl (by decide) _ out.length xs rfl HR7.out ⟨u5.heap.size + 1, 0, none⟩ 1 1 [.slice fa F.length fc] rfl rfl (by have := cell_one_new (u5.alloc (.cells #[.slice ea E.length ec] 29)) (.slice fa F.length fc) 29; simpa using this) (by intro u hu; rw [List.mem_singleton] at hu; subst hu; rfl) (by have := H17.out; unfold maxLen; omega) (by have := H17.out; omega) (by have := HZ7.out; simp; omega) ?_
             intro v' w3 hown' hgrow _ hblk
             obtain ⟨g', cap', rfl⟩ := own_shape hown' (by omega)
             have HGR : Hid (((u5.alloc (.cells #[.slice ea E.length ec] 29)).alloc (.cells #[.slice fa F.length fc] 29)).grownBy w3 (some g)) := hgrow
             have HBK : Hid (some g' = some g ∨ some g' = some ((u5.alloc (.cells #[.slice ea E.length ec] 29)).alloc (.cells #[.slice fa F.length fc] 29)).heap.size) := hblk
             have HRW : Hid (w3.ownsRow w.heap.size 29 1 (.slice (some ⟨g', 0, none⟩) (out.length + 1) cap') (out.length + 1) (xs ++ [.slice fa F.length fc])) := hown'
             clear hgrow hblk hown'
             obtain ⟨u7, h7⟩ : ∃ x, x = (u5.alloc (.cells #[.slice ea E.length ec] 29)).alloc (.cells #[.slice fa F.length fc] 29) := ⟨_, rfl⟩
             have XE : Hid (Bx u7 u5.heap.size (.slice ea E.length ec)) := by rw [h7]; exact (Bx.new _ _ _).alloc _
             have b57 : Hid (Below u5.heap.size u5 u7) := by rw [h7]; exact new2 _ _ _
             have z7 : u7.heap.size = u5.heap.size + 1 + 1 := by rw [h7]; simp
             rw [← h7] at HGR HBK
             clear h7 HR7
             have hNE : G8 ≠ g ∧ G6 ≠ g ∧ u1.heap.size ≠ g ∧ u5.heap.size ≠ g := by have := hgg.out; have := hlt.out; have := bb1.out.size; have := bb5.out.size; omega
             have Y8 : Hid (Bx w3 G8 (.slice ta T.length tc)) := Bx.grown ((x8.out.kept bb5.out).kept b57.out) HGR.out hNE.1
             have Y6 : Hid (Bx w3 G6 (.slice da D.length dc)) := Bx.grown ((x6.out.kept bb5.out).kept b57.out) HGR.out hNE.2.1
             have YY : Hid (Bx w3 u1.heap.size (.slice ya Y.length yc)) := Bx.grown (XY.out.kept b57.out) HGR.out hNE.2.2.1
             have YE : Hid (Bx w3 u5.heap.size (.slice ea E.length ec)) := Bx.grown XE.out HGR.out hNE.2.2.2
             clear dF hNE
             have k1 := Y8.out.cell
             have k2 := Y6.out.cell
             have k3 := YY.out.cell
             have k4 := YE.out.cell
             have k5 := Y8.out.free
             have k6 := Y6.out.free
             have hNE : G6 ≠ G8 ∧ u1.heap.size ≠ G8 ∧ u5.heap.size ≠ G8 ∧ u1.heap.size ≠ G6 ∧ u5.heap.size ≠ G6 := by
               have := HGG.out.1
               have := x8.out.lt
               have := x6.out.lt
               have := bb1.out.size
               have := bb5.out.size
               omega
             have m1 := (Y6.out.other (j := 0) hNE.1 (.slice ya Y.length yc)).cell
             have m2 := (Y6.out.other (j := 0) hNE.1 (.slice ya Y.length yc)).free
             have m3 := (Y8.out.other (j := 0) (Ne.symm hNE.1) (.slice ea E.length ec)).cell
             have m4 := (Y8.out.other (j := 0) (Ne.symm hNE.1) (.slice ea E.length ec)).free
             have m5 := (YE.out.other (j := 0) hNE.2.2.1 (.slice ya Y.length yc)).cell
             have m6 := (YY.out.other (j := 0) hNE.2.2.2.1 (.slice ea E.length ec)).cell
             clear hNE))
        obtain ⟨wf, hwf⟩ : ∃ x, x = (w3.setCell ⟨G8, 0, none⟩ (.slice ya Y.length yc)).setCell ⟨G6, 0, none⟩ (.slice ea E.length ec) := ⟨_, rfl⟩
        have zf : wf.heap.size = w3.heap.size := by rw [hwf]; show (World.setCell _ _ _).heap.size = _; rw [set_size, set_size]
        have hsame : ∀ k, k ≠ G6 → k ≠ G8 → wf.heap[k]? = w3.heap[k]? := fun k h1 h2 => by
          rw [hwf]
          show (World.setCell _ _ _).heap[k]? = _
          rw [Below.heap_setCell _ _ _ _ h1, Below.heap_setCell _ _ _ _ h2]
        have F8 : Hid (Bx wf G8 (.slice ya Y.length yc)) := by
          rw [hwf]
          have := (Y8.out.set (.slice ya Y.length yc)).other (j := 0) (Ne.symm HGG.out.1) (.slice ea E.length ec)
          exact this
        have F6 : Hid (Bx wf G6 (.slice ea E.length ec)) := by
          rw [hwf]
          have := (Y6.out.other (j := 0) HGG.out.1 (.slice ya Y.length yc)).set (.slice ea E.length ec)
          exact this
        have hB3 : Below w.heap.size w w3 := (hb.out.trans ((bb5.out.trans (b57.out.mono bb5.out.size)).mono hb.out.size)).grown HGR.out (by have := HZ7.out; omega) (by intro j hj; injection hj with hj; have := hgg.out; omega)
        have BF : Hid (Below w.heap.size w wf) := by
          rw [hwf]
          exact ((hB3.setCell (p := ⟨G8, 0, none⟩) HGG.out.2.2.2 _).setCell (p := ⟨G6, 0, none⟩) HGG.out.2.2.1 _)
        rw [← hwf]
        clear hwf
        have hoks := go_oks HGO.out
        have hval := hin.out.next HL.out HGO.out
        have hqq := SQ_go (out := out) hin.out.2.1 hin.out.2.2.1 HL.out HGO.out
        have hml := mq_less hin.out.2.2.1 HL.out HGO.out
        rw [← HY.out, ← HF.out, ← HE.out] at hval hqq
        rw [← HY.out, ← HE.out] at hml
        have hFv : Val F := hval.2.2.2.1 F (by simp)
        obtain ⟨yb, y1, y2, y3, PY⟩ := Own.at OY.out hval.1.ne
        obtain ⟨fb, f1, f2, f3, PF⟩ := Own.at OF.out hFv.ne
        obtain ⟨eb, e1, e2, e3, PE⟩ := Own.at OE.out hval.2.1.ne
        have g1 := hgg.out
        have g2 := hlt.out
        have g3 := bb1.out.size
        have g4 := bb5.out.size
        have g5 := b57.out.size
        have g6 := HGR.out.size
        have g7 := x8.out.lt
        have g8 := x6.out.lt
        have hgb : g' = g ∨ g' = u7.heap.size := by
          rcases HBK.out with h | h
          · exact Or.inl (by injection h)
          · exact Or.inr (by injection h)
        have hg3 : g' < w3.heap.size := own_lt HRW.out
        have QY : Hid (Own wf yb (yb + 1) (.slice ya Y.length yc) Y) := Own.stay1 (Own.grown (Own.kept PY b57.out) (by omega) HGR.out (by omega)) (hsame _ (by omega) (by omega))
        have QF : Hid (Own w3 fb (fb + 1) (.slice fa F.length fc) F) := Own.grown (Own.kept PF b57.out) (by omega) HGR.out (by omega)
        have QE : Hid (Own wf eb (eb + 1) (.slice ea E.length ec) E) := Own.stay1 (Own.grown (Own.kept PE b57.out) (by omega) HGR.out (by omega)) (hsame _ (by omega) (by omega))
        have I3 : It w.heap.size G6 G8 g' w3 xs out p := hit.out.stay (by omega) (fun k h1 h2 _ _ => by
          rw [HGR.out.block k (by omega) (fun e => h2 (by injection e)), b57.out.block k (by omega), bb5.out.block k h1]) (by omega)
        have IF : It w.heap.size G6 G8 g' w3 (xs ++ [.slice fa F.length fc]) (out ++ [F]) (fun k => if k < out.length then p k else fb) :=
          I3.add (by have := hrow.out.1; omega) (m := wr.heap.size) (fun k L hk => (hit.out.2 k L hk).1.2.1) ⟨by omega, by omega, by omega, by omega, by omega, by omega⟩ QF.out
        have IW : Hid (It w.heap.size G6 G8 g' wf (xs ++ [.slice fa F.length fc]) (out ++ [F]) (fun k => if k < out.length then p k else fb)) :=
          IF.stay (by omega) (fun k _ _ h1 h2 => hsame k h1 h2) (Or.inl rfl)
        have RF : Hid (wf.ownsRow w.heap.size 29 1 (.slice (some ⟨g', 0, none⟩) (out ++ [F]).length cap') (out ++ [F]).length (xs ++ [.slice fa F.length fc])) := by
          have h := HRW.out
          rw [List.length_append, List.length_singleton]
          refine ⟨h.1, ?_⟩
          rcases h.2 with h0 | ⟨g2, cap2, cur, hv, h1, h2, h3⟩
          · exact .inl h0
          · have hgg2 : g' = g2 := by
              simp only [Value.slice.injEq, Option.some.injEq, Addr.mk.injEq, and_true] at hv
              exact hv.1
            exact .inr ⟨g2, cap2, cur, hv, h1, by rw [hsame g2 (by omega) (by omega)]; exact h2, h3⟩
        have N1 : Hid (yb ≠ g' ∧ yb ≠ G6 ∧ yb ≠ G8 ∧ eb ≠ g' ∧ eb ≠ G6 ∧ eb ≠ G8) := by show _ ∧ _; omega
        have N2 : Hid (yb < wf.heap.size ∧ eb < wf.heap.size ∧ g' < wf.heap.size) := by show _ ∧ _; omega
        have N3 : Hid (g' ≠ G6 ∧ g' ≠ G8 ∧ w.heap.size ≤ g') := by show _ ∧ _; omega
        have NI : Hid (Inv Y E (out ++ [F])) := hval
        have NQ : Hid (SQ Y E (out ++ [F]) = ans A) := hqq.symm.trans hsq.out
        have NM : Hid (mq Y E < mq T D) := hml
        have NL : out.length + 1 = (out ++ [F]).length := by simp
        clear hoks hval hqq hml hFv PY PF PE y1 y2 y3 f1 f2 f3 e1 e2 e3 g1 g2 g3 g4 g5 g6 g7 g8 hgb hg3 I3 IF zf hsame hB3 k1 k2 k3 k4 k5 k6 m1 m2 m3 m4 m5 m6
        rw [NL]
        clear NL
        go_roundg (mq Y E)
        case rel => exact ⟨Y, E, out ++ [F], g', cap', xs ++ [.slice fa F.length fc], _, ya, ea, yc, ec, yb, eb, rfl, rfl, NI, NQ, F8, F6, QY, QE, N1, N2, N3, RF, IW, BF⟩
        case measure => have := NM.out; omega
end Go.Proofs.Ytbbdhbamooaloaa.fSquareFree
