/- Lifting two factors: the program's greatest common one of two with their times. -/
import Derived.Test.YtfhcfeafohcjpaaLiV
namespace Go.Proofs.Ytfhcfeafohcjpaa.wh
open Go.RowKit Go.Pl

/-- a list that stays when the n boxes from g on are written -/
def St (g n : Nat) (w : World) (v : Value) (L : List Int) : Prop := Rd w g v L ∨ Own w (g + n) w.heap.size v L
theorem St.move {g n : Nat} {w W : World} {v : Value} {L : List Int} (h : St g n w v L) (hb : Below g w W) (hk : ∀ k, g + n ≤ k → k < w.heap.size → W.heap[k]? = w.heap[k]?) (hs : w.heap.size ≤ W.heap.size) : St g n W v L := by
  rcases h with h | h
  · exact .inl (h.below hb (Nat.le_refl _))
  · exact .inr ((h.stay fun k h1 _ h3 => hk k h1 h3).wide (Nat.le_refl _) hs)
theorem St.below {g n : Nat} {w W : World} {v : Value} {L : List Int} (h : St g n w v L) (hb : Below w.heap.size w W) (hg : g ≤ w.heap.size) : St g n W v L :=
  h.move (hb.mono hg) (fun k _ h3 => hb.block k h3) hb.size
theorem St.ls {g n : Nat} {w : World} {v : Value} {L : List Int} (h : St g n w v L) (hg : g ≤ w.heap.size) : Ls w v L := by
  rcases h with h | h
  · exact h.ls hg
  · exact h.ls (Nat.le_refl _)
theorem wf_below (w : World) (g : Nat) (y v r t : Value) : Below g w (((((w.setCell ⟨g, 0, none⟩ y).setCell ⟨g, 1, none⟩ v).setCell ⟨g + 1, 0, none⟩ r).setCell ⟨g + 1, 1, none⟩ t).drew) :=
  (((((Below.refl _ _).setCell (by show _ ≤ _; exact Nat.le_refl _) _).setCell (by show _ ≤ _; exact Nat.le_refl _) _).setCell (by show _ ≤ _; exact Nat.le_succ _) _).setCell (by show _ ≤ _; exact Nat.le_succ _) _).drew
theorem wf_keep (w : World) (g : Nat) (y v r t : Value) (k : Nat) (h1 : k ≠ g) (h2 : k ≠ g + 1) : (((((w.setCell ⟨g, 0, none⟩ y).setCell ⟨g, 1, none⟩ v).setCell ⟨g + 1, 0, none⟩ r).setCell ⟨g + 1, 1, none⟩ t).drew).heap[k]? = w.heap[k]? := by
  show ((((w.setCell ⟨g, 0, none⟩ y).setCell ⟨g, 1, none⟩ v).setCell ⟨g + 1, 0, none⟩ r).setCell ⟨g + 1, 1, none⟩ t).heap[k]? = _
  rw [Below.heap_setCell _ _ _ _ (by show k ≠ g + 1; exact h2), Below.heap_setCell _ _ _ _ (by show k ≠ g + 1; exact h2), Below.heap_setCell _ _ _ _ (by show k ≠ g; exact h1), Below.heap_setCell _ _ _ _ (by show k ≠ g; exact h1)]
theorem wf_size (w : World) (g : Nat) (y v r t : Value) : w.heap.size ≤ (((((w.setCell ⟨g, 0, none⟩ y).setCell ⟨g, 1, none⟩ v).setCell ⟨g + 1, 0, none⟩ r).setCell ⟨g + 1, 1, none⟩ t).drew).heap.size := (Below.size (wf_below w g y v r t))
theorem wf_st {w : World} {g : Nat} {x : Value} {L : List Int} (h : St g 3 w x L) (y v r t : Value) : St g 3 (((((w.setCell ⟨g, 0, none⟩ y).setCell ⟨g, 1, none⟩ v).setCell ⟨g + 1, 0, none⟩ r).setCell ⟨g + 1, 1, none⟩ t).drew) x L :=
  h.move (wf_below w g y v r t) (fun k h1 _ => wf_keep w g y v r t k (by omega) (by omega)) (wf_size w g y v r t)
theorem wf_0 {w : World} {g : Nat} {a b : Value} (h : Bx2 w g a b) (y v r t : Value) : Bx2 (((((w.setCell ⟨g, 0, none⟩ y).setCell ⟨g, 1, none⟩ v).setCell ⟨g + 1, 0, none⟩ r).setCell ⟨g + 1, 1, none⟩ t).drew) g y v := ((h.set2 y v).other (by omega) r).other (by omega) t
theorem wf_1 {w : World} {g : Nat} {a b : Value} (h : Bx2 w (g + 1) a b) (y v r t : Value) : Bx2 (((((w.setCell ⟨g, 0, none⟩ y).setCell ⟨g, 1, none⟩ v).setCell ⟨g + 1, 0, none⟩ r).setCell ⟨g + 1, 1, none⟩ t).drew) (g + 1) r t := ((h.other (by omega) y).other (by omega) v).set2 r t
theorem wf_2 {w : World} {g : Nat} {a b : Value} (h : Bx2 w (g + 1 + 1) a b) (y v r t : Value) : Bx2 (((((w.setCell ⟨g, 0, none⟩ y).setCell ⟨g, 1, none⟩ v).setCell ⟨g + 1, 0, none⟩ r).setCell ⟨g + 1, 1, none⟩ t).drew) (g + 1 + 1) a b := (((h.other (by omega) y).other (by omega) v).other (by omega) r).other (by omega) t
theorem ivm_stop (p : Int) (k : Nat) (A tA tB : List Int) : ivm p k A tA [0] tB = (A, tA) := by
  cases k with
  | zero => rfl
  | succ k => rw [ivm, if_pos rfl]
theorem ivm_step {p : Int} {k : Nat} {A tA B tB : List Int} (h : B ≠ [0]) : ivm p (k + 1) A tA B tB = ivm p k B tB (dr A B p) (sbt tA (om (dq A B p) tB p) p) := by rw [ivm, if_neg h]

set_option maxRecDepth 100000 in
set_option maxHeartbeats 8000000 in
theorem gm_any {ao so bo qo : Option Addr} {ac sc bc qc : Nat} {A S B Q C T : List Int} {p : Int} {bp : Nat} {w : World} (hbp : w.cell? ⟨bp, 0, none⟩ = some (.int .i64 p)) (hbl : bp < w.heap.size) (hp : isP p = true)
    (ha : Ls w (.slice ao A.length ac) A) (hs : Ls w (.slice so S.length sc) S) (hb : Ls w (.slice bo B.length bc) B) (hq : Ls w (.slice qo Q.length qc) Q) (ht : Tk p 20 A S B Q) (hR : ivm p (mu B) A S B Q = (C, T)) :
    Calls Try.prog 91 #[.agg #[.slice ao A.length ac, .slice so S.length sc], .agg #[.slice bo B.length bc, .slice qo Q.length qc], .func (.func 89) #[] #[], .func (.func 90) #[] #[.pointer (some ⟨bp, 0, none⟩)]] w
      fun e w' => ∃ ra rc ta tc, e = .returned (.tuple #[.agg #[.slice ra C.length rc, .slice ta T.length tc], .bool true]) ∧ Ls w' (.slice ra C.length rc) C ∧ Ls w' (.slice ta T.length tc) T ∧ Below w.heap.size w w' := by
  obtain ⟨w3, hw3⟩ : ∃ x, x = ((w.alloc (.cells #[.slice ao A.length ac, .slice so S.length sc] 97)).alloc (.cells #[.slice bo B.length bc, .slice qo Q.length qc] 97)).alloc (.cells #[.slice none 0 0, .slice none 0 0] 97) := ⟨_, rfl⟩
  have HW3 : Hid (w3 = ((w.alloc (.cells #[.slice ao A.length ac, .slice so S.length sc] 97)).alloc (.cells #[.slice bo B.length bc, .slice qo Q.length qc] 97)).alloc (.cells #[.slice none 0 0, .slice none 0 0] 97)) := hw3
  have B3 : Hid (Below w.heap.size w w3) := by
    show Below _ _ _
    rw [hw3]
    exact (((Below.refl _ _).alloc (Nat.le_refl _) _).alloc (by simp only [World.size_alloc]; omega) _).alloc (by simp only [World.size_alloc]; omega) _
  have X1 : Hid (Bx2 w3 w.heap.size (.slice ao A.length ac) (.slice so S.length sc)) := by
    show Bx2 _ _ _ _
    rw [hw3]
    exact ((Bx2.new _ _ _ _).alloc _).alloc _
  have X2 : Hid (Bx2 w3 (w.heap.size + 1) (.slice bo B.length bc) (.slice qo Q.length qc)) := by
    show Bx2 _ _ _ _
    rw [hw3]
    have := (Bx2.new (w.alloc (.cells #[.slice ao A.length ac, .slice so S.length sc] 97)) (.slice bo B.length bc) (.slice qo Q.length qc) 97)
    rw [World.size_alloc] at this
    exact this.alloc _
  have X3 : Hid (Bx2 w3 (w.heap.size + 1 + 1) (.slice none 0 0) (.slice none 0 0)) := by
    show Bx2 _ _ _ _
    rw [hw3]
    have := (Bx2.new ((w.alloc (.cells #[.slice ao A.length ac, .slice so S.length sc] 97)).alloc (.cells #[.slice bo B.length bc, .slice qo Q.length qc] 97)) (.slice none 0 0) (.slice none 0 0) 97)
    simp only [World.size_alloc] at this
    exact this
  have HP3 : Hid (∀ W, Below w.heap.size w W → W.cell? ⟨bp, 0, none⟩ = some (.int .i64 p)) := fun W h => (h.cell (p := ⟨bp, 0, none⟩) hbl).trans hbp
  have HBL : Hid (bp < w.heap.size ∧ isP p = true) := ⟨hbl, hp⟩
  have SA : Hid (St w.heap.size 3 w3 (.slice ao A.length ac) A ∧ St w.heap.size 3 w3 (.slice so S.length sc) S ∧ St w.heap.size 3 w3 (.slice bo B.length bc) B ∧ St w.heap.size 3 w3 (.slice qo Q.length qc) Q) :=
    ⟨.inl (Rd.below ha B3.out (Nat.le_refl _)), .inl (Rd.below hs B3.out (Nat.le_refl _)), .inl (Rd.below hb B3.out (Nat.le_refl _)), .inl (Rd.below hq B3.out (Nat.le_refl _))⟩
  have HTK : Hid (Tk p 20 A S B Q) := ht
  obtain ⟨R, hRR⟩ : ∃ R, R = ivm p (mu B) A S B Q := ⟨_, rfl⟩
  have HR0 : Hid (ivm p (mu B) A S B Q = R) := hRR.symm
  have HRE : Hid (R = (C, T)) := by show _ = _; rw [hRR, hR]
  clear ha hs hb hq ht hp hbl hbp hw3 hR hRR
  go_enter Try.func91, Try.ntmps91
  go_wp2_with fail
  rw [← HW3.out]
  go_loopg [15] (mu B) (fun k t wr => ∃ (X U Y V : List Int) (xo uo yo vo : Option Addr) (xc uc yc vc : Nat), mu Y ≤ k ∧ Hid (ivm p k X U Y V = R) ∧ Hid (Tk p 20 X U Y V) ∧ Hid (St w.heap.size 3 wr (.slice xo X.length xc) X ∧ St w.heap.size 3 wr (.slice uo U.length uc) U ∧ St w.heap.size 3 wr (.slice yo Y.length yc) Y ∧ St w.heap.size 3 wr (.slice vo V.length vc) V) ∧ Hid (Bx2 wr w.heap.size (.slice xo X.length xc) (.slice uo U.length uc)) ∧ Hid (Bx2 wr (w.heap.size + 1) (.slice yo Y.length yc) (.slice vo V.length vc)) ∧ Hid (Bx2 wr (w.heap.size + 1 + 1) (.slice none 0 0) (.slice none 0 0)) ∧ Hid (Below w.heap.size w wr))
  case atStart => exact ⟨A, S, B, Q, ao, so, bo, qo, ac, sc, bc, qc, Nat.le_refl _, HR0, HTK, SA, X1, X2, X3, B3⟩
  case round =>
    obtain ⟨X, U, Y, V, xo, uo, yo, vo, xc, uc, yc, vc, hk, hiv, htk, hst, hx1, hx2, hx3, hb⟩ := hrel
    clear HW3 X1 X2 X3 SA B3 HTK HR0
    have HNE : Hid (Y ≠ []) := ne_of_len htk.out.2.1.1.1
    have HYL : Hid (Ls wr (.slice yo Y.length yc) Y) := hst.out.2.2.1.ls hb.out.size
    have c20 := hx2.out.c0
    have c21 := hx2.out.c1
    by_cases hY : Y = [0]
    · have HZ : Hid (decide (at' Y (Y.length - 1) = 0) = true) := by show _ = true; rw [hY]; rfl
      have HR : Hid ((X, U) = (C, T)) := by
        have := hiv.out
        rw [hY, ivm_stop, HRE.out] at this
        exact this
      have h3 := HR.out
      simp only [Prod.mk.injEq] at h3
      obtain ⟨rfl, rfl⟩ := h3
      clear hY hiv HR
      go_wp2_with fail
      refine (mz_any HYL.out HNE.out).mono ?_
      rintro e w4 ⟨rfl, b⟩
      rw [HZ.out]
      have hc10 := (hx1.out.kept b).c0
      have hc11 := (hx1.out.kept b).c1
      have hc30 := (hx3.out.kept b).c0
      have hc31 := (hx3.out.kept b).c1
      have f30 := (hx3.out.kept b).f 0
      have f31 := (hx3.out.kept b).f 1
      have X4 := (hx3.out.kept b).set2 (.slice xo X.length xc) (.slice uo U.length uc)
      have xf0 := X4.c0
      have xf1 := X4.c1
      have hz := b.size
      have hh := hb.out.size
      have hl3 := hx3.out.lt
      have HBF : Hid (Below w.heap.size w ((w4.setCell ⟨w.heap.size + 1 + 1, 0, none⟩ (.slice xo X.length xc)).setCell ⟨w.heap.size + 1 + 1, 1, none⟩ (.slice uo U.length uc))) := ((hb.out.trans (b.mono hh)).setCell (by show _ ≤ _; simp; omega) _).setCell (by show _ ≤ _; simp; omega) _
      have hmv : ∀ (v : Value) (L : List Int), St w.heap.size 3 wr v L → Ls ((w4.setCell ⟨w.heap.size + 1 + 1, 0, none⟩ (.slice xo X.length xc)).setCell ⟨w.heap.size + 1 + 1, 1, none⟩ (.slice uo U.length uc)) v L := by
        intro v L h
        refine ((h.below b hh).move (((Below.refl _ _).setCell (by show _ ≤ _; simp; omega) _).setCell (by show _ ≤ _; simp; omega) _) (fun k h1 h2 => ?_) (by simp [World.setCell])).ls (by simp [World.setCell]; omega)
        rw [Below.heap_setCell _ _ _ _ (by show k ≠ _; simp only []; omega), Below.heap_setCell _ _ _ _ (by show k ≠ _; simp only []; omega)]
      have HLX : Hid (Ls ((w4.setCell ⟨w.heap.size + 1 + 1, 0, none⟩ (.slice xo X.length xc)).setCell ⟨w.heap.size + 1 + 1, 1, none⟩ (.slice uo U.length uc)) (.slice xo X.length xc) X) := hmv _ _ hst.out.1
      have HLU : Hid (Ls ((w4.setCell ⟨w.heap.size + 1 + 1, 0, none⟩ (.slice xo X.length xc)).setCell ⟨w.heap.size + 1 + 1, 1, none⟩ (.slice uo U.length uc)) (.slice uo U.length uc) U) := hmv _ _ hst.out.2.1
      clear b c20 c21 hmv X4 hz hh hl3
      go_wp2_with fail
      exact bodyPost_ret (v := .tuple #[.agg #[.slice xo X.length xc, .slice uo U.length uc], .bool true]) (by simp [results, Try.results91, xf0, xf1, go_sem]) rfl ⟨_, _, _, _, rfl, HLX.out, HLU.out, HBF.out⟩
    · have HZ : Hid (decide (at' Y (Y.length - 1) = 0) = false) := by
        show _ = false
        rw [zd_eq htk.out.2.1.2.2 htk.out.2.1.1.1]
        exact decide_eq_false hY
      have HYN : Hid (Y ≠ [0]) := hY
      have hm := mu_step HBL.out.2 htk.out.1.1 htk.out.2.1.1 htk.out.2.1.2.2 hY
      obtain ⟨j, rfl⟩ : ∃ j, gk = j + 1 := ⟨gk - 1, by omega⟩
      have HCS : Hid (ivm p j Y V (dr X Y p) (sbt U (om (dq X Y p) V p) p) = R) := by show _ = R; rw [← hiv.out, ivm_step hY]
      have HGN : Hid (Tk p 20 Y V (dr X Y p) (sbt U (om (dq X Y p) V p) p)) := (htk.out.step HBL.out.2 hY).1
      have hmj : mu (dr X Y p) ≤ j := by omega
      clear hY hiv hm
      go_wp2_with fail
      refine (mz_any HYL.out HNE.out).mono ?_
      rintro e w4 ⟨rfl, b⟩
      rw [HZ.out]
      have hh := hb.out.size
      have hc10 := (hx1.out.kept b).c0
      have hc11 := (hx1.out.kept b).c1
      have hc20 := (hx2.out.kept b).c0
      have hc21 := (hx2.out.kept b).c1
      have HB4 : Hid (Below wr.heap.size wr w4) := b
      have HB4w : Hid (Below w.heap.size w w4) := hb.out.trans (b.mono hh)
      have HMR := mr_any (HP3.out w4 HB4w.out) (by have := HBL.out.1; have := b.size; omega) HBL.out.2 ((hst.out.1.below b hh).ls (Nat.le_trans hh b.size)) ((hst.out.2.1.below b hh).ls (Nat.le_trans hh b.size)) ((hst.out.2.2.1.below b hh).ls (Nat.le_trans hh b.size)) ((hst.out.2.2.2.below b hh).ls (Nat.le_trans hh b.size)) htk.out HYN.out
      clear b c20 c21
      go_wp2_with fail
      refine HMR.mono ?_
      rintro e w5 ⟨ra, rc, ta, tc, rfl, or, ot, b⟩
      obtain ⟨w6, hw6⟩ : ∃ x, x = w5.alloc (.cells #[.slice ra (dr X Y p).length rc, .slice ta (sbt U (om (dq X Y p) V p) p).length tc] 97) := ⟨_, rfl⟩
      have HW6 : Hid (w6 = w5.alloc (.cells #[.slice ra (dr X Y p).length rc, .slice ta (sbt U (om (dq X Y p) V p) p).length tc] 97)) := hw6
      have b6 : Below w5.heap.size w5 w6 := by rw [hw6]; exact new1 _ _
      have N6 : Bx2 w6 w5.heap.size (.slice ra (dr X Y p).length rc) (.slice ta (sbt U (om (dq X Y p) V p) p).length tc) := by rw [hw6]; exact Bx2.new _ _ _ _
      have B46 : Hid (Below w4.heap.size w4 w6) := b.trans (b6.mono b.size)
      have B6 : Hid (Below wr.heap.size wr w6) := HB4.out.trans (B46.out.mono HB4.out.size)
      have OR : Hid (Own w6 w4.heap.size w6.heap.size (.slice ra (dr X Y p).length rc) (dr X Y p)) := (or.below b6 (Nat.le_refl _)).wide (Nat.le_refl _) b6.size
      have OT : Hid (Own w6 w4.heap.size w6.heap.size (.slice ta (sbt U (om (dq X Y p) V p) p).length tc) (sbt U (om (dq X Y p) V p) p)) := (ot.below b6 (Nat.le_refl _)).wide (Nat.le_refl _) b6.size
      have n0 := N6.c0
      have n1 := N6.c1
      have k10 := (hx1.out.kept B6.out).c0
      have k11 := (hx1.out.kept B6.out).c1
      have k20 := (hx2.out.kept B6.out).c0
      have k21 := (hx2.out.kept B6.out).c1
      have f10 := (hx1.out.kept B6.out).f 0
      have f11 := (hx1.out.kept B6.out).f 1
      have f20 := (hx2.out.kept B6.out).f 0
      have f21 := (hx2.out.kept B6.out).f 1
      have hl2 := hx2.out.lt
      have hs5 : wr.heap.size ≤ w5.heap.size := Nat.le_trans HB4.out.size b.size
      have hn1 : w5.heap.size ≠ w.heap.size := by omega
      have hn2 : w.heap.size ≠ w5.heap.size := by omega
      have hn3 : w5.heap.size ≠ w.heap.size + 1 := by omega
      have hn4 : w.heap.size + 1 ≠ w5.heap.size := by omega
      have hg3 : w.heap.size + 3 ≤ w4.heap.size := by have := hx3.out.lt; have := HB4.out.size; omega
      have GY : Hid (St w.heap.size 3 (((((w6.setCell ⟨w.heap.size, 0, none⟩ (.slice yo Y.length yc)).setCell ⟨w.heap.size, 1, none⟩ (.slice vo V.length vc)).setCell ⟨w.heap.size + 1, 0, none⟩ (.slice ra (dr X Y p).length rc)).setCell ⟨w.heap.size + 1, 1, none⟩ (.slice ta (sbt U (om (dq X Y p) V p) p).length tc)).drew) (.slice yo Y.length yc) Y) := wf_st (hst.out.2.2.1.below B6.out hh) _ _ _ _
      have GV : Hid (St w.heap.size 3 (((((w6.setCell ⟨w.heap.size, 0, none⟩ (.slice yo Y.length yc)).setCell ⟨w.heap.size, 1, none⟩ (.slice vo V.length vc)).setCell ⟨w.heap.size + 1, 0, none⟩ (.slice ra (dr X Y p).length rc)).setCell ⟨w.heap.size + 1, 1, none⟩ (.slice ta (sbt U (om (dq X Y p) V p) p).length tc)).drew) (.slice vo V.length vc) V) := wf_st (hst.out.2.2.2.below B6.out hh) _ _ _ _
      have GR : Hid (St w.heap.size 3 (((((w6.setCell ⟨w.heap.size, 0, none⟩ (.slice yo Y.length yc)).setCell ⟨w.heap.size, 1, none⟩ (.slice vo V.length vc)).setCell ⟨w.heap.size + 1, 0, none⟩ (.slice ra (dr X Y p).length rc)).setCell ⟨w.heap.size + 1, 1, none⟩ (.slice ta (sbt U (om (dq X Y p) V p) p).length tc)).drew) (.slice ra (dr X Y p).length rc) (dr X Y p)) := wf_st (.inr (OR.out.wide hg3 (Nat.le_refl _))) _ _ _ _
      have GT : Hid (St w.heap.size 3 (((((w6.setCell ⟨w.heap.size, 0, none⟩ (.slice yo Y.length yc)).setCell ⟨w.heap.size, 1, none⟩ (.slice vo V.length vc)).setCell ⟨w.heap.size + 1, 0, none⟩ (.slice ra (dr X Y p).length rc)).setCell ⟨w.heap.size + 1, 1, none⟩ (.slice ta (sbt U (om (dq X Y p) V p) p).length tc)).drew) (.slice ta (sbt U (om (dq X Y p) V p) p).length tc) (sbt U (om (dq X Y p) V p) p)) := wf_st (.inr (OT.out.wide hg3 (Nat.le_refl _))) _ _ _ _
      have G0 : Hid (Bx2 (((((w6.setCell ⟨w.heap.size, 0, none⟩ (.slice yo Y.length yc)).setCell ⟨w.heap.size, 1, none⟩ (.slice vo V.length vc)).setCell ⟨w.heap.size + 1, 0, none⟩ (.slice ra (dr X Y p).length rc)).setCell ⟨w.heap.size + 1, 1, none⟩ (.slice ta (sbt U (om (dq X Y p) V p) p).length tc)).drew) w.heap.size (.slice yo Y.length yc) (.slice vo V.length vc)) := wf_0 (hx1.out.kept B6.out) _ _ _ _
      have G1 : Hid (Bx2 (((((w6.setCell ⟨w.heap.size, 0, none⟩ (.slice yo Y.length yc)).setCell ⟨w.heap.size, 1, none⟩ (.slice vo V.length vc)).setCell ⟨w.heap.size + 1, 0, none⟩ (.slice ra (dr X Y p).length rc)).setCell ⟨w.heap.size + 1, 1, none⟩ (.slice ta (sbt U (om (dq X Y p) V p) p).length tc)).drew) (w.heap.size + 1) (.slice ra (dr X Y p).length rc) (.slice ta (sbt U (om (dq X Y p) V p) p).length tc)) := wf_1 (hx2.out.kept B6.out) _ _ _ _
      have G2 : Hid (Bx2 (((((w6.setCell ⟨w.heap.size, 0, none⟩ (.slice yo Y.length yc)).setCell ⟨w.heap.size, 1, none⟩ (.slice vo V.length vc)).setCell ⟨w.heap.size + 1, 0, none⟩ (.slice ra (dr X Y p).length rc)).setCell ⟨w.heap.size + 1, 1, none⟩ (.slice ta (sbt U (om (dq X Y p) V p) p).length tc)).drew) (w.heap.size + 1 + 1) (.slice none 0 0) (.slice none 0 0)) := wf_2 (hx3.out.kept B6.out) _ _ _ _
      have GW : Hid (Below w.heap.size w (((((w6.setCell ⟨w.heap.size, 0, none⟩ (.slice yo Y.length yc)).setCell ⟨w.heap.size, 1, none⟩ (.slice vo V.length vc)).setCell ⟨w.heap.size + 1, 0, none⟩ (.slice ra (dr X Y p).length rc)).setCell ⟨w.heap.size + 1, 1, none⟩ (.slice ta (sbt U (om (dq X Y p) V p) p).length tc)).drew)) := (hb.out.trans (B6.out.mono hh)).trans (wf_below w6 w.heap.size _ _ _ _)
      clear hg3
      clear hl2 hs5 hh
      clear or ot b b6 N6 hc10 hc11 hc20 hc21 HMR
      go_wp2_with fail
      rw [← hw6]
      clear hw6
      go_region
      go_wp2_with fail
      go_roundg j
      case rel => exact ⟨Y, V, dr X Y p, sbt U (om (dq X Y p) V p) p, yo, vo, ra, ta, yc, vc, rc, tc, hmj, HCS, HGN, ⟨GY.out, GV.out, GR.out, GT.out⟩, G0, G1, G2, GW⟩
      case measure => omega
end Go.Proofs.Ytfhcfeafohcjpaa.wh
