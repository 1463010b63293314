/- Lifting two factors: the program's inverse modulo a whole. -/
import Derived.Test.YtfhcfeafohcjpaaLiB
import Derived.Test.YtfhcfeafohcjpaaFnT
namespace Go.Proofs.Ytfhcfeafohcjpaa.wh
open Go.RowKit Go.Pl

/-- a box of two -/
def Bx2 (w : World) (b : Nat) (u v : Value) : Prop := ∃ t, w.heap[b]? = some (.cells #[u, v] t)
theorem Bx2.c0 {w : World} {b : Nat} {u v : Value} (h : Bx2 w b u v) : w.cell? ⟨b, 0, none⟩ = some u := by
  obtain ⟨t, h⟩ := h
  rw [cell_of_row _ _ _ _ _ _ h]; rfl
theorem Bx2.c1 {w : World} {b : Nat} {u v : Value} (h : Bx2 w b u v) : w.cell? ⟨b, 1, none⟩ = some v := by
  obtain ⟨t, h⟩ := h
  rw [cell_of_row _ _ _ _ _ _ h]; rfl
theorem Bx2.f (j : Nat) {w : World} {b : Nat} {u v : Value} (h : Bx2 w b u v) : w.frozen? ⟨b, j, none⟩ = false := by
  obtain ⟨t, h⟩ := h
  exact frozen_of_row _ _ _ _ _ h
theorem Bx2.lt {w : World} {b : Nat} {u v : Value} (h : Bx2 w b u v) : b < w.heap.size := by
  obtain ⟨t, h⟩ := h
  exact (Array.getElem?_eq_some_iff.1 h).1
theorem Bx2.new (w : World) (u v : Value) (t : TypeId) : Bx2 (w.alloc (.cells #[u, v] t)) w.heap.size u v := ⟨t, heap_alloc_new w _⟩
theorem Bx2.below {w w' : World} {b B : Nat} {u v : Value} (h : Bx2 w b u v) (hb : Below B w w') (hB : b < B) : Bx2 w' b u v := by
  obtain ⟨t, h⟩ := h
  exact ⟨t, by rw [hb.block b hB]; exact h⟩
theorem Bx2.kept {w w' : World} {b : Nat} {u v : Value} (h : Bx2 w b u v) (hb : Below w.heap.size w w') : Bx2 w' b u v := h.below hb h.lt
theorem Bx2.alloc {w : World} {b : Nat} {u v : Value} (h : Bx2 w b u v) (o : Obj) : Bx2 (w.alloc o) b u v := h.kept ((Below.refl _ _).alloc (Nat.le_refl _) _)

theorem Bx2.other {w : World} {b : Nat} {u v : Value} (h : Bx2 w b u v) {g j : Nat} (hg : b ≠ g) (x : Value) : Bx2 (w.setCell ⟨g, j, none⟩ x) b u v := by
  obtain ⟨t, h⟩ := h
  exact ⟨t, by rw [Below.heap_setCell _ _ _ _ hg]; exact h⟩

theorem Bx2.set2 {w : World} {b : Nat} {u v : Value} (h : Bx2 w b u v) (x y : Value) : Bx2 ((w.setCell ⟨b, 0, none⟩ x).setCell ⟨b, 1, none⟩ y) b x y := by
  obtain ⟨t, h⟩ := h
  have h1 := heap_setCell_same w b 0 #[u, v] t x h
  have h2 := heap_setCell_same _ b 1 _ t y h1
  exact ⟨t, by rw [h2]; rfl⟩
theorem own_past {w : World} {g lo : Nat} {v x y : Value} {L : List Int} (h : Own w lo w.heap.size v L) (hg : g < lo) : Own ((w.setCell ⟨g, 0, none⟩ x).setCell ⟨g, 1, none⟩ y) lo ((w.setCell ⟨g, 0, none⟩ x).setCell ⟨g, 1, none⟩ y).heap.size v L := by
  have h1 := h.stay (w' := w.setCell ⟨g, 0, none⟩ x) fun k h _ _ => Below.heap_setCell _ _ _ _ (by show k ≠ g; omega)
  have h2 := h1.stay (w' := (w.setCell ⟨g, 0, none⟩ x).setCell ⟨g, 1, none⟩ y) fun k h _ _ => Below.heap_setCell _ _ _ _ (by show k ≠ g; omega)
  exact h2.wide (Nat.le_refl _) (by simp [World.setCell])

set_option maxRecDepth 100000 in
theorem mz_any {ro qo : Option Addr} {tn rc tc : Nat} {R : List Int} {w : World} (h : Ls w (.slice ro R.length rc) R) (hne : R ≠ []) :
    Calls Try.prog 89 #[.agg #[.slice ro R.length rc, .slice qo tn tc]] w fun e w' => e = .returned (.bool (decide (at' R (R.length - 1) = 0))) ∧ Below w.heap.size w w' := by
  have HB : Hid (Below w.heap.size w (w.alloc (.cells #[.slice ro R.length rc, .slice qo tn tc] 97))) := new1 _ _
  have HR : Hid (Ls (w.alloc (.cells #[.slice ro R.length rc, .slice qo tn tc] 97)) (.slice ro R.length rc) R) := h.below HB.out
  have HNE : Hid (R ≠ []) := hne
  clear h hne
  go_enter Try.func89, Try.ntmps89
  go_wp2_with fail
  refine (izero_any HR.out HNE.out).mono ?_
  rintro e w1 ⟨rfl, hw1⟩
  rw [hw1]
  clear hw1
  go_wp2_with fail
  go_ret
  exact ⟨rfl, HB.out⟩

set_option maxRecDepth 100000 in
set_option maxHeartbeats 8000000 in
theorem mr_any {ao so bo qo : Option Addr} {ac sc bc qc : Nat} {A S B Q : List Int} {p : Int} {bp : Nat} {w : World} (hbp : w.cell? ⟨bp, 0, none⟩ = some (.int .i64 p)) (hbl : bp < w.heap.size) (hp : isP p = true)
    (ha : Ls w (.slice ao A.length ac) A) (hs : Ls w (.slice so S.length sc) S) (hb : Ls w (.slice bo B.length bc) B) (hq : Ls w (.slice qo Q.length qc) Q) (ht : Tk p 20 A S B Q) (h0 : B ≠ [0]) :
    Calls Try.prog 90 #[.agg #[.slice ao A.length ac, .slice so S.length sc], .agg #[.slice bo B.length bc, .slice qo Q.length qc], .pointer (some ⟨bp, 0, none⟩)] w
      fun e w' => ∃ ra rc ta tc, e = .returned (.tuple #[.agg #[.slice ra (dr A B p).length rc, .slice ta (sbt S (om (dq A B p) Q p) p).length tc], .bool true]) ∧ Own w' w.heap.size w'.heap.size (.slice ra (dr A B p).length rc) (dr A B p) ∧ Own w' w.heap.size w'.heap.size (.slice ta (sbt S (om (dq A B p) Q p) p).length tc) (sbt S (om (dq A B p) Q p) p) ∧ Below w.heap.size w w' := by
  have HLS : Hid (Ls w (.slice so S.length sc) S) := hs
  have HLQ : Hid (Ls w (.slice qo Q.length qc) Q) := hq
  have HLA : Hid (Ls w (.slice ao A.length ac) A) := ha
  have HLB : Hid (Ls w (.slice bo B.length bc) B) := hb
  have HT : Hid (Tk p 20 A S B Q ∧ B ≠ [0] ∧ isP p = true) := ⟨ht, h0, hp⟩
  obtain ⟨w3, hw3⟩ : ∃ x, x = ((w.alloc (.cells #[.slice ao A.length ac, .slice so S.length sc] 97)).alloc (.cells #[.slice bo B.length bc, .slice qo Q.length qc] 97)).alloc (.cells #[.slice none 0 0, .slice none 0 0] 97) := ⟨_, rfl⟩
  have HW3 : Hid (w3 = ((w.alloc (.cells #[.slice ao A.length ac, .slice so S.length sc] 97)).alloc (.cells #[.slice bo B.length bc, .slice qo Q.length qc] 97)).alloc (.cells #[.slice none 0 0, .slice none 0 0] 97)) := hw3
  have B3 : Hid (Below w.heap.size w w3) := by
    show Below _ _ _
    rw [hw3]
    exact (((Below.refl _ _).alloc (Nat.le_refl _) _).alloc (by simp only [World.size_alloc]; omega) _).alloc (by simp only [World.size_alloc]; omega) _
  have X1 : Hid (Bx2 w3 w.heap.size (.slice ao A.length ac) (.slice so S.length sc)) := by
    show Bx2 _ _ _ _
    rw [hw3]
    exact ((Bx2.new _ _ _ _).alloc _).alloc _
  have X2 : Hid (Bx2 w3 (w.heap.size + 1) (.slice bo B.length bc) (.slice qo Q.length qc)) := by
    show Bx2 _ _ _ _
    rw [hw3]
    have := (Bx2.new (w.alloc (.cells #[.slice ao A.length ac, .slice so S.length sc] 97)) (.slice bo B.length bc) (.slice qo Q.length qc) 97)
    rw [World.size_alloc] at this
    exact this.alloc _
  have X3 : Hid (Bx2 w3 (w.heap.size + 1 + 1) (.slice none 0 0) (.slice none 0 0)) := by
    show Bx2 _ _ _ _
    rw [hw3]
    have := (Bx2.new ((w.alloc (.cells #[.slice ao A.length ac, .slice so S.length sc] 97)).alloc (.cells #[.slice bo B.length bc, .slice qo Q.length qc] 97)) (.slice none 0 0) (.slice none 0 0) 97)
    simp only [World.size_alloc] at this
    exact this
  have HP3 : Hid (∀ W, Below w.heap.size w W → W.cell? ⟨bp, 0, none⟩ = some (.int .i64 p)) := fun W h => (h.cell (p := ⟨bp, 0, none⟩) hbl).trans hbp
  have cp0 := HP3.out w3 B3.out
  rw [hw3] at cp0
  clear ha hb hs hq ht h0 hp hw3 hbp
  have HDV := idiv_any (w := w3) (HLA.out.below B3.out) (HLB.out.below B3.out) HT.out.2.2 HT.out.1.1.1 (by have := HT.out.1.1.2.1; omega) HT.out.1.2.1.1 HT.out.1.2.1.2.1 (clean_last HT.out.1.2.1.2.2 HT.out.2.1 HT.out.1.2.1.1.1)
  have q1 := dv_ok HT.out.2.2 HT.out.1.1.1 HT.out.1.2.1.1 (clean_last HT.out.1.2.1.2.2 HT.out.2.1 HT.out.1.2.1.1.1)
  have hp2 := isP_le HT.out.2.2
  obtain ⟨o1, o2⟩ := om_ov (A := dq A B p) (B := Q) (p := p) (by omega) q1.1.1 HT.out.1.2.2.2.1.1
  have HQB : Hid ((1 ≤ (dq A B p).length ∧ (dq A B p).length ≤ 40) ∧ (1 ≤ Q.length ∧ Q.length ≤ 40) ∧ inR 0 (p - 1) (dq A B p) ∧ inR 0 (p - 1) Q ∧ 2 ≤ p ∧ p ≤ 13) := by
    have := HT.out.1.1.2.1
    have := HT.out.1.2.1.1.1
    have := HT.out.1.2.2.2.2.2.2
    exact ⟨⟨q1.1.1, by have := q1.2.2.1; omega⟩, ⟨HT.out.1.2.2.2.1.1, by omega⟩, q1.1.2, HT.out.1.2.2.2.1.2, hp2⟩
  have HSB : Hid ((1 ≤ S.length ∧ S.length ≤ 40) ∧ (1 ≤ (om (dq A B p) Q p).length ∧ (om (dq A B p) Q p).length ≤ 40) ∧ (∀ k, 0 ≤ at' S k ∧ at' S k ≤ 13) ∧ (∀ k, 0 ≤ at' (om (dq A B p) Q p) k ∧ at' (om (dq A B p) Q p) k ≤ 13)) := by
    have := HT.out.1.1.2.1
    have := HT.out.1.2.1.1.1
    have := HT.out.1.2.2.2.2.2.2
    have := HT.out.1.2.2.2.2.1
    have h1 := HT.out.1.2.2.1
    have h2 := q1.2.2.1
    have h3 := HQB.out.1
    exact ⟨⟨h1.1, by omega⟩, ⟨o1.1, by omega⟩, fun k => by have := h1.2.at (by omega) (by omega) k; omega, fun k => by have := o1.2.at (by omega) (by omega) k; omega⟩
  clear q1 hp2 o1 o2
  go_enter Try.func90, Try.ntmps90
  go_wp2_with fail
  rw [← HW3.out]
  refine HDV.mono ?_
  rintro e w4 ⟨vq, vr, rfl, oq, o, b⟩
  obtain ⟨ra, rc, rfl⟩ := o.shape
  obtain ⟨qa, qe, rfl⟩ := oq.shape
  have HR4 : Hid (Ls w4 (.slice ra (dr A B p).length rc) (dr A B p)) := o.ls (Nat.le_refl _)
  have HRO : Hid (Own w4 w3.heap.size w4.heap.size (.slice ra (dr A B p).length rc) (dr A B p)) := o
  have HQ4 : Hid (Ls w4 (.slice qa (dq A B p).length qe) (dq A B p)) := oq.ls (Nat.le_refl _)
  have B4 : Hid (Below w3.heap.size w3 w4) := b
  have C4 : Hid (Below w.heap.size w w4) := B3.out.trans (b.mono B3.out.size)
  have c2 := (X2.out.kept b).c1
  have cp := HP3.out w4 C4.out
  have HL4 : Hid (Ls w4 (.slice qo Q.length qc) Q) := HLQ.out.below C4.out
  clear o oq b HDV cp0
  go_wp2_with fail
  refine (pover_any HQ4.out HL4.out HQB.out.1 HQB.out.2.1 (over_bd HQB.out.2.2.1 HQB.out.2.2.2.1 HQB.out.2.2.2.2) p ⟨by have := HQB.out.2.2.2.2; omega, by have := HQB.out.2.2.2.2; omega⟩).mono ?_
  rintro e w5 ⟨v5, rfl, o', b⟩
  have o : Own w5 w4.heap.size w5.heap.size v5 (om (dq A B p) Q p) := o'
  clear o'
  obtain ⟨ta, te, rfl⟩ := o.shape
  have B45 : Hid (Below w4.heap.size w4 w5) := b
  have HT5 : Hid (Ls w5 (.slice ta (om (dq A B p) Q p).length te) (om (dq A B p) Q p)) := o.ls (Nat.le_refl _)
  have B5 : Hid (Below w3.heap.size w3 w5) := B4.out.trans (b.mono B4.out.size)
  have C5 : Hid (Below w.heap.size w w5) := B3.out.trans (B5.out.mono B3.out.size)
  have HR5 : Hid (Ls w5 (.slice ra (dr A B p).length rc) (dr A B p)) := HR4.out.below b
  have Y1 : Hid (Bx2 w5 w.heap.size (.slice ao A.length ac) (.slice so S.length sc)) := X1.out.kept B5.out
  have Y3 : Hid (Bx2 w5 (w.heap.size + 1 + 1) (.slice none 0 0) (.slice none 0 0)) := X3.out.kept B5.out
  have HS5 : Hid (Ls w5 (.slice so S.length sc) S) := HLS.out.below C5.out
  have HLT : Hid (w.heap.size < w5.heap.size ∧ w.heap.size + 1 + 1 < w5.heap.size ∧ bp < w5.heap.size) := ⟨Y1.out.lt, Y3.out.lt, by have := C5.out.size; omega⟩
  have c1 := Y1.out.c1
  have cp5 := HP3.out w5 C5.out
  clear o b c2 cp HR4 HQ4 HL4 HQB
  have hw5 : Below w5.heap.size w5 w5.drew := (Below.refl _ _).drew
  have bd : Hid (Below w5.heap.size w5 w5.drew) := hw5
  have CW : Hid (∀ W, Below w5.heap.size w5 W → Below w.heap.size w W) := fun W h => C5.out.trans (h.mono C5.out.size)
  have HWE : Hid (∀ k, -1000000000000 ≤ 1 * at' S k ∧ 1 * at' S k ≤ 1000000000000) := fun k => by have := HSB.out.2.2.1 k; omega
  have HWF : Hid (∀ k, -1000000000000 ≤ -1 * at' (om (dq A B p) Q p) k ∧ -1 * at' (om (dq A B p) Q p) k ≤ 1000000000000) := fun k => by have := HSB.out.2.2.2 k; omega
  have HNE : Hid (weigh S (om (dq A B p) Q p) 1 (-1) ≠ [] ∧ (weigh S (om (dq A B p) Q p) 1 (-1)).length ≤ 1000) := ⟨ne_of_len (by rw [weigh_len]; have := HSB.out.1; omega), by rw [weigh_len]; have := HSB.out.1; have := HSB.out.2.1; omega⟩
  have HPQ : Hid (1 ≤ p ∧ p ≤ 1000000) := by have := isP_le HT.out.2.2; show _ ∧ _; omega
  clear hw5
  go_wp2_with fail
  go_region_held3 (fun w' => w'.cell? ⟨w.heap.size, 1, none⟩ = some (.slice so S.length sc) ∧ w'.cell? ⟨bp, 0, none⟩ = some (.int .i64 p) ∧ Hid (Below w.heap.size w w'))
    (first | exact ⟨(((Y1.out.kept bt.out).other (by omega) _).other (by omega) _).c1, HP3.out _ (((CW.out _ bt.out).setCell (by show _ ≤ _; simp; omega) _).setCell (by show _ ≤ _; simp; omega) _), ((CW.out _ bt.out).setCell (by show _ ≤ _; simp; omega) _).setCell (by show _ ≤ _; simp; omega) _⟩ | exact ⟨(Y1.out.kept bt.out).c1, HP3.out _ (CW.out _ bt.out), CW.out _ bt.out⟩ | exact ⟨(Y1.out.kept bs.out).c1, HP3.out _ (CW.out _ bs.out), CW.out _ bs.out⟩ | exact ⟨(Y1.out.kept bd.out).c1, HP3.out _ (CW.out _ bd.out), CW.out _ bd.out⟩)
    (first
      | (go_at_call 67; have hC := weighed_any (HS5.out.below bd.out) (HT5.out.below bd.out) HSB.out.1 HSB.out.2.1 1 (-1) HWE.out HWF.out; (with_reducible refine hC.mono ?_); clear hC; rintro e w6 ⟨v6, rfl, o, b⟩; obtain ⟨sa, se, rfl⟩ := o.shape; have bs : Hid (Below w5.heap.size w5 w6) := viaD bd.out b; have HW6 : Hid (Ls w6 (.slice sa (weigh S (om (dq A B p) Q p) 1 (-1)).length se) (weigh S (om (dq A B p) Q p) 1 (-1))) := o.ls (Nat.le_refl _); clear o b)
      | (go_at_call 85; have hC := tover_any HW6.out HNE.out.1 HNE.out.2 p HPQ.out; (with_reducible refine hC.mono ?_); clear hC; rintro e w7 ⟨v7, rfl, o', b⟩; have o : Own w7 w6.heap.size w7.heap.size v7 (sbt S (om (dq A B p) Q p) p) := o'; clear o'; obtain ⟨ua, ue, rfl⟩ := o.shape; have bt : Hid (Below w5.heap.size w5 w7) := viaD bs.out b; have HU7 : Hid (Own w7 w6.heap.size w7.heap.size (.slice ua (sbt S (om (dq A B p) Q p) p).length ue) (sbt S (om (dq A B p) Q p) p)) := o; have Z3 := Y3.out.kept bt.out; have cz0 := Z3.c0; have cz1 := Z3.c1; have fz0 := Z3.f 0; have fz1 := Z3.f 1; clear Z3 o b))
  have hx3 := X3.out.lt
  have hb4 := B4.out.size
  have hb5 := B5.out.size
  have B47 : Below w4.heap.size w4 w7 := B45.out.trans (bt.out.mono B45.out.size)
  have R7 : Own w7 w3.heap.size w7.heap.size (.slice ra (dr A B p).length rc) (dr A B p) := (HRO.out.below B47 (Nat.le_refl _)).wide (Nat.le_refl _) B47.size
  have RF : Hid (Own ((w7.setCell ⟨w.heap.size + 1 + 1, 0, none⟩ (.slice ra (dr A B p).length rc)).setCell ⟨w.heap.size + 1 + 1, 1, none⟩ (.slice ua (sbt S (om (dq A B p) Q p) p).length ue)) w.heap.size ((w7.setCell ⟨w.heap.size + 1 + 1, 0, none⟩ (.slice ra (dr A B p).length rc)).setCell ⟨w.heap.size + 1 + 1, 1, none⟩ (.slice ua (sbt S (om (dq A B p) Q p) p).length ue)).heap.size (.slice ra (dr A B p).length rc) (dr A B p)) := (own_past R7 hx3).wide B3.out.size (Nat.le_refl _)
  have UF : Hid (Own ((w7.setCell ⟨w.heap.size + 1 + 1, 0, none⟩ (.slice ra (dr A B p).length rc)).setCell ⟨w.heap.size + 1 + 1, 1, none⟩ (.slice ua (sbt S (om (dq A B p) Q p) p).length ue)) w.heap.size ((w7.setCell ⟨w.heap.size + 1 + 1, 0, none⟩ (.slice ra (dr A B p).length rc)).setCell ⟨w.heap.size + 1 + 1, 1, none⟩ (.slice ua (sbt S (om (dq A B p) Q p) p).length ue)).heap.size (.slice ua (sbt S (om (dq A B p) Q p) p).length ue) (sbt S (om (dq A B p) Q p) p)) := (own_past HU7.out (by have := bs.out.size; omega)).wide (by have := bs.out.size; have := B3.out.size; omega) (Nat.le_refl _)
  have BF : Hid (Below w.heap.size w ((w7.setCell ⟨w.heap.size + 1 + 1, 0, none⟩ (.slice ra (dr A B p).length rc)).setCell ⟨w.heap.size + 1 + 1, 1, none⟩ (.slice ua (sbt S (om (dq A B p) Q p) p).length ue))) := ((CW.out _ bt.out).setCell (by show _ ≤ _; simp; omega) _).setCell (by show _ ≤ _; simp; omega) _
  have XF := (Y3.out.kept bt.out).set2 (.slice ra (dr A B p).length rc) (.slice ua (sbt S (om (dq A B p) Q p) p).length ue)
  have xf0 := XF.c0
  have xf1 := XF.c1
  clear XF R7 B47
  go_wp2_with fail
  exact bodyPost_ret (v := .tuple #[.agg #[.slice ra (dr A B p).length rc, .slice ua (sbt S (om (dq A B p) Q p) p).length ue], .bool true]) (by simp [results, Try.results90, xf0, xf1, go_sem]) rfl ⟨_, _, _, _, rfl, RF.out, UF.out, BF.out⟩
end Go.Proofs.Ytfhcfeafohcjpaa.wh
