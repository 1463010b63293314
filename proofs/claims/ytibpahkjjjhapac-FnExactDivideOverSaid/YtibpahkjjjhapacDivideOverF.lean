/- DivideOver: what both sides answer. -/
import Derived.Test.YtibpahkjjjhapacOvS
import Derived.Test.YtibpahkjjjhapacW2
namespace Go.Proofs.Ytibpahkjjjhapac.fDivideOver
open Go.RowKit Go.Pl Go.Proofs.Ytibpahkjjjhapac.wh
def zr (B : List Int) : Bool := decide (B = [0])
def ok (A B : List Int) (p : Int) : Bool := over A p && (over B p && !(zr B))
def R (A B : List Int) (p : Int) : List Int := if ok A B p = true then dq A B p else []
def R2 (A B : List Int) (p : Int) : List Int := if ok A B p = true then dr A B p else []
theorem ok_gd {A B : List Int} {p : Int} (h : ok A B p = true) : Gd A p ∧ Gd B p ∧ B ≠ [0] ∧ isP p = true := by
  unfold ok at h
  rw [Bool.and_eq_true, Bool.and_eq_true] at h
  refine ⟨Gd.of_over h.1, Gd.of_over h.2.1, fun e => ?_, (over_val h.1).1⟩
  have := h.2.2
  rw [e] at this
  exact absurd this (by decide)
theorem len (A B : List Int) (p : Int) : (R A B p).length ≤ 17 := by
  unfold R
  split
  · rename_i h
    obtain ⟨h1, h2, h3, h4⟩ := ok_gd h
    exact (Gd.quo h4 h1 h2 h3).2.1
  · simp
theorem len2 (A B : List Int) (p : Int) : (R2 A B p).length ≤ 17 := by
  unfold R2
  split
  · rename_i h
    obtain ⟨h1, h2, h3, h4⟩ := ok_gd h
    exact (Gd.rest h4 h1 h2 h3).2.1
  · simp
theorem szr_any {v : Value} {L : List Int} {w : World} (h : Ls w v L) : Calls Try.prog 52 #[v] w fun e w' => e = .returned (.bool (zr L)) ∧ w' = w := szero_any h
theorem izr_any {v : Value} {L : List Int} {w : World} (h : Ls w v L) (hv : Val L) : Calls Try.prog 56 #[v] w fun e w' => e = .returned (.bool (zr L)) ∧ w' = w := by
  have := izero_any h hv.ne
  have e : decide (at' L (L.length - 1) = 0) = zr L := by
    unfold zr
    by_cases h0 : L = [0]
    · rw [decide_eq_true h0, h0]; rfl
    · rw [decide_eq_false h0, decide_eq_false (clean_last hv.2.2.2 h0 hv.pos)]
  rw [e] at this
  exact this

set_option maxRecDepth 100000 in
set_option maxHeartbeats 4000000 in
theorem spec_any {A0 A1 : List Int} {v0 v1 : Value} {w : World} (h0 : Wh w v0 A0) (h1 : Wh w v1 A1) (a2 : Int) (_b2 : (Lit.int .i64 a2).wf = true) : Calls Try.prog 19 #[v0, v1, .int .i64 a2] w (Ans2S (R A0 A1 a2) (R2 A0 A1 a2) (ok A0 A1 a2) w) := by
  obtain ⟨s0, rfl, h0⟩ := h0
  obtain ⟨ao0, cap0, rfl⟩ := h0.shape
  obtain ⟨s1, rfl, h1⟩ := h1
  obtain ⟨ao1, cap1, rfl⟩ := h1.shape
  obtain ⟨w1, hw⟩ : ∃ x, x = ((((w.alloc (.cells #[(.slice ao0 A0.length cap0)] 41)).alloc (.cells #[(.slice ao1 A1.length cap1)] 41)).alloc (.cells #[.slice none 0 0] 41)).alloc (.cells #[.slice none 0 0] 41)) := ⟨_, rfl⟩
  have BW : Hid (Below w.heap.size w w1) := by rw [hw]; exact new4 _ _ _ _ _
  have XP0 : Hid (Bx w1 w.heap.size (.slice ao0 A0.length cap0)) := by rw [hw]; exact Bx.alloc (Bx.alloc (Bx.alloc (Bx.new _ _ _) _) _) _
  have XP1 : Hid (Bx w1 (w.heap.size + 1) (.slice ao1 A1.length cap1)) := by rw [hw]; exact Bx.alloc (Bx.alloc (Bx.new2 _ _ _ _) _) _
  have XR : Hid (Bx w1 (w.heap.size + 1 + 1) (.slice none 0 0)) := by rw [hw]; exact Bx.alloc (Bx.new3 _ _ _ _ _) _
  have XQ : Hid (Bx w1 (w.heap.size + 1 + 1 + 1) (.slice none 0 0)) := by rw [hw]; exact bx4 _ _ _ _ _ _
  have L0 : Hid (Ls w1 (.slice ao0 A0.length cap0) A0) := Ls.below h0 BW.out
  have L1 : Hid (Ls w1 (.slice ao1 A1.length cap1) A1) := Ls.below h1 BW.out
  have LR : Hid (w.heap.size + 1 + 1 < w1.heap.size ∧ w.heap.size + 1 + 1 + 1 < w1.heap.size) := ⟨XR.out.lt, XQ.out.lt⟩
  have c0 := XP0.out.cell
  have c1 := XP1.out.cell
  have cR := XR.out.cell
  have fR := XR.out.free
  have XR1 : Hid (Bx w1 (w.heap.size + 1 + 1) (.slice none 0 0)) := XR
  have XQ1 : Hid (Bx w1 (w.heap.size + 1 + 1 + 1) (.slice none 0 0)) := XQ
  clear h0 h1
  go_enter Try.func19, Try.ntmps19
  go_wp2_with fail
  rw [← hw]
  clear hw
  have BC : Hid (Below w1.heap.size w1 w1) := Below.refl _ _
  refine (sover_any c0 L0.out a2).mono ?_
  rintro e w0 ⟨rfl, hw0⟩
  rw [hw0]
  clear hw0
  cases hv0 : over A0 a2 with
  | false =>
    have HK : Hid (ok A0 A1 a2 = false) := by show _ = _; unfold ok; rw [hv0]; rfl
    have HR : Hid (Ans2S (R A0 A1 a2) (R2 A0 A1 a2) (ok A0 A1 a2) w (.returned (.tuple #[.agg #[.slice none 0 0], .agg #[.slice none 0 0], .bool false])) ((w1.setCell ⟨w.heap.size + 1 + 1, 0, none⟩ (.slice none 0 0)).setCell ⟨w.heap.size + 1 + 1 + 1, 0, none⟩ (.slice none 0 0))) := by
      have e1 : R A0 A1 a2 = [] := if_neg (by rw [HK.out]; decide)
      have e2 : R2 A0 A1 a2 = [] := if_neg (by rw [HK.out]; decide)
      rw [e1, e2, HK.out]; exact (out2_no (BW.out.trans (BC.out.mono BW.out.size)) (by omega) (by omega)).s
    obtain ⟨⟨y1, y2⟩, z1, z2⟩ := two_set XR.out XQ.out (by omega) (.slice none 0 0) (.slice none 0 0)
    go_wp2_with fail
    exact bodyPost_ret (v := .tuple #[.agg #[.slice none 0 0], .agg #[.slice none 0 0], .bool false]) (by simp [results, Try.results19, y1, y2, go_sem]) rfl HR.out
  | true =>
    have Hv0 : Hid (over A0 a2 = true) := hv0
    clear hv0
    go_wp2_with fail
    refine (sover_any c1 L1.out a2).mono ?_
    rintro e w0 ⟨rfl, hw0⟩
    rw [hw0]
    clear hw0
    cases hv1 : over A1 a2 with
    | false =>
      have HK : Hid (ok A0 A1 a2 = false) := by show _ = _; unfold ok; rw [Hv0.out, hv1]; rfl
      have HR : Hid (Ans2S (R A0 A1 a2) (R2 A0 A1 a2) (ok A0 A1 a2) w (.returned (.tuple #[.agg #[.slice none 0 0], .agg #[.slice none 0 0], .bool false])) ((w1.setCell ⟨w.heap.size + 1 + 1, 0, none⟩ (.slice none 0 0)).setCell ⟨w.heap.size + 1 + 1 + 1, 0, none⟩ (.slice none 0 0))) := by
        have e1 : R A0 A1 a2 = [] := if_neg (by rw [HK.out]; decide)
        have e2 : R2 A0 A1 a2 = [] := if_neg (by rw [HK.out]; decide)
        rw [e1, e2, HK.out]; exact (out2_no (BW.out.trans (BC.out.mono BW.out.size)) (by omega) (by omega)).s
      obtain ⟨⟨y1, y2⟩, z1, z2⟩ := two_set XR.out XQ.out (by omega) (.slice none 0 0) (.slice none 0 0)
      go_wp2_with fail
      exact bodyPost_ret (v := .tuple #[.agg #[.slice none 0 0], .agg #[.slice none 0 0], .bool false]) (by simp [results, Try.results19, y1, y2, go_sem]) rfl HR.out
    | true =>
      have Hv1 : Hid (over A1 a2 = true) := hv1
      clear hv1
      go_wp2_with fail
      refine (szr_any L1.out).mono ?_
      rintro e w0 ⟨rfl, hw0⟩
      rw [hw0]
      clear hw0
      cases hz : zr A1 with
      | true =>
        have HK : Hid (ok A0 A1 a2 = false) := by show _ = _; unfold ok; rw [Hv0.out, Hv1.out, hz]; rfl
        have HR : Hid (Ans2S (R A0 A1 a2) (R2 A0 A1 a2) (ok A0 A1 a2) w (.returned (.tuple #[.agg #[.slice none 0 0], .agg #[.slice none 0 0], .bool false])) ((w1.setCell ⟨w.heap.size + 1 + 1, 0, none⟩ (.slice none 0 0)).setCell ⟨w.heap.size + 1 + 1 + 1, 0, none⟩ (.slice none 0 0))) := by
          have e1 : R A0 A1 a2 = [] := if_neg (by rw [HK.out]; decide)
          have e2 : R2 A0 A1 a2 = [] := if_neg (by rw [HK.out]; decide)
          rw [e1, e2, HK.out]; exact (out2_no (BW.out.trans (BC.out.mono BW.out.size)) (by omega) (by omega)).s
        obtain ⟨⟨y1, y2⟩, z1, z2⟩ := two_set XR.out XQ.out (by omega) (.slice none 0 0) (.slice none 0 0)
        go_wp2_with fail
        exact bodyPost_ret (v := .tuple #[.agg #[.slice none 0 0], .agg #[.slice none 0 0], .bool false]) (by simp [results, Try.results19, y1, y2, go_sem]) rfl HR.out
      | false =>
        have HK : Hid (ok A0 A1 a2 = true) := by show _ = _; unfold ok; rw [Hv0.out, Hv1.out, hz]; rfl
        have HG : Hid (Gd A0 a2 ∧ Gd A1 a2 ∧ A1 ≠ [0] ∧ isP a2 = true) := ok_gd HK.out
        have HLS : Hid (at' A1 (A1.length - 1) ≠ 0) := clean_last HG.out.2.1.2.2 HG.out.2.2.1 HG.out.2.1.1.1
        clear hz
        go_wp2_with fail
        clear cR fR
        refine (sdiv_any L0.out L1.out HG.out.2.2.2 HG.out.1.1 (by have := HG.out.1.2.1; omega) HG.out.2.1.1 HG.out.2.1.2.1 HLS.out).mono ?_
        rintro e wd ⟨vq, vr, rfl, oq, orr, b⟩
        have OQ : Hid (Own wd w1.heap.size wd.heap.size vq (dq A0 A1 a2)) := oq.wide BC.out.size (Nat.le_refl _)
        have OR : Hid (Own wd w1.heap.size wd.heap.size vr (dr A0 A1 a2)) := orr.wide BC.out.size (Nat.le_refl _)
        have BD : Hid (Below w1.heap.size w1 wd) := BC.out.trans (b.mono BC.out.size)
        have XRd : Hid (Bx wd (w.heap.size + 1 + 1) (.slice none 0 0)) := XR.out.kept b
        have XQd : Hid (Bx wd (w.heap.size + 1 + 1 + 1) (.slice none 0 0)) := XQ.out.kept b
        obtain ⟨qa, qc, rfl⟩ := OQ.out.shape
        obtain ⟨ra, rc, rfl⟩ := OR.out.shape
        have cR := XRd.out.cell
        have fR := XRd.out.free
        obtain ⟨⟨y1, y2⟩, z1, z2⟩ := two_set XRd.out XQd.out (by omega) (.slice qa (dq A0 A1 a2).length qc) (.slice ra (dr A0 A1 a2).length rc)
        have HR : Hid (Ans2S (R A0 A1 a2) (R2 A0 A1 a2) (ok A0 A1 a2) w (.returned (.tuple #[.agg #[.slice qa (dq A0 A1 a2).length qc], .agg #[.slice ra (dr A0 A1 a2).length rc], .bool true])) ((wd.setCell ⟨w.heap.size + 1 + 1, 0, none⟩ (.slice qa (dq A0 A1 a2).length qc)).setCell ⟨w.heap.size + 1 + 1 + 1, 0, none⟩ (.slice ra (dr A0 A1 a2).length rc))) := by
          have e1 : R A0 A1 a2 = dq A0 A1 a2 := if_pos HK.out
          have e2 : R2 A0 A1 a2 = dr A0 A1 a2 := if_pos HK.out
          rw [e1, e2, HK.out]; exact out2_yesS BW.out (by omega) LR.out.1 (by omega) LR.out.2 OQ.out OR.out BD.out
        clear oq orr b OQ OR
        generalize (dq A0 A1 a2).length = lq at *
        generalize (dr A0 A1 a2).length = lr at *
        go_wp2_with fail
        exact bodyPost_ret (v := .tuple #[.agg #[.slice qa lq qc], .agg #[.slice ra lr rc], .bool true]) (by simp [results, Try.results19, y1, y2, go_sem]) rfl HR.out

set_option maxRecDepth 100000 in
set_option maxHeartbeats 4000000 in
theorem impl_any {A0 A1 : List Int} {v0 v1 : Value} {w : World} (h0 : Wh w v0 A0) (h1 : Wh w v1 A1) (a2 : Int) (_b2 : (Lit.int .i64 a2).wf = true) : Calls Try.prog 21 #[v0, v1, .int .i64 a2] w (Ans2I (R A0 A1 a2) (R2 A0 A1 a2) (ok A0 A1 a2) w) := by
  obtain ⟨s0, rfl, h0⟩ := h0
  obtain ⟨ao0, cap0, rfl⟩ := h0.shape
  obtain ⟨s1, rfl, h1⟩ := h1
  obtain ⟨ao1, cap1, rfl⟩ := h1.shape
  obtain ⟨w1, hw⟩ : ∃ x, x = ((((w.alloc (.cells #[(.slice ao0 A0.length cap0)] 41)).alloc (.cells #[(.slice ao1 A1.length cap1)] 41)).alloc (.cells #[.slice none 0 0] 41)).alloc (.cells #[.slice none 0 0] 41)) := ⟨_, rfl⟩
  have BW : Hid (Below w.heap.size w w1) := by rw [hw]; exact new4 _ _ _ _ _
  have XP0 : Hid (Bx w1 w.heap.size (.slice ao0 A0.length cap0)) := by rw [hw]; exact Bx.alloc (Bx.alloc (Bx.alloc (Bx.new _ _ _) _) _) _
  have XP1 : Hid (Bx w1 (w.heap.size + 1) (.slice ao1 A1.length cap1)) := by rw [hw]; exact Bx.alloc (Bx.alloc (Bx.new2 _ _ _ _) _) _
  have XR : Hid (Bx w1 (w.heap.size + 1 + 1) (.slice none 0 0)) := by rw [hw]; exact Bx.alloc (Bx.new3 _ _ _ _ _) _
  have XQ : Hid (Bx w1 (w.heap.size + 1 + 1 + 1) (.slice none 0 0)) := by rw [hw]; exact bx4 _ _ _ _ _ _
  have L0 : Hid (Ls w1 (.slice ao0 A0.length cap0) A0) := Ls.below h0 BW.out
  have L1 : Hid (Ls w1 (.slice ao1 A1.length cap1) A1) := Ls.below h1 BW.out
  have LR : Hid (w.heap.size + 1 + 1 < w1.heap.size ∧ w.heap.size + 1 + 1 + 1 < w1.heap.size) := ⟨XR.out.lt, XQ.out.lt⟩
  have c0 := XP0.out.cell
  have c1 := XP1.out.cell
  have cR := XR.out.cell
  have fR := XR.out.free
  have XR1 : Hid (Bx w1 (w.heap.size + 1 + 1) (.slice none 0 0)) := XR
  have XQ1 : Hid (Bx w1 (w.heap.size + 1 + 1 + 1) (.slice none 0 0)) := XQ
  clear h0 h1
  go_enter Try.func21, Try.ntmps21
  go_wp2_with fail
  rw [← hw]
  clear hw
  have BC : Hid (Below w1.heap.size w1 w1) := Below.refl _ _
  refine (iover_any ⟨_, rfl, L0.out⟩ a2).mono ?_
  rintro e w2 ⟨rfl, b⟩
  replace BC : Hid (Below w1.heap.size w1 w2) := BC.out.trans (b.mono BC.out.size)
  replace XP0 : Hid (Bx w2 w.heap.size (.slice ao0 A0.length cap0)) := XP0.out.kept b
  replace XP1 : Hid (Bx w2 (w.heap.size + 1) (.slice ao1 A1.length cap1)) := XP1.out.kept b
  replace XR : Hid (Bx w2 (w.heap.size + 1 + 1) (.slice none 0 0)) := XR.out.kept b
  replace XQ : Hid (Bx w2 (w.heap.size + 1 + 1 + 1) (.slice none 0 0)) := XQ.out.kept b
  replace L0 : Hid (Ls w2 (.slice ao0 A0.length cap0) A0) := L0.out.below b
  replace L1 : Hid (Ls w2 (.slice ao1 A1.length cap1) A1) := L1.out.below b
  replace c0 := XP0.out.cell
  replace c1 := XP1.out.cell
  replace cR := XR.out.cell
  replace fR := XR.out.free
  clear b
  cases hv0 : over A0 a2 with
  | false =>
    have HK : Hid (ok A0 A1 a2 = false) := by show _ = _; unfold ok; rw [hv0]; rfl
    have HR : Hid (Ans2I (R A0 A1 a2) (R2 A0 A1 a2) (ok A0 A1 a2) w (.returned (.tuple #[.agg #[.slice none 0 0], .agg #[.slice none 0 0], .bool false])) ((w2.setCell ⟨w.heap.size + 1 + 1, 0, none⟩ (.slice none 0 0)).setCell ⟨w.heap.size + 1 + 1 + 1, 0, none⟩ (.slice none 0 0))) := by
      have e1 : R A0 A1 a2 = [] := if_neg (by rw [HK.out]; decide)
      have e2 : R2 A0 A1 a2 = [] := if_neg (by rw [HK.out]; decide)
      rw [e1, e2, HK.out]; exact (out2_no (BW.out.trans (BC.out.mono BW.out.size)) (by omega) (by omega))
    obtain ⟨⟨y1, y2⟩, z1, z2⟩ := two_set XR.out XQ.out (by omega) (.slice none 0 0) (.slice none 0 0)
    go_wp2_with fail
    exact bodyPost_ret (v := .tuple #[.agg #[.slice none 0 0], .agg #[.slice none 0 0], .bool false]) (by simp [results, Try.results21, y1, y2, go_sem]) rfl HR.out
  | true =>
    have Hv0 : Hid (over A0 a2 = true) := hv0
    clear hv0
    go_wp2_with fail
    refine (iover_any ⟨_, rfl, L1.out⟩ a2).mono ?_
    rintro e w3 ⟨rfl, b⟩
    replace BC : Hid (Below w1.heap.size w1 w3) := BC.out.trans (b.mono BC.out.size)
    replace XP0 : Hid (Bx w3 w.heap.size (.slice ao0 A0.length cap0)) := XP0.out.kept b
    replace XP1 : Hid (Bx w3 (w.heap.size + 1) (.slice ao1 A1.length cap1)) := XP1.out.kept b
    replace XR : Hid (Bx w3 (w.heap.size + 1 + 1) (.slice none 0 0)) := XR.out.kept b
    replace XQ : Hid (Bx w3 (w.heap.size + 1 + 1 + 1) (.slice none 0 0)) := XQ.out.kept b
    replace L0 : Hid (Ls w3 (.slice ao0 A0.length cap0) A0) := L0.out.below b
    replace L1 : Hid (Ls w3 (.slice ao1 A1.length cap1) A1) := L1.out.below b
    replace c0 := XP0.out.cell
    replace c1 := XP1.out.cell
    replace cR := XR.out.cell
    replace fR := XR.out.free
    clear b
    cases hv1 : over A1 a2 with
    | false =>
      have HK : Hid (ok A0 A1 a2 = false) := by show _ = _; unfold ok; rw [Hv0.out, hv1]; rfl
      have HR : Hid (Ans2I (R A0 A1 a2) (R2 A0 A1 a2) (ok A0 A1 a2) w (.returned (.tuple #[.agg #[.slice none 0 0], .agg #[.slice none 0 0], .bool false])) ((w3.setCell ⟨w.heap.size + 1 + 1, 0, none⟩ (.slice none 0 0)).setCell ⟨w.heap.size + 1 + 1 + 1, 0, none⟩ (.slice none 0 0))) := by
        have e1 : R A0 A1 a2 = [] := if_neg (by rw [HK.out]; decide)
        have e2 : R2 A0 A1 a2 = [] := if_neg (by rw [HK.out]; decide)
        rw [e1, e2, HK.out]; exact (out2_no (BW.out.trans (BC.out.mono BW.out.size)) (by omega) (by omega))
      obtain ⟨⟨y1, y2⟩, z1, z2⟩ := two_set XR.out XQ.out (by omega) (.slice none 0 0) (.slice none 0 0)
      go_wp2_with fail
      exact bodyPost_ret (v := .tuple #[.agg #[.slice none 0 0], .agg #[.slice none 0 0], .bool false]) (by simp [results, Try.results21, y1, y2, go_sem]) rfl HR.out
    | true =>
      have Hv1 : Hid (over A1 a2 = true) := hv1
      clear hv1
      go_wp2_with fail
      refine (izr_any L1.out (over_val Hv1.out).2.1).mono ?_
      rintro e w0 ⟨rfl, hw0⟩
      rw [hw0]
      clear hw0
      cases hz : zr A1 with
      | true =>
        have HK : Hid (ok A0 A1 a2 = false) := by show _ = _; unfold ok; rw [Hv0.out, Hv1.out, hz]; rfl
        have HR : Hid (Ans2I (R A0 A1 a2) (R2 A0 A1 a2) (ok A0 A1 a2) w (.returned (.tuple #[.agg #[.slice none 0 0], .agg #[.slice none 0 0], .bool false])) ((w3.setCell ⟨w.heap.size + 1 + 1, 0, none⟩ (.slice none 0 0)).setCell ⟨w.heap.size + 1 + 1 + 1, 0, none⟩ (.slice none 0 0))) := by
          have e1 : R A0 A1 a2 = [] := if_neg (by rw [HK.out]; decide)
          have e2 : R2 A0 A1 a2 = [] := if_neg (by rw [HK.out]; decide)
          rw [e1, e2, HK.out]; exact (out2_no (BW.out.trans (BC.out.mono BW.out.size)) (by omega) (by omega))
        obtain ⟨⟨y1, y2⟩, z1, z2⟩ := two_set XR.out XQ.out (by omega) (.slice none 0 0) (.slice none 0 0)
        go_wp2_with fail
        exact bodyPost_ret (v := .tuple #[.agg #[.slice none 0 0], .agg #[.slice none 0 0], .bool false]) (by simp [results, Try.results21, y1, y2, go_sem]) rfl HR.out
      | false =>
        have HK : Hid (ok A0 A1 a2 = true) := by show _ = _; unfold ok; rw [Hv0.out, Hv1.out, hz]; rfl
        have HG : Hid (Gd A0 a2 ∧ Gd A1 a2 ∧ A1 ≠ [0] ∧ isP a2 = true) := ok_gd HK.out
        have HLS : Hid (at' A1 (A1.length - 1) ≠ 0) := clean_last HG.out.2.1.2.2 HG.out.2.2.1 HG.out.2.1.1.1
        clear hz
        go_wp2_with fail
        clear cR fR
        refine (idiv2_any L0.out L1.out HG.out.2.2.2 HG.out.1.1 (by have := HG.out.1.2.1; omega) HG.out.2.1.1 HG.out.2.1.2.1 HLS.out).mono ?_
        rintro e wd ⟨vq, vr, rfl, ⟨wm, hm, oq, orr⟩, b⟩
        have OQ : Hid (Own wd wm.heap.size wd.heap.size vq (dq A0 A1 a2)) := oq
        have OR : Hid (Own wd w1.heap.size wm.heap.size vr (dr A0 A1 a2)) := orr.wide BC.out.size (Nat.le_refl _)
        have HM : Hid (w1.heap.size ≤ wm.heap.size ∧ wm.heap.size ≤ wd.heap.size) := ⟨Nat.le_trans BC.out.size hm.1, hm.2⟩
        clear hm
        have BD : Hid (Below w1.heap.size w1 wd) := BC.out.trans (b.mono BC.out.size)
        have XRd : Hid (Bx wd (w.heap.size + 1 + 1) (.slice none 0 0)) := XR.out.kept b
        have XQd : Hid (Bx wd (w.heap.size + 1 + 1 + 1) (.slice none 0 0)) := XQ.out.kept b
        obtain ⟨qa, qc, rfl⟩ := OQ.out.shape
        obtain ⟨ra, rc, rfl⟩ := OR.out.shape
        have cR := XRd.out.cell
        have fR := XRd.out.free
        obtain ⟨⟨y1, y2⟩, z1, z2⟩ := two_set XRd.out XQd.out (by omega) (.slice qa (dq A0 A1 a2).length qc) (.slice ra (dr A0 A1 a2).length rc)
        have HR : Hid (Ans2I (R A0 A1 a2) (R2 A0 A1 a2) (ok A0 A1 a2) w (.returned (.tuple #[.agg #[.slice qa (dq A0 A1 a2).length qc], .agg #[.slice ra (dr A0 A1 a2).length rc], .bool true])) ((wd.setCell ⟨w.heap.size + 1 + 1, 0, none⟩ (.slice qa (dq A0 A1 a2).length qc)).setCell ⟨w.heap.size + 1 + 1 + 1, 0, none⟩ (.slice ra (dr A0 A1 a2).length rc))) := by
          have e1 : R A0 A1 a2 = dq A0 A1 a2 := if_pos HK.out
          have e2 : R2 A0 A1 a2 = dr A0 A1 a2 := if_pos HK.out
          rw [e1, e2, HK.out]; exact out2_yes BW.out (by omega) LR.out.1 (by omega) LR.out.2 HM.out OQ.out OR.out BD.out
        clear oq orr b OQ OR
        generalize (dq A0 A1 a2).length = lq at *
        generalize (dr A0 A1 a2).length = lr at *
        go_wp2_with fail
        exact bodyPost_ret (v := .tuple #[.agg #[.slice qa lq qc], .agg #[.slice ra lr rc], .bool true]) (by simp [results, Try.results21, y1, y2, go_sem]) rfl HR.out
end Go.Proofs.Ytibpahkjjjhapac.fDivideOver
