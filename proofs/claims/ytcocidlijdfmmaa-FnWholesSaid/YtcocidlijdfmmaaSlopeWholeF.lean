/- SlopeWhole: what both sides answer. -/
import Derived.Test.YtcocidlijdfmmaaFnO
import Derived.Test.YtcocidlijdfmmaaFnP
namespace Go.Pl
/-- the slope's terms; none for a single term -/
def slope (L : List Int) : List Int := (List.range (L.length - 1)).map fun (k : Nat) => ((k : Int) + 1) * at' L (k + 1)
theorem slope_len (L : List Int) : (slope L).length = L.length - 1 := by simp [slope]
theorem slope_get (L : List Int) (k : Nat) (h : k < L.length - 1) : (slope L)[k]? = some (((k : Int) + 1) * at' L (k + 1)) := by simp [slope, h]
/-- a single 0 for a single term -/
def slope1 (L : List Int) : List Int := if L.length ≤ 1 then [0] else slope L
theorem slope_trim (L : List Int) : trim (slope1 L) = trim (slope L) := by
  unfold slope1
  split
  · rename_i h
    have : slope L = [] := List.eq_nil_of_length_eq_zero (by rw [slope_len]; omega)
    rw [this]; rfl
  · rfl
theorem slope1_ne (L : List Int) : slope1 L ≠ [] := by
  unfold slope1
  split
  · simp
  · intro e
    have := slope_len L
    rw [e] at this
    simp at this
    omega
theorem slope1_len (L : List Int) : (slope1 L).length = max 1 (L.length - 1) := by
  unfold slope1
  split
  · simp; omega
  · rw [slope_len]; omega
end Go.Pl
namespace Go.Proofs.Ytcocidlijdfmmaa.fSlopeWhole
open Go.RowKit Go.Pl Go.Proofs.Ytcocidlijdfmmaa.wh
def R (A : List Int) : List Int := if val A = true then gv (slope1 A) else []
def ok (A : List Int) : Bool := val A && val (trim (slope1 A))
theorem len (A : List Int) : (R A).length ≤ 17 := by
  unfold R
  split
  · exact gv_len _
  · simp

set_option maxRecDepth 100000 in
set_option maxHeartbeats 4000000 in
theorem impl_any {A0 : List Int} {v0 : Value} {w : World} (h0 : Wh w v0 A0)  : Calls Try.prog 16 #[v0] w (AnsI (R A0) (ok A0) w) := by
  obtain ⟨s0, rfl, h0⟩ := h0
  obtain ⟨ao0, cap0, rfl⟩ := h0.shape
  have R0 : Hid (Rd w w.heap.size (.slice ao0 A0.length cap0) A0) := h0
  clear h0
  have B0 : Hid (Below w.heap.size w w) := Below.refl _ _
  obtain ⟨w1, hw⟩ : ∃ x, x = ((w.alloc (.cells #[(.slice ao0 A0.length cap0)] 26)).alloc (.cells #[.slice none 0 0] 26)) := ⟨_, rfl⟩
  have b : Below w.heap.size w w1 := by rw [hw]; exact new2 _ _ _ 
  have Zw1 : Hid (w.heap.size ≤ w1.heap.size) := b.size
  replace B0 : Hid (Below w.heap.size w w1) := B0.out.trans (b.mono (Nat.le_refl _))
  replace R0 : Hid (Rd w1 w.heap.size (.slice ao0 A0.length cap0) A0) := R0.out.below b (Nat.le_refl _)
  have XP0 : Hid (Bx w1 w.heap.size (.slice ao0 A0.length cap0)) := by rw [hw]; exact Bx.alloc (Bx.new _ _ _) _
  have cXP0 : w1.cell? ⟨w.heap.size, 0, none⟩ = some (.slice ao0 A0.length cap0) := XP0.out.cell
  have XR : Hid (Bx w1 (w.heap.size + 1) (.slice none 0 0)) := by rw [hw]; exact Bx.new2 _ _ _ _ 
  have cXR : w1.cell? ⟨(w.heap.size + 1), 0, none⟩ = some (.slice none 0 0) := XR.out.cell
  have fXR : w1.frozen? ⟨(w.heap.size + 1), 0, none⟩ = false := XR.out.free
  have B1 : Hid (Below w1.heap.size w1 w1) := Below.refl _ _
  have BW : Hid (Below w.heap.size w w1) := B0.out
  have LR : Hid ((w.heap.size + 1) < w1.heap.size) := XR.out.lt
  have XR1 : Hid (Bx w1 (w.heap.size + 1) (.slice none 0 0)) := XR.out
  clear b
  go_enter Try.func16, Try.ntmps16
  go_wp2_with fail
  rw [← hw]
  clear hw
  refine (valid_any ⟨_, rfl, (R0.out.ls (by have := Zw1.out; omega))⟩).mono ?_
  rintro e w2 ⟨rfl, b⟩
  have Zw2 : Hid (w1.heap.size ≤ w2.heap.size) := b.size
  replace B0 : Hid (Below w.heap.size w w2) := B0.out.trans (b.mono (by have := Zw1.out; omega))
  replace B1 : Hid (Below w1.heap.size w1 w2) := B1.out.trans (b.mono (Nat.le_refl _))
  replace R0 : Hid (Rd w2 w.heap.size (.slice ao0 A0.length cap0) A0) := R0.out.below b (by have := Zw1.out; omega)
  replace XP0 : Hid (Bx w2 w.heap.size (.slice ao0 A0.length cap0)) := XP0.out.kept b
  replace cXP0 : w2.cell? ⟨w.heap.size, 0, none⟩ = some (.slice ao0 A0.length cap0) := XP0.out.cell
  replace XR : Hid (Bx w2 (w.heap.size + 1) (.slice none 0 0)) := XR.out.kept b
  replace cXR : w2.cell? ⟨(w.heap.size + 1), 0, none⟩ = some (.slice none 0 0) := XR.out.cell
  replace fXR : w2.frozen? ⟨(w.heap.size + 1), 0, none⟩ = false := XR.out.free
  clear b
  cases hv0 : val A0 with
  | false =>
    have Y := out_no B0.out (by omega) XR.out
    have HR : Hid (AnsI (R A0) (ok A0) w (.returned (.tuple #[.agg #[.slice none 0 0], .bool false])) (w2.setCell ⟨(w.heap.size + 1), 0, none⟩ (.slice none 0 0))) := by
      have e1 : R A0 = [] := by simp [R, hv0]
      have e2 : ok A0 = false := by simp [ok, hv0]
      rw [e1, e2]; exact Y.1
    have y := Y.2
    clear Y
    go_wp2_with fail
    exact bodyPost_ret (v := .tuple #[.agg #[.slice none 0 0], .bool false]) (by simp [results, Try.results16, y, go_sem]) rfl HR.out
  | true =>
    have Hhv0 : Hid (val A0 = true) := hv0
    clear hv0
    obtain ⟨_, hcap, hcc⟩ := R0.out.use
    have V0 := val_iff.1 Hhv0.out
    have hp0 := V0.pos
    have hL := V0.le
    have HR : Hid (inR (-1000000) 1000000 A0) := V0.2.2.1
    obtain ⟨b, off, rfl, hbw, hcell⟩ := hcc (by omega)
    have HC : Hid (∀ (k : Nat) (z : Int), A0[k]? = some z → w2.cell? ⟨b, off + k, none⟩ = some (.int .i64 z)) := hcell
    have HBw : Hid (b < w2.heap.size) := by have := B0.out.size; show b < _; omega
    obtain ⟨i0, hi, hz0, hz1, hz2⟩ := info_parts info_i
    obtain ⟨n, hnn⟩ : ∃ n, n = A0.length := ⟨_, rfl⟩
    rw [← hnn] at hcap hp0 hL R0 XP0 cXP0
    have HN : Hid (n = A0.length) := hnn
    obtain ⟨m, hm⟩ : ∃ m, n = m + 1 := ⟨n - 1, by omega⟩
    have hsub : ((m + 1 : Nat) : Int) - 1 = (m : Int) := by omega
    have hcm : ((m : Int) + 1) - 1 = (m : Int) := by omega
    have HM : Hid (m = A0.length - 1) := by (have := HN.out; show m = _; omega)
    clear hnn hcell hbw V0 hcc
    obtain ⟨G, hG⟩ : ∃ G, G = w2.heap.size := ⟨_, rfl⟩
    have HG : Hid (G = w2.heap.size) := hG
    by_cases hm1 : 1 < (m : Int)
    · have hml : m ≤ maxLen := by unfold maxLen; omega
      go_wp2_with (first | (refine wpList_make_full _ rfl (.tmp 15) (.tmp 15) 24 rfl w2.heap.size 2 i0 (.int .i64 0) 1 Try.underlying24 hi hz0 hz1 .i64 .i64 _ _ m rfl rfl rfl rfl (by rw [hz2]; omega) hml (Nat.le_refl _) ?_; intro wm hown hgrow; have BM : Hid (Below w2.heap.size w2 wm) := (Below.refl _ _).grown hgrow (Nat.le_refl _) (by intro k hk; cases hk); have cM := (XP0.out.kept BM.out).cell; clear hgrow))
      rw [rep_map] at hown
      rw [← hG] at hown
      rw [← hG]
      have start : Hid (wm.ownsRow G 2 1 (.slice (some ⟨G, 0, none⟩) m m) m ((List.replicate m (0 : Int)).map (Value.int .i64))) := hown
      clear hown hG hi hz0 hz1 hz2
      go_loopw [21] (fun i wr => ∃ (k : Nat) (Q : List Int), k ≤ m ∧ i = .int .i64 k ∧ Hid (wr.ownsRow G 2 1 (.slice (some ⟨G, 0, none⟩) m m) m (Q.map (Value.int .i64))) ∧ Hid (Q.length = m ∧ (m = 0 → Q = [0]) ∧ ∀ j, j < k → at' Q j = ((j : Int) + 1) * at' A0 (j + 1)) ∧ Hid (Below w2.heap.size w2 wr)) (fun i _ => m - (intOf i).toNat)
      case atStart => exact ⟨0, List.replicate m 0, by omega, rfl, start, ⟨by simp, fun h => by omega, fun j hj => by omega⟩, BM⟩
      case round =>
        obtain ⟨k, Q, hk, rfl, ho, hq, hb⟩ := hrel
        clear cM
        by_cases hlt : k < m
        · have e1 : wr.cell? ⟨b, off + 1 + k, none⟩ = some (.int .i64 (at' A0 (k + 1))) := by
            rw [show off + 1 + k = off + (k + 1) by omega]
            exact (hb.out.cell (p := ⟨b, off + (k + 1), none⟩) HBw.out).trans (HC.out (k + 1) _ (at_some A0 (k + 1) (by have := HN.out; omega)))
          have hql : Q.length = m := hq.out.1
          have e2 : wr.cell? ⟨G, k, none⟩ = some (.int .i64 (at' Q k)) := by
            rw [ho.out.cellAt k (by omega), List.getElem?_map, at_some _ _ (by omega)]; rfl
          have e3 : wr.frozen? ⟨G, k, none⟩ = false := ho.out.frozenAt k
          have hbd := HR.out.at (by omega) (by omega) (k + 1)
          have hpr := mul_le (A := 1000000) (B := 17) (a := at' A0 (k + 1)) (b := (k : Int) + 1) hbd (by omega)
          obtain ⟨y, hy⟩ : ∃ y, y = at' A0 (k + 1) := ⟨_, rfl⟩
          have HY : Hid (y = at' A0 (k + 1)) := hy
          rw [← hy] at e1 hpr
          clear hy hbd
          have w1' : IntKind.i64.wrap (y * ((k : Int) + 1)) = y * ((k : Int) + 1) := IntWalk.i64_in _ (by omega)
          have w2' : wrap64 (y * ((k : Int) + 1)) = y * ((k : Int) + 1) := IntWalk.wrap64_in _ (by omega)
          have HO : Hid ((wr.setCell ⟨G, k, none⟩ (.int .i64 (y * ((k : Int) + 1)))).ownsRow G 2 1 (.slice (some ⟨G, 0, none⟩) m m) m ((Q.set k (y * ((k : Int) + 1))).map (Value.int .i64))) := by
            have := (ho.out.stored k (.int .i64 (y * ((k : Int) + 1)))).1
            rw [← List.map_set] at this
            exact this
          have HQ : Hid ((Q.set k (y * ((k : Int) + 1))).length = m ∧ (m = 0 → Q.set k (y * ((k : Int) + 1)) = [0]) ∧ ∀ j, j < k + 1 → at' (Q.set k (y * ((k : Int) + 1))) j = ((j : Int) + 1) * at' A0 (j + 1)) := by
            refine ⟨by rw [List.length_set]; exact hql, fun h => by omega, fun j hj => ?_⟩
            by_cases e : j = k
            · subst e
              unfold at'
              rw [List.getElem?_set_self (by omega)]
              have := HY.out
              unfold at' at this
              rw [← this]
              simp [Int.mul_comm]
            · have := hq.out.2.2 j (by omega)
              unfold at' at this ⊢
              rw [List.getElem?_set_ne (by omega)]
              exact this
          have HB : Hid (Below w2.heap.size w2 (wr.setCell ⟨G, k, none⟩ (.int .i64 (y * ((k : Int) + 1))))) := hb.out.setCell (p := ⟨G, k, none⟩) (by have := HG.out; show w2.heap.size ≤ G; omega) _
          have hst := store_int (b := y * ((k : Int) + 1)) e2 e3
          clear hpr ho hq hb hql
          go_wp2
          go_roundw
          case rel => exact ⟨k + 1, _, by omega, by go_num, HO, HQ, HB⟩
          case measure => simp [intOf]; omega
        · obtain rfl : m = k := by omega
          have hQ : Q = slope1 A0 := by
            obtain ⟨h1, h2, h3⟩ := hq.out
            by_cases h0 : m = 0
            · rw [h2 h0]; unfold slope1; rw [if_pos (by have := HN.out; omega)]
            · unfold slope1
              rw [if_neg (by have := HN.out; omega)]
              apply List.ext_getElem?
              intro j
              by_cases hj : j < m
              · rw [at_some Q j (by omega), h3 j hj, slope_get A0 j (by have := HN.out; omega)]
              · rw [List.getElem?_eq_none (by omega), List.getElem?_eq_none (by rw [slope_len]; have := HN.out; omega)]
          have OX : Hid (Own wr w1.heap.size wr.heap.size (.slice (some ⟨G, 0, none⟩) m m) (slope1 A0)) := by
            have h1 : m = (slope1 A0).length := by rw [← hQ]; exact hq.out.1.symm
            have h2 := ho.out
            rw [hQ] at h2
            have h3 : wr.ownsRow G 2 1 (.slice (some ⟨G, 0, none⟩) m m) (slope1 A0).length ((slope1 A0).map (Value.int .i64)) := by rw [← h1]; exact h2
            exact (Own.of_row h3 (by omega) (Nat.le_refl _)).wide (by have := HG.out; have := B1.out.size; omega) (Nat.le_refl _)
          have BW2 : Hid (Below w1.heap.size w1 wr) := B1.out.trans (hb.out.mono B1.out.size)
          have XRr : Hid (Bx wr (w.heap.size + 1) (.slice none 0 0)) := XR.out.kept hb.out
          have fR := XRr.out.free
          have cR := XRr.out.cell
          clear ho hq hQ start
          go_wp2_with fail
          refine (wo_any (w0 := w1) (OX.out) BW2.out (slope1_ne A0)).mono ?_
          rintro e w3 ⟨_, rfl, ⟨s, rfl, o⟩, bb⟩
          obtain ⟨ra, rc, rfl⟩ := o.shape
          have XR3 := XR1.out.below bb LR.out
          have c3 := XR3.cell
          have f3 := XR3.free
          have Y := out_yes (ok := val (trim (slope1 A0))) (W1 := w1) (w := w) (r := (w.heap.size + 1)) BW.out (by omega) LR.out XR3 o bb
          have HRR : Hid (AnsI (R A0) (ok A0) w (.returned (.tuple #[.agg #[.slice ra (gv (slope1 A0)).length rc], .bool (val (trim (slope1 A0)))])) (w3.setCell ⟨(w.heap.size + 1), 0, none⟩ (.slice ra (gv (slope1 A0)).length rc))) := by
            have e1 : R A0 = gv (slope1 A0) := by simp [R, Hhv0.out]
            have e2 : ok A0 = val (trim (slope1 A0)) := by simp [ok, Hhv0.out]
            rw [e1, e2]; exact Y.1
          have y := Y.2
          clear Y o bb XR3
          generalize val (trim (slope1 A0)) = gb at *
          generalize (gv (slope1 A0)).length = gl at *
          go_wp2_with fail
          exact bodyPost_ret (v := .tuple #[.agg #[.slice ra gl rc], .bool gb]) (by simp [results, Try.results16, y, go_sem]) rfl HRR.out
    · have hml : 1 ≤ maxLen := by unfold maxLen; omega
      by_cases hcap1 : cap0 = 1
      · subst hcap1
        go_wp2_with (first | (refine wpList_make_full _ rfl (.tmp 15) (.tmp 15) 24 rfl w2.heap.size 2 i0 (.int .i64 0) 1 Try.underlying24 hi hz0 hz1 .i64 .i64 _ _ 1 rfl rfl rfl rfl (by rw [hz2]; omega) hml (Nat.le_refl _) ?_; intro wm hown hgrow; have BM : Hid (Below w2.heap.size w2 wm) := (Below.refl _ _).grown hgrow (Nat.le_refl _) (by intro k hk; cases hk); have cM := (XP0.out.kept BM.out).cell; clear hgrow))
        rw [rep_map] at hown
        rw [← hG] at hown
        rw [← hG]
        have start : Hid (wm.ownsRow G 2 1 (.slice (some ⟨G, 0, none⟩) 1 1) 1 ((List.replicate 1 (0 : Int)).map (Value.int .i64))) := hown
        clear hown hG hi hz0 hz1 hz2
        go_loopw [21] (fun i wr => ∃ (k : Nat) (Q : List Int), k ≤ m ∧ i = .int .i64 k ∧ Hid (wr.ownsRow G 2 1 (.slice (some ⟨G, 0, none⟩) 1 1) 1 (Q.map (Value.int .i64))) ∧ Hid (Q.length = 1 ∧ (m = 0 → Q = [0]) ∧ ∀ j, j < k → at' Q j = ((j : Int) + 1) * at' A0 (j + 1)) ∧ Hid (Below w2.heap.size w2 wr)) (fun i _ => m - (intOf i).toNat)
        case atStart => exact ⟨0, List.replicate 1 0, by omega, rfl, start, ⟨by simp, fun h => by rfl, fun j hj => by omega⟩, BM⟩
        case round =>
          obtain ⟨k, Q, hk, rfl, ho, hq, hb⟩ := hrel
          clear cM
          by_cases hlt : k < m
          · exact absurd hlt (by omega)
          · obtain rfl : m = k := by omega
            have hQ : Q = slope1 A0 := by
              obtain ⟨h1, h2, h3⟩ := hq.out
              by_cases h0 : m = 0
              · rw [h2 h0]; unfold slope1; rw [if_pos (by have := HN.out; omega)]
              · unfold slope1
                rw [if_neg (by have := HN.out; omega)]
                apply List.ext_getElem?
                intro j
                by_cases hj : j < m
                · rw [at_some Q j (by omega), h3 j hj, slope_get A0 j (by have := HN.out; omega)]
                · rw [List.getElem?_eq_none (by omega), List.getElem?_eq_none (by rw [slope_len]; have := HN.out; omega)]
            have OX : Hid (Own wr w1.heap.size wr.heap.size (.slice (some ⟨G, 0, none⟩) 1 1) (slope1 A0)) := by
              have h1 : 1 = (slope1 A0).length := by rw [← hQ]; exact hq.out.1.symm
              have h2 := ho.out
              rw [hQ] at h2
              have h3 : wr.ownsRow G 2 1 (.slice (some ⟨G, 0, none⟩) 1 1) (slope1 A0).length ((slope1 A0).map (Value.int .i64)) := by rw [← h1]; exact h2
              exact (Own.of_row h3 (by omega) (Nat.le_refl _)).wide (by have := HG.out; have := B1.out.size; omega) (Nat.le_refl _)
            have BW2 : Hid (Below w1.heap.size w1 wr) := B1.out.trans (hb.out.mono B1.out.size)
            have XRr : Hid (Bx wr (w.heap.size + 1) (.slice none 0 0)) := XR.out.kept hb.out
            have fR := XRr.out.free
            have cR := XRr.out.cell
            clear ho hq hQ start
            go_wp2_with fail
            refine (wo_any (w0 := w1) (OX.out) BW2.out (slope1_ne A0)).mono ?_
            rintro e w3 ⟨_, rfl, ⟨s, rfl, o⟩, bb⟩
            obtain ⟨ra, rc, rfl⟩ := o.shape
            have XR3 := XR1.out.below bb LR.out
            have c3 := XR3.cell
            have f3 := XR3.free
            have Y := out_yes (ok := val (trim (slope1 A0))) (W1 := w1) (w := w) (r := (w.heap.size + 1)) BW.out (by omega) LR.out XR3 o bb
            have HRR : Hid (AnsI (R A0) (ok A0) w (.returned (.tuple #[.agg #[.slice ra (gv (slope1 A0)).length rc], .bool (val (trim (slope1 A0)))])) (w3.setCell ⟨(w.heap.size + 1), 0, none⟩ (.slice ra (gv (slope1 A0)).length rc))) := by
              have e1 : R A0 = gv (slope1 A0) := by simp [R, Hhv0.out]
              have e2 : ok A0 = val (trim (slope1 A0)) := by simp [ok, Hhv0.out]
              rw [e1, e2]; exact Y.1
            have y := Y.2
            clear Y o bb XR3
            generalize val (trim (slope1 A0)) = gb at *
            generalize (gv (slope1 A0)).length = gl at *
            go_wp2_with fail
            exact bodyPost_ret (v := .tuple #[.agg #[.slice ra gl rc], .bool gb]) (by simp [results, Try.results16, y, go_sem]) rfl HRR.out
      · go_wp2_with (first | (refine wpList_make_full _ rfl (.tmp 15) (.tmp 15) 24 rfl w2.heap.size 2 i0 (.int .i64 0) 1 Try.underlying24 hi hz0 hz1 .i64 .i64 _ _ 1 rfl rfl rfl rfl (by rw [hz2]; omega) hml (Nat.le_refl _) ?_; intro wm hown hgrow; have BM : Hid (Below w2.heap.size w2 wm) := (Below.refl _ _).grown hgrow (Nat.le_refl _) (by intro k hk; cases hk); have cM := (XP0.out.kept BM.out).cell; clear hgrow))
        rw [rep_map] at hown
        rw [← hG] at hown
        rw [← hG]
        have start : Hid (wm.ownsRow G 2 1 (.slice (some ⟨G, 0, none⟩) 1 1) 1 ((List.replicate 1 (0 : Int)).map (Value.int .i64))) := hown
        clear hown hG hi hz0 hz1 hz2
        go_loopw [21] (fun i wr => ∃ (k : Nat) (Q : List Int), k ≤ m ∧ i = .int .i64 k ∧ Hid (wr.ownsRow G 2 1 (.slice (some ⟨G, 0, none⟩) 1 1) 1 (Q.map (Value.int .i64))) ∧ Hid (Q.length = 1 ∧ (m = 0 → Q = [0]) ∧ ∀ j, j < k → at' Q j = ((j : Int) + 1) * at' A0 (j + 1)) ∧ Hid (Below w2.heap.size w2 wr)) (fun i _ => m - (intOf i).toNat)
        case atStart => exact ⟨0, List.replicate 1 0, by omega, rfl, start, ⟨by simp, fun h => by rfl, fun j hj => by omega⟩, BM⟩
        case round =>
          obtain ⟨k, Q, hk, rfl, ho, hq, hb⟩ := hrel
          clear cM
          by_cases hlt : k < m
          · have e1 : wr.cell? ⟨b, off + 1 + k, none⟩ = some (.int .i64 (at' A0 (k + 1))) := by
              rw [show off + 1 + k = off + (k + 1) by omega]
              exact (hb.out.cell (p := ⟨b, off + (k + 1), none⟩) HBw.out).trans (HC.out (k + 1) _ (at_some A0 (k + 1) (by have := HN.out; omega)))
            have hql : Q.length = 1 := hq.out.1
            have e2 : wr.cell? ⟨G, k, none⟩ = some (.int .i64 (at' Q k)) := by
              rw [ho.out.cellAt k (by omega), List.getElem?_map, at_some _ _ (by omega)]; rfl
            have e3 : wr.frozen? ⟨G, k, none⟩ = false := ho.out.frozenAt k
            have hbd := HR.out.at (by omega) (by omega) (k + 1)
            have hpr := mul_le (A := 1000000) (B := 17) (a := at' A0 (k + 1)) (b := (k : Int) + 1) hbd (by omega)
            obtain ⟨y, hy⟩ : ∃ y, y = at' A0 (k + 1) := ⟨_, rfl⟩
            have HY : Hid (y = at' A0 (k + 1)) := hy
            rw [← hy] at e1 hpr
            clear hy hbd
            have w1' : IntKind.i64.wrap (y * ((k : Int) + 1)) = y * ((k : Int) + 1) := IntWalk.i64_in _ (by omega)
            have w2' : wrap64 (y * ((k : Int) + 1)) = y * ((k : Int) + 1) := IntWalk.wrap64_in _ (by omega)
            have HO : Hid ((wr.setCell ⟨G, k, none⟩ (.int .i64 (y * ((k : Int) + 1)))).ownsRow G 2 1 (.slice (some ⟨G, 0, none⟩) 1 1) 1 ((Q.set k (y * ((k : Int) + 1))).map (Value.int .i64))) := by
              have := (ho.out.stored k (.int .i64 (y * ((k : Int) + 1)))).1
              rw [← List.map_set] at this
              exact this
            have HQ : Hid ((Q.set k (y * ((k : Int) + 1))).length = 1 ∧ (m = 0 → Q.set k (y * ((k : Int) + 1)) = [0]) ∧ ∀ j, j < k + 1 → at' (Q.set k (y * ((k : Int) + 1))) j = ((j : Int) + 1) * at' A0 (j + 1)) := by
              refine ⟨by rw [List.length_set]; exact hql, fun h => by omega, fun j hj => ?_⟩
              by_cases e : j = k
              · subst e
                unfold at'
                rw [List.getElem?_set_self (by omega)]
                have := HY.out
                unfold at' at this
                rw [← this]
                simp [Int.mul_comm]
              · have := hq.out.2.2 j (by omega)
                unfold at' at this ⊢
                rw [List.getElem?_set_ne (by omega)]
                exact this
            have HB : Hid (Below w2.heap.size w2 (wr.setCell ⟨G, k, none⟩ (.int .i64 (y * ((k : Int) + 1))))) := hb.out.setCell (p := ⟨G, k, none⟩) (by have := HG.out; show w2.heap.size ≤ G; omega) _
            have hst := store_int (b := y * ((k : Int) + 1)) e2 e3
            clear hpr ho hq hb hql
            go_wp2
            go_roundw
            case rel => exact ⟨k + 1, _, by omega, by go_num, HO, HQ, HB⟩
            case measure => simp [intOf]; omega
          · obtain rfl : m = k := by omega
            have hQ : Q = slope1 A0 := by
              obtain ⟨h1, h2, h3⟩ := hq.out
              by_cases h0 : m = 0
              · rw [h2 h0]; unfold slope1; rw [if_pos (by have := HN.out; omega)]
              · unfold slope1
                rw [if_neg (by have := HN.out; omega)]
                apply List.ext_getElem?
                intro j
                by_cases hj : j < m
                · rw [at_some Q j (by omega), h3 j hj, slope_get A0 j (by have := HN.out; omega)]
                · rw [List.getElem?_eq_none (by omega), List.getElem?_eq_none (by rw [slope_len]; have := HN.out; omega)]
            have OX : Hid (Own wr w1.heap.size wr.heap.size (.slice (some ⟨G, 0, none⟩) 1 1) (slope1 A0)) := by
              have h1 : 1 = (slope1 A0).length := by rw [← hQ]; exact hq.out.1.symm
              have h2 := ho.out
              rw [hQ] at h2
              have h3 : wr.ownsRow G 2 1 (.slice (some ⟨G, 0, none⟩) 1 1) (slope1 A0).length ((slope1 A0).map (Value.int .i64)) := by rw [← h1]; exact h2
              exact (Own.of_row h3 (by omega) (Nat.le_refl _)).wide (by have := HG.out; have := B1.out.size; omega) (Nat.le_refl _)
            have BW2 : Hid (Below w1.heap.size w1 wr) := B1.out.trans (hb.out.mono B1.out.size)
            have XRr : Hid (Bx wr (w.heap.size + 1) (.slice none 0 0)) := XR.out.kept hb.out
            have fR := XRr.out.free
            have cR := XRr.out.cell
            clear ho hq hQ start
            go_wp2_with fail
            refine (wo_any (w0 := w1) (OX.out) BW2.out (slope1_ne A0)).mono ?_
            rintro e w3 ⟨_, rfl, ⟨s, rfl, o⟩, bb⟩
            obtain ⟨ra, rc, rfl⟩ := o.shape
            have XR3 := XR1.out.below bb LR.out
            have c3 := XR3.cell
            have f3 := XR3.free
            have Y := out_yes (ok := val (trim (slope1 A0))) (W1 := w1) (w := w) (r := (w.heap.size + 1)) BW.out (by omega) LR.out XR3 o bb
            have HRR : Hid (AnsI (R A0) (ok A0) w (.returned (.tuple #[.agg #[.slice ra (gv (slope1 A0)).length rc], .bool (val (trim (slope1 A0)))])) (w3.setCell ⟨(w.heap.size + 1), 0, none⟩ (.slice ra (gv (slope1 A0)).length rc))) := by
              have e1 : R A0 = gv (slope1 A0) := by simp [R, Hhv0.out]
              have e2 : ok A0 = val (trim (slope1 A0)) := by simp [ok, Hhv0.out]
              rw [e1, e2]; exact Y.1
            have y := Y.2
            clear Y o bb XR3
            generalize val (trim (slope1 A0)) = gb at *
            generalize (gv (slope1 A0)).length = gl at *
            go_wp2_with fail
            exact bodyPost_ret (v := .tuple #[.agg #[.slice ra gl rc], .bool gb]) (by simp [results, Try.results16, y, go_sem]) rfl HRR.out
end Go.Proofs.Ytcocidlijdfmmaa.fSlopeWhole
