/- AddWholes: what both sides answer. -/
import Derived.Test.YtledglanaacaeaaFnT
namespace Go.Proofs.Ytledglanaacaeaa.fAddWholes
open Go.RowKit Go.Pl Go.Proofs.Ytledglanaacaeaa.wh
def rg (x : Int) : Bool := decide (-1000 ≤ x ∧ x ≤ 1000)
theorem rg_s (x : Int) (w : World) : Calls Try.prog 95 #[.int .i64 x, .int .i64 (-1000), .int .i64 1000] w fun e w' => e = .returned (.bool (rg x)) ∧ w' = w := in_any x (-1000) 1000 w
theorem rg_i (x : Int) (w : World) : Calls Try.prog 64 #[.int .i64 x, .int .i64 (-1000), .int .i64 1000] w fun e w' => e = .returned (.bool (rg x)) ∧ w' = w := from_any x (-1000) 1000 w
theorem rg_bd {x : Int} (h : rg x = true) {L : List Int} (hv : Val L) (k : Nat) : -1000000000000 ≤ x * at' L k ∧ x * at' L k ≤ 1000000000000 := by
  have h1 := of_decide_eq_true h
  have h2 : inR (-1000000) 1000000 L := hv.2.2.1
  have := mul_le (A := 1000) (B := 1000000) (a := x) (b := at' L k) (by omega) (h2.at (by omega) (by omega) k)
  omega
def R (A B : List Int) (x y : Int) : List Int := if val A = true ∧ val B = true ∧ rg x = true ∧ rg y = true then gv (weigh A B x y) else []
def ok (A B : List Int) (x y : Int) : Bool := val A && (val B && (rg x && (rg y && val (trim (weigh A B x y)))))
theorem len (A B : List Int) (x y : Int) : (R A B x y).length ≤ 17 := by
  unfold R
  split
  · exact gv_len _
  · simp

set_option maxRecDepth 100000 in
set_option maxHeartbeats 4000000 in
theorem spec_any {A0 A1 : List Int} {v0 v1 : Value} {w : World} (h0 : Wh w v0 A0) (h1 : Wh w v1 A1) (a2 : Int) (_b2 : (Lit.int .i64 a2).wf = true) (a3 : Int) (_b3 : (Lit.int .i64 a3).wf = true) : Calls Try.prog 54 #[v0, v1, .int .i64 a2, .int .i64 a3] w (AnsI (R A0 A1 a2 a3) (ok A0 A1 a2 a3) w) := by
  obtain ⟨s0, rfl, h0⟩ := h0
  obtain ⟨ao0, cap0, rfl⟩ := h0.shape
  obtain ⟨s1, rfl, h1⟩ := h1
  obtain ⟨ao1, cap1, rfl⟩ := h1.shape
  have R0 : Hid (Rd w w.heap.size (.slice ao0 A0.length cap0) A0) := h0
  have R1 : Hid (Rd w w.heap.size (.slice ao1 A1.length cap1) A1) := h1
  clear h0 h1
  have B0 : Hid (Below w.heap.size w w) := Below.refl _ _
  obtain ⟨w1, hw⟩ : ∃ x, x = (((w.alloc (.cells #[(.slice ao0 A0.length cap0)] 26)).alloc (.cells #[(.slice ao1 A1.length cap1)] 26)).alloc (.cells #[.slice none 0 0] 26)) := ⟨_, rfl⟩
  have b : Below w.heap.size w w1 := by rw [hw]; exact new3 _ _ _ _ 
  have Zw1 : Hid (w.heap.size ≤ w1.heap.size) := b.size
  replace B0 : Hid (Below w.heap.size w w1) := B0.out.trans (b.mono (Nat.le_refl _))
  replace R0 : Hid (Rd w1 w.heap.size (.slice ao0 A0.length cap0) A0) := R0.out.below b (Nat.le_refl _)
  replace R1 : Hid (Rd w1 w.heap.size (.slice ao1 A1.length cap1) A1) := R1.out.below b (Nat.le_refl _)
  have XP0 : Hid (Bx w1 w.heap.size (.slice ao0 A0.length cap0)) := by rw [hw]; exact Bx.alloc (Bx.alloc (Bx.new _ _ _) _) _
  have cXP0 : w1.cell? ⟨w.heap.size, 0, none⟩ = some (.slice ao0 A0.length cap0) := XP0.out.cell
  have XP1 : Hid (Bx w1 (w.heap.size + 1) (.slice ao1 A1.length cap1)) := by rw [hw]; exact Bx.alloc (Bx.new2 _ _ _ _ ) _
  have cXP1 : w1.cell? ⟨(w.heap.size + 1), 0, none⟩ = some (.slice ao1 A1.length cap1) := XP1.out.cell
  have XR : Hid (Bx w1 (w.heap.size + 1 + 1) (.slice none 0 0)) := by rw [hw]; exact Bx.new3 _ _ _ _ _ 
  have cXR : w1.cell? ⟨(w.heap.size + 1 + 1), 0, none⟩ = some (.slice none 0 0) := XR.out.cell
  have fXR : w1.frozen? ⟨(w.heap.size + 1 + 1), 0, none⟩ = false := XR.out.free
  have B1 : Hid (Below w1.heap.size w1 w1) := Below.refl _ _
  have BW : Hid (Below w.heap.size w w1) := B0.out
  have LR : Hid ((w.heap.size + 1 + 1) < w1.heap.size) := XR.out.lt
  have XR1 : Hid (Bx w1 (w.heap.size + 1 + 1) (.slice none 0 0)) := XR.out
  clear b
  go_enter Try.func54, Try.ntmps54
  go_wp2_with fail
  rw [← hw]
  clear hw
  refine (is_any XP0.out.cell (R0.out.ls (by have := Zw1.out; omega))).mono ?_
  rintro e w0 ⟨rfl, hw0⟩
  rw [hw0]
  clear hw0
  cases hv0 : val A0 with
  | false =>
    have Y := out_no B0.out (by omega) XR.out
    have HR : Hid (AnsI (R A0 A1 a2 a3) (ok A0 A1 a2 a3) w (.returned (.tuple #[.agg #[.slice none 0 0], .bool false])) (w1.setCell ⟨(w.heap.size + 1 + 1), 0, none⟩ (.slice none 0 0))) := by
      have e1 : R A0 A1 a2 a3 = [] := by simp [R, hv0]
      have e2 : ok A0 A1 a2 a3 = false := by simp [ok, hv0]
      rw [e1, e2]; exact Y.1
    have y := Y.2
    clear Y
    go_wp2_with fail
    exact bodyPost_ret (v := .tuple #[.agg #[.slice none 0 0], .bool false]) (by simp [results, Try.results54, y, go_sem]) rfl HR.out
  | true =>
    have Hhv0 : Hid (val A0 = true) := hv0
    clear hv0
    go_wp2_with fail
    refine (is_any XP1.out.cell (R1.out.ls (by have := Zw1.out; omega))).mono ?_
    rintro e w0 ⟨rfl, hw0⟩
    rw [hw0]
    clear hw0
    cases hv1 : val A1 with
    | false =>
      have Y := out_no B0.out (by omega) XR.out
      have HR : Hid (AnsI (R A0 A1 a2 a3) (ok A0 A1 a2 a3) w (.returned (.tuple #[.agg #[.slice none 0 0], .bool false])) (w1.setCell ⟨(w.heap.size + 1 + 1), 0, none⟩ (.slice none 0 0))) := by
        have e1 : R A0 A1 a2 a3 = [] := by simp [R, Hhv0.out, hv1]
        have e2 : ok A0 A1 a2 a3 = false := by simp [ok, Hhv0.out, hv1]
        rw [e1, e2]; exact Y.1
      have y := Y.2
      clear Y
      go_wp2_with fail
      exact bodyPost_ret (v := .tuple #[.agg #[.slice none 0 0], .bool false]) (by simp [results, Try.results54, y, go_sem]) rfl HR.out
    | true =>
      have Hhv1 : Hid (val A1 = true) := hv1
      clear hv1
      go_wp2_with fail
      refine (rg_s a2 _).mono ?_
      rintro e w0 ⟨rfl, hw0⟩
      rw [hw0]
      clear hw0
      cases hx : rg a2 with
      | false =>
        have Y := out_no B0.out (by omega) XR.out
        have HR : Hid (AnsI (R A0 A1 a2 a3) (ok A0 A1 a2 a3) w (.returned (.tuple #[.agg #[.slice none 0 0], .bool false])) (w1.setCell ⟨(w.heap.size + 1 + 1), 0, none⟩ (.slice none 0 0))) := by
          have e1 : R A0 A1 a2 a3 = [] := by simp [R, Hhv0.out, Hhv1.out, hx]
          have e2 : ok A0 A1 a2 a3 = false := by simp [ok, Hhv0.out, Hhv1.out, hx]
          rw [e1, e2]; exact Y.1
        have y := Y.2
        clear Y
        go_wp2_with fail
        exact bodyPost_ret (v := .tuple #[.agg #[.slice none 0 0], .bool false]) (by simp [results, Try.results54, y, go_sem]) rfl HR.out
      | true =>
        have Hhx : Hid (rg a2 = true) := hx
        clear hx
        go_wp2_with fail
        refine (rg_s a3 _).mono ?_
        rintro e w0 ⟨rfl, hw0⟩
        rw [hw0]
        clear hw0
        cases hy : rg a3 with
        | false =>
          have Y := out_no B0.out (by omega) XR.out
          have HR : Hid (AnsI (R A0 A1 a2 a3) (ok A0 A1 a2 a3) w (.returned (.tuple #[.agg #[.slice none 0 0], .bool false])) (w1.setCell ⟨(w.heap.size + 1 + 1), 0, none⟩ (.slice none 0 0))) := by
            have e1 : R A0 A1 a2 a3 = [] := by simp [R, Hhv0.out, Hhv1.out, Hhx.out, hy]
            have e2 : ok A0 A1 a2 a3 = false := by simp [ok, Hhv0.out, Hhv1.out, Hhx.out, hy]
            rw [e1, e2]; exact Y.1
          have y := Y.2
          clear Y
          go_wp2_with fail
          exact bodyPost_ret (v := .tuple #[.agg #[.slice none 0 0], .bool false]) (by simp [results, Try.results54, y, go_sem]) rfl HR.out
        | true =>
          have Hhy : Hid (rg a3 = true) := hy
          clear hy
          have V0 : Val A0 := val_iff.1 Hhv0.out
          have V1 : Val A1 := val_iff.1 Hhv1.out
          have HA : Hid (1 ≤ A0.length ∧ A0.length ≤ 40) := ⟨V0.1, by have := V0.2.1; omega⟩
          have HB : Hid (1 ≤ A1.length ∧ A1.length ≤ 40) := ⟨V1.1, by have := V1.2.1; omega⟩
          have HX : Hid (∀ k, -1000000000000 ≤ a2 * at' A0 k ∧ a2 * at' A0 k ≤ 1000000000000) := rg_bd Hhx.out V0
          have HY : Hid (∀ k, -1000000000000 ≤ a3 * at' A1 k ∧ a3 * at' A1 k ≤ 1000000000000) := rg_bd Hhy.out V1
          clear V0 V1
          obtain ⟨_, hcap, hcc⟩ := R0.out.use
          obtain ⟨_, hcap1', hcc1⟩ := R1.out.use
          obtain ⟨hA1, hA2⟩ := HA.out
          obtain ⟨hB1, hB2⟩ := HB.out
          obtain ⟨ba, off, rfl, hbw, hcell⟩ := hcc (by omega)
          obtain ⟨bb, off', rfl, hbw', hcell'⟩ := hcc1 (by omega)
          have HC : Hid (∀ (k : Nat) (z : Int), A0[k]? = some z → w1.cell? ⟨ba, off + k, none⟩ = some (.int .i64 z)) := hcell
          have HC' : Hid (∀ (k : Nat) (z : Int), A1[k]? = some z → w1.cell? ⟨bb, off' + k, none⟩ = some (.int .i64 z)) := hcell'
          have HBw : Hid (ba < w1.heap.size) := by have := B0.out.size; show ba < _; omega
          have HBw' : Hid (bb < w1.heap.size) := by have := B0.out.size; show bb < _; omega
          obtain ⟨i0, hi, hz0, hz1, hz2⟩ := info_parts info_i
          obtain ⟨n, hnn⟩ : ∃ n, n = A0.length := ⟨_, rfl⟩
          obtain ⟨m, hmm⟩ : ∃ m, m = A1.length := ⟨_, rfl⟩
          rw [← hnn] at hcap hA1 hA2 R0 XP0 cXP0
          rw [← hmm] at hcap1' hB1 hB2 R1 XP1 cXP1
          have HN : Hid (n = A0.length) := hnn
          have HMm : Hid (m = A1.length) := hmm
          simp only [← hnn, ← hmm]
          clear hnn hmm hcell hcell' hbw hbw' hcc hcc1
          obtain ⟨G, hG⟩ : ∃ G, G = w1.heap.size := ⟨_, rfl⟩
          have HG : Hid (G = w1.heap.size) := hG
          by_cases hmx : (n : Int) < (m : Int)
          · have hml : m ≤ maxLen := by unfold maxLen; omega
            go_wp2_with (first | (refine wpList_make_full _ rfl (.tmp 36) (.tmp 36) 24 rfl w1.heap.size 2 i0 (.int .i64 0) 1 Try.underlying24 hi hz0 hz1 .i64 .i64 _ _ m rfl rfl rfl rfl (by rw [hz2]; omega) hml (Nat.le_refl _) ?_; intro wm hown hgrow; have BM : Hid (Below w1.heap.size w1 wm) := (Below.refl _ _).grown hgrow (Nat.le_refl _) (by intro k hk; cases hk); have cM := (XP0.out.kept BM.out).cell; have cM1 := (XP1.out.kept BM.out).cell; clear hgrow))
            rw [rep_map] at hown
            rw [← hG] at hown
            rw [← hG]
            have start : Hid (wm.ownsRow G 2 1 (.slice (some ⟨G, 0, none⟩) m m) m ((List.replicate m (0 : Int)).map (Value.int .i64))) := hown
            clear hown hG hi hz0 hz1 hz2
            go_loopw [41] (fun t wr => ∃ (k : Nat) (Q : List Int), k ≤ n ∧ t = .int .i64 k ∧ Hid (wr.ownsRow G 2 1 (.slice (some ⟨G, 0, none⟩) m m) m (Q.map (Value.int .i64))) ∧ Hid (Q.length = m ∧ ∀ j, j < m → at' Q j = (if j < k then a2 * at' A0 j else 0)) ∧ Hid (Below w1.heap.size w1 wr)) (fun t _ => n - (intOf t).toNat)
            case atStart => exact ⟨0, List.replicate m 0, by omega, rfl, start, ⟨by simp, fun j hj => by simp [at', hj]⟩, BM⟩
            case round =>
              obtain ⟨k, Q, hk, rfl, ho, hq, hb⟩ := hrel
              by_cases hlt : k < n
              · have cB := (XP0.out.kept hb.out).cell
                have e1 : wr.cell? ⟨ba, off + k, none⟩ = some (.int .i64 (at' A0 k)) := (hb.out.cell (p := ⟨ba, off + k, none⟩) HBw.out).trans (HC.out k _ (at_some A0 k (by have := HN.out; omega)))
                have hql : Q.length = m := hq.out.1
                have e2 : wr.cell? ⟨G, k, none⟩ = some (.int .i64 (at' Q k)) := by
                  rw [ho.out.cellAt k (by omega), List.getElem?_map, at_some _ _ (by omega)]; rfl
                have e3 : wr.frozen? ⟨G, k, none⟩ = false := ho.out.frozenAt k
                have hv := hq.out.2 k (by omega)
                simp only [Nat.lt_irrefl, if_false] at hv
                have h1 := HX.out k
                have h2 := HX.out k
                have HO : Hid ((wr.drew.setCell ⟨G, k, none⟩ (.int .i64 (at' Q k + a2 * at' A0 k))).ownsRow G 2 1 (.slice (some ⟨G, 0, none⟩) m m) m ((Q.set k (at' Q k + a2 * at' A0 k)).map (Value.int .i64))) := by
                  have ho' : wr.drew.ownsRow G 2 1 (.slice (some ⟨G, 0, none⟩) m m) m (Q.map (Value.int .i64)) := ho.out
                  have := (ho'.stored k (.int .i64 (at' Q k + a2 * at' A0 k))).1
                  rw [← List.map_set] at this
                  exact this
                have HQ : Hid ((Q.set k (at' Q k + a2 * at' A0 k)).length = m ∧ ∀ j, j < m → at' (Q.set k (at' Q k + a2 * at' A0 k)) j = (if j < k + 1 then a2 * at' A0 j else 0)) := by
                  refine ⟨by rw [List.length_set]; exact hql, fun j hj => ?_⟩
                  by_cases e : j = k
                  · subst e
                    rw [if_pos (by omega)]
                    rw [hv]
                    unfold at'
                    rw [List.getElem?_set_self (by omega)]
                    simp
                  · have := hq.out.2 j hj
                    by_cases hjk : j < k
                    · rw [if_pos hjk] at this
                      rw [if_pos (by omega), ← this]
                      unfold at'
                      rw [List.getElem?_set_ne (by omega)]
                    · rw [if_neg hjk] at this
                      rw [if_neg (by omega), ← this]
                      unfold at'
                      rw [List.getElem?_set_ne (by omega)]
                have HB2 : Hid (Below w1.heap.size w1 (wr.drew.setCell ⟨G, k, none⟩ (.int .i64 (at' Q k + a2 * at' A0 k)))) := hb.out.drew.setCell (p := ⟨G, k, none⟩) (by have := HG.out; show w1.heap.size ≤ G; omega) _
                have w1' : IntKind.i64.wrap (a2 * at' A0 k) = a2 * at' A0 k := IntWalk.i64_in _ (by omega)
                have w2' : IntKind.i64.wrap (at' Q k + a2 * at' A0 k) = at' Q k + a2 * at' A0 k := IntWalk.i64_in _ (by omega)
                have w3' : wrap64 (a2 * at' A0 k) = a2 * at' A0 k := IntWalk.wrap64_in _ (by omega)
                have w4' : wrap64 (at' Q k + a2 * at' A0 k) = at' Q k + a2 * at' A0 k := IntWalk.wrap64_in _ (by omega)
                clear hv h1 h2 ho hq hb hql
                generalize at' Q k = a at *
                generalize at' A0 k = y at *
                go_wp2_with fail
                go_region
                go_wp2
                go_roundw
                case rel => exact ⟨k + 1, _, by omega, by go_num, HO, HQ, HB2⟩
                case measure => simp [intOf]; omega
              · obtain rfl : n = k := by omega
                have start2 : Hid (wr.ownsRow G 2 1 (.slice (some ⟨G, 0, none⟩) m m) m (Q.map (Value.int .i64))) := ho.out
                have startQ : Hid (Q.length = m ∧ ∀ j, j < m → at' Q j = a2 * at' A0 j + 0) := ⟨hq.out.1, fun j hj => by
                  rw [hq.out.2 j hj]
                  by_cases hjn : j < n
                  · rw [if_pos hjn]; omega
                  · rw [if_neg hjn, at_out (by have := HN.out; omega)]; simp⟩
                have BM2 : Hid (Below w1.heap.size w1 wr) := hb.out
                have cN := (XP0.out.kept hb.out).cell
                have cN1 := (XP1.out.kept hb.out).cell
                clear ho hq hb start
                go_wp2_with fail
                go_loopw [61] (fun t wr => ∃ (k : Nat) (Q : List Int), k ≤ m ∧ t = .int .i64 k ∧ Hid (wr.ownsRow G 2 1 (.slice (some ⟨G, 0, none⟩) m m) m (Q.map (Value.int .i64))) ∧ Hid (Q.length = m ∧ ∀ j, j < m → at' Q j = a2 * at' A0 j + (if j < k then a3 * at' A1 j else 0)) ∧ Hid (Below w1.heap.size w1 wr)) (fun t _ => m - (intOf t).toNat)
                case atStart => exact ⟨0, Q, by omega, rfl, start2, ⟨startQ.out.1, fun j hj => by rw [startQ.out.2 j hj]; simp⟩, BM2⟩
                case round =>
                  obtain ⟨k, Q, hk, rfl, ho, hq, hb⟩ := hrel
                  by_cases hlt : k < m
                  · have cB := (XP1.out.kept hb.out).cell
                    have e1 : wr.cell? ⟨bb, off' + k, none⟩ = some (.int .i64 (at' A1 k)) := (hb.out.cell (p := ⟨bb, off' + k, none⟩) HBw'.out).trans (HC'.out k _ (at_some A1 k (by have := HMm.out; omega)))
                    have hql : Q.length = m := hq.out.1
                    have e2 : wr.cell? ⟨G, k, none⟩ = some (.int .i64 (at' Q k)) := by
                      rw [ho.out.cellAt k (by omega), List.getElem?_map, at_some _ _ (by omega)]; rfl
                    have e3 : wr.frozen? ⟨G, k, none⟩ = false := ho.out.frozenAt k
                    have hv := hq.out.2 k (by omega)
                    simp only [Nat.lt_irrefl, if_false, Int.add_zero] at hv
                    have h1 := HY.out k
                    have h2 := HX.out k
                    have HO : Hid ((wr.drew.setCell ⟨G, k, none⟩ (.int .i64 (at' Q k + a3 * at' A1 k))).ownsRow G 2 1 (.slice (some ⟨G, 0, none⟩) m m) m ((Q.set k (at' Q k + a3 * at' A1 k)).map (Value.int .i64))) := by
                      have ho' : wr.drew.ownsRow G 2 1 (.slice (some ⟨G, 0, none⟩) m m) m (Q.map (Value.int .i64)) := ho.out
                      have := (ho'.stored k (.int .i64 (at' Q k + a3 * at' A1 k))).1
                      rw [← List.map_set] at this
                      exact this
                    have HQ : Hid ((Q.set k (at' Q k + a3 * at' A1 k)).length = m ∧ ∀ j, j < m → at' (Q.set k (at' Q k + a3 * at' A1 k)) j = a2 * at' A0 j + (if j < k + 1 then a3 * at' A1 j else 0)) := by
                      refine ⟨by rw [List.length_set]; exact hql, fun j hj => ?_⟩
                      by_cases e : j = k
                      · subst e
                        rw [if_pos (by omega)]
                        rw [hv]
                        unfold at'
                        rw [List.getElem?_set_self (by omega)]
                        simp
                      · have := hq.out.2 j hj
                        by_cases hjk : j < k
                        · rw [if_pos hjk] at this
                          rw [if_pos (by omega), ← this]
                          unfold at'
                          rw [List.getElem?_set_ne (by omega)]
                        · rw [if_neg hjk] at this
                          rw [if_neg (by omega), ← this]
                          unfold at'
                          rw [List.getElem?_set_ne (by omega)]
                    have HB2 : Hid (Below w1.heap.size w1 (wr.drew.setCell ⟨G, k, none⟩ (.int .i64 (at' Q k + a3 * at' A1 k)))) := hb.out.drew.setCell (p := ⟨G, k, none⟩) (by have := HG.out; show w1.heap.size ≤ G; omega) _
                    have w1' : IntKind.i64.wrap (a3 * at' A1 k) = a3 * at' A1 k := IntWalk.i64_in _ (by omega)
                    have w2' : IntKind.i64.wrap (at' Q k + a3 * at' A1 k) = at' Q k + a3 * at' A1 k := IntWalk.i64_in _ (by omega)
                    have w3' : wrap64 (a3 * at' A1 k) = a3 * at' A1 k := IntWalk.wrap64_in _ (by omega)
                    have w4' : wrap64 (at' Q k + a3 * at' A1 k) = at' Q k + a3 * at' A1 k := IntWalk.wrap64_in _ (by omega)
                    clear hv h1 h2 ho hq hb hql
                    generalize at' Q k = a at *
                    generalize at' A1 k = y at *
                    go_wp2_with fail
                    go_region
                    go_wp2
                    go_roundw
                    case rel => exact ⟨k + 1, _, by omega, by go_num, HO, HQ, HB2⟩
                    case measure => simp [intOf]; omega
                  · obtain rfl : m = k := by omega
                    have OT : Hid (Own wr w1.heap.size wr.heap.size (.slice (some ⟨G, 0, none⟩) m m) (weigh A0 A1 a2 a3)) := by
                      have hl : (weigh A0 A1 a2 a3).length = m := by rw [weigh_len, ← HN.out, ← HMm.out]; omega
                      have hQ : Q = weigh A0 A1 a2 a3 := by
                        apply List.ext_getElem?
                        intro j
                        by_cases hj : j < m
                        · rw [at_some Q j (by have := hq.out.1; omega), hq.out.2 j hj, weigh_get A0 A1 a2 a3 (by rw [← HN.out, ← HMm.out]; omega)]
                          by_cases hjm : j < m
                          · rw [if_pos hjm]
                          · rw [if_neg hjm, at_out (L := A1) (by have := HMm.out; omega)]; simp
                        · rw [List.getElem?_eq_none (by have := hq.out.1; omega), List.getElem?_eq_none (by omega)]
                      have ho' := ho.out
                      rw [hQ] at ho'
                      have h2 : wr.ownsRow w1.heap.size 2 1 (.slice (some ⟨G, 0, none⟩) m m) (weigh A0 A1 a2 a3).length ((weigh A0 A1 a2 a3).map (Value.int .i64)) := by rw [hl, ← HG.out]; exact ho'
                      have := Own.of_row (hi := wr.heap.size) h2 (by omega) (Nat.le_refl _)
                      exact this
                    have b := hb.out
                    clear ho hq hb cN cN1 start2 startQ BM2
                    have Zwr : Hid (w1.heap.size ≤ wr.heap.size) := b.size
                    replace B0 : Hid (Below w.heap.size w wr) := B0.out.trans (b.mono (by have := Zw1.out; omega))
                    replace B1 : Hid (Below w1.heap.size w1 wr) := B1.out.trans (b.mono (Nat.le_refl _))
                    replace R0 : Hid (Rd wr w.heap.size (.slice (some ⟨ba, off, none⟩) n cap0) A0) := R0.out.below b (by have := Zw1.out; omega)
                    replace R1 : Hid (Rd wr w.heap.size (.slice (some ⟨bb, off', none⟩) m cap1) A1) := R1.out.below b (by have := Zw1.out; omega)
                    replace XP0 : Hid (Bx wr w.heap.size (.slice (some ⟨ba, off, none⟩) n cap0)) := XP0.out.kept b
                    replace cXP0 : wr.cell? ⟨w.heap.size, 0, none⟩ = some (.slice (some ⟨ba, off, none⟩) n cap0) := XP0.out.cell
                    replace XP1 : Hid (Bx wr (w.heap.size + 1) (.slice (some ⟨bb, off', none⟩) m cap1)) := XP1.out.kept b
                    replace cXP1 : wr.cell? ⟨(w.heap.size + 1), 0, none⟩ = some (.slice (some ⟨bb, off', none⟩) m cap1) := XP1.out.cell
                    replace XR : Hid (Bx wr (w.heap.size + 1 + 1) (.slice none 0 0)) := XR.out.kept b
                    replace cXR : wr.cell? ⟨(w.heap.size + 1 + 1), 0, none⟩ = some (.slice none 0 0) := XR.out.cell
                    replace fXR : wr.frozen? ⟨(w.heap.size + 1 + 1), 0, none⟩ = false := XR.out.free
                    clear b
                    go_wp2_with fail
                    refine (give_any (OT.out.rd.ls (Nat.le_refl _)) (by rw [weigh_len]; have := HA.out; have := HB.out; omega)).mono ?_
                    rintro e w2 ⟨_, rfl, ⟨s, rfl, o⟩, b⟩
                    obtain ⟨ra, rc, rfl⟩ := o.shape
                    have Zw2 : Hid (wr.heap.size ≤ w2.heap.size) := b.size
                    replace B0 : Hid (Below w.heap.size w w2) := B0.out.trans (b.mono (by have := Zw1.out; have := Zwr.out; omega))
                    replace B1 : Hid (Below w1.heap.size w1 w2) := B1.out.trans (b.mono (by have := Zwr.out; omega))
                    replace R0 : Hid (Rd w2 w.heap.size (.slice (some ⟨ba, off, none⟩) n cap0) A0) := R0.out.below b (by have := Zw1.out; have := Zwr.out; omega)
                    replace R1 : Hid (Rd w2 w.heap.size (.slice (some ⟨bb, off', none⟩) m cap1) A1) := R1.out.below b (by have := Zw1.out; have := Zwr.out; omega)
                    replace OT : Hid (Own w2 w1.heap.size wr.heap.size (.slice (some ⟨G, 0, none⟩) m m) (weigh A0 A1 a2 a3)) := OT.out.below b (Nat.le_refl _)
                    replace XP0 : Hid (Bx w2 w.heap.size (.slice (some ⟨ba, off, none⟩) n cap0)) := XP0.out.kept b
                    replace cXP0 : w2.cell? ⟨w.heap.size, 0, none⟩ = some (.slice (some ⟨ba, off, none⟩) n cap0) := XP0.out.cell
                    replace XP1 : Hid (Bx w2 (w.heap.size + 1) (.slice (some ⟨bb, off', none⟩) m cap1)) := XP1.out.kept b
                    replace cXP1 : w2.cell? ⟨(w.heap.size + 1), 0, none⟩ = some (.slice (some ⟨bb, off', none⟩) m cap1) := XP1.out.cell
                    replace XR : Hid (Bx w2 (w.heap.size + 1 + 1) (.slice none 0 0)) := XR.out.kept b
                    replace cXR : w2.cell? ⟨(w.heap.size + 1 + 1), 0, none⟩ = some (.slice none 0 0) := XR.out.cell
                    replace fXR : w2.frozen? ⟨(w.heap.size + 1 + 1), 0, none⟩ = false := XR.out.free
                    replace o := o.wide (lo' := w1.heap.size) (by have := Zwr.out; omega) (Nat.le_refl _)
                    clear b
                    have Y := out_yes (ok := val (trim (weigh A0 A1 a2 a3))) (W1 := w1) (w := w) (r := (w.heap.size + 1 + 1)) BW.out (by omega) LR.out XR.out o B1.out
                    have HR : Hid (AnsI (R A0 A1 a2 a3) (ok A0 A1 a2 a3) w (.returned (.tuple #[.agg #[.slice ra (gv (weigh A0 A1 a2 a3)).length rc], .bool (val (trim (weigh A0 A1 a2 a3)))])) (w2.setCell ⟨(w.heap.size + 1 + 1), 0, none⟩ (.slice ra (gv (weigh A0 A1 a2 a3)).length rc))) := by
                      have e1 : R A0 A1 a2 a3 = gv (weigh A0 A1 a2 a3) := by simp [R, Hhv0.out, Hhv1.out, Hhx.out, Hhy.out]
                      have e2 : ok A0 A1 a2 a3 = val (trim (weigh A0 A1 a2 a3)) := by simp [ok, Hhv0.out, Hhv1.out, Hhx.out, Hhy.out]
                      rw [e1, e2]; exact Y.1
                    have y := Y.2
                    clear Y o
                    generalize val (trim (weigh A0 A1 a2 a3)) = gb at *
                    generalize (gv (weigh A0 A1 a2 a3)).length = gl at *
                    go_wp2_with fail
                    exact bodyPost_ret (v := .tuple #[.agg #[.slice ra gl rc], .bool gb]) (by simp [results, Try.results54, y, go_sem]) rfl HR.out
          · have hml : n ≤ maxLen := by unfold maxLen; omega
            go_wp2_with (first | (refine wpList_make_full _ rfl (.tmp 36) (.tmp 36) 24 rfl w1.heap.size 2 i0 (.int .i64 0) 1 Try.underlying24 hi hz0 hz1 .i64 .i64 _ _ n rfl rfl rfl rfl (by rw [hz2]; omega) hml (Nat.le_refl _) ?_; intro wm hown hgrow; have BM : Hid (Below w1.heap.size w1 wm) := (Below.refl _ _).grown hgrow (Nat.le_refl _) (by intro k hk; cases hk); have cM := (XP0.out.kept BM.out).cell; have cM1 := (XP1.out.kept BM.out).cell; clear hgrow))
            rw [rep_map] at hown
            rw [← hG] at hown
            rw [← hG]
            have start : Hid (wm.ownsRow G 2 1 (.slice (some ⟨G, 0, none⟩) n n) n ((List.replicate n (0 : Int)).map (Value.int .i64))) := hown
            clear hown hG hi hz0 hz1 hz2
            go_loopw [41] (fun t wr => ∃ (k : Nat) (Q : List Int), k ≤ n ∧ t = .int .i64 k ∧ Hid (wr.ownsRow G 2 1 (.slice (some ⟨G, 0, none⟩) n n) n (Q.map (Value.int .i64))) ∧ Hid (Q.length = n ∧ ∀ j, j < n → at' Q j = (if j < k then a2 * at' A0 j else 0)) ∧ Hid (Below w1.heap.size w1 wr)) (fun t _ => n - (intOf t).toNat)
            case atStart => exact ⟨0, List.replicate n 0, by omega, rfl, start, ⟨by simp, fun j hj => by simp [at', hj]⟩, BM⟩
            case round =>
              obtain ⟨k, Q, hk, rfl, ho, hq, hb⟩ := hrel
              by_cases hlt : k < n
              · have cB := (XP0.out.kept hb.out).cell
                have e1 : wr.cell? ⟨ba, off + k, none⟩ = some (.int .i64 (at' A0 k)) := (hb.out.cell (p := ⟨ba, off + k, none⟩) HBw.out).trans (HC.out k _ (at_some A0 k (by have := HN.out; omega)))
                have hql : Q.length = n := hq.out.1
                have e2 : wr.cell? ⟨G, k, none⟩ = some (.int .i64 (at' Q k)) := by
                  rw [ho.out.cellAt k (by omega), List.getElem?_map, at_some _ _ (by omega)]; rfl
                have e3 : wr.frozen? ⟨G, k, none⟩ = false := ho.out.frozenAt k
                have hv := hq.out.2 k (by omega)
                simp only [Nat.lt_irrefl, if_false] at hv
                have h1 := HX.out k
                have h2 := HX.out k
                have HO : Hid ((wr.drew.setCell ⟨G, k, none⟩ (.int .i64 (at' Q k + a2 * at' A0 k))).ownsRow G 2 1 (.slice (some ⟨G, 0, none⟩) n n) n ((Q.set k (at' Q k + a2 * at' A0 k)).map (Value.int .i64))) := by
                  have ho' : wr.drew.ownsRow G 2 1 (.slice (some ⟨G, 0, none⟩) n n) n (Q.map (Value.int .i64)) := ho.out
                  have := (ho'.stored k (.int .i64 (at' Q k + a2 * at' A0 k))).1
                  rw [← List.map_set] at this
                  exact this
                have HQ : Hid ((Q.set k (at' Q k + a2 * at' A0 k)).length = n ∧ ∀ j, j < n → at' (Q.set k (at' Q k + a2 * at' A0 k)) j = (if j < k + 1 then a2 * at' A0 j else 0)) := by
                  refine ⟨by rw [List.length_set]; exact hql, fun j hj => ?_⟩
                  by_cases e : j = k
                  · subst e
                    rw [if_pos (by omega)]
                    rw [hv]
                    unfold at'
                    rw [List.getElem?_set_self (by omega)]
                    simp
                  · have := hq.out.2 j hj
                    by_cases hjk : j < k
                    · rw [if_pos hjk] at this
                      rw [if_pos (by omega), ← this]
                      unfold at'
                      rw [List.getElem?_set_ne (by omega)]
                    · rw [if_neg hjk] at this
                      rw [if_neg (by omega), ← this]
                      unfold at'
                      rw [List.getElem?_set_ne (by omega)]
                have HB2 : Hid (Below w1.heap.size w1 (wr.drew.setCell ⟨G, k, none⟩ (.int .i64 (at' Q k + a2 * at' A0 k)))) := hb.out.drew.setCell (p := ⟨G, k, none⟩) (by have := HG.out; show w1.heap.size ≤ G; omega) _
                have w1' : IntKind.i64.wrap (a2 * at' A0 k) = a2 * at' A0 k := IntWalk.i64_in _ (by omega)
                have w2' : IntKind.i64.wrap (at' Q k + a2 * at' A0 k) = at' Q k + a2 * at' A0 k := IntWalk.i64_in _ (by omega)
                have w3' : wrap64 (a2 * at' A0 k) = a2 * at' A0 k := IntWalk.wrap64_in _ (by omega)
                have w4' : wrap64 (at' Q k + a2 * at' A0 k) = at' Q k + a2 * at' A0 k := IntWalk.wrap64_in _ (by omega)
                clear hv h1 h2 ho hq hb hql
                generalize at' Q k = a at *
                generalize at' A0 k = y at *
                go_wp2_with fail
                go_region
                go_wp2
                go_roundw
                case rel => exact ⟨k + 1, _, by omega, by go_num, HO, HQ, HB2⟩
                case measure => simp [intOf]; omega
              · obtain rfl : n = k := by omega
                have start2 : Hid (wr.ownsRow G 2 1 (.slice (some ⟨G, 0, none⟩) n n) n (Q.map (Value.int .i64))) := ho.out
                have startQ : Hid (Q.length = n ∧ ∀ j, j < n → at' Q j = a2 * at' A0 j + 0) := ⟨hq.out.1, fun j hj => by
                  rw [hq.out.2 j hj]
                  by_cases hjn : j < n
                  · rw [if_pos hjn]; omega
                  · rw [if_neg hjn, at_out (by have := HN.out; omega)]; simp⟩
                have BM2 : Hid (Below w1.heap.size w1 wr) := hb.out
                have cN := (XP0.out.kept hb.out).cell
                have cN1 := (XP1.out.kept hb.out).cell
                clear ho hq hb start
                go_wp2_with fail
                go_loopw [61] (fun t wr => ∃ (k : Nat) (Q : List Int), k ≤ m ∧ t = .int .i64 k ∧ Hid (wr.ownsRow G 2 1 (.slice (some ⟨G, 0, none⟩) n n) n (Q.map (Value.int .i64))) ∧ Hid (Q.length = n ∧ ∀ j, j < n → at' Q j = a2 * at' A0 j + (if j < k then a3 * at' A1 j else 0)) ∧ Hid (Below w1.heap.size w1 wr)) (fun t _ => m - (intOf t).toNat)
                case atStart => exact ⟨0, Q, by omega, rfl, start2, ⟨startQ.out.1, fun j hj => by rw [startQ.out.2 j hj]; simp⟩, BM2⟩
                case round =>
                  obtain ⟨k, Q, hk, rfl, ho, hq, hb⟩ := hrel
                  by_cases hlt : k < m
                  · have cB := (XP1.out.kept hb.out).cell
                    have e1 : wr.cell? ⟨bb, off' + k, none⟩ = some (.int .i64 (at' A1 k)) := (hb.out.cell (p := ⟨bb, off' + k, none⟩) HBw'.out).trans (HC'.out k _ (at_some A1 k (by have := HMm.out; omega)))
                    have hql : Q.length = n := hq.out.1
                    have e2 : wr.cell? ⟨G, k, none⟩ = some (.int .i64 (at' Q k)) := by
                      rw [ho.out.cellAt k (by omega), List.getElem?_map, at_some _ _ (by omega)]; rfl
                    have e3 : wr.frozen? ⟨G, k, none⟩ = false := ho.out.frozenAt k
                    have hv := hq.out.2 k (by omega)
                    simp only [Nat.lt_irrefl, if_false, Int.add_zero] at hv
                    have h1 := HY.out k
                    have h2 := HX.out k
                    have HO : Hid ((wr.drew.setCell ⟨G, k, none⟩ (.int .i64 (at' Q k + a3 * at' A1 k))).ownsRow G 2 1 (.slice (some ⟨G, 0, none⟩) n n) n ((Q.set k (at' Q k + a3 * at' A1 k)).map (Value.int .i64))) := by
                      have ho' : wr.drew.ownsRow G 2 1 (.slice (some ⟨G, 0, none⟩) n n) n (Q.map (Value.int .i64)) := ho.out
                      have := (ho'.stored k (.int .i64 (at' Q k + a3 * at' A1 k))).1
                      rw [← List.map_set] at this
                      exact this
                    have HQ : Hid ((Q.set k (at' Q k + a3 * at' A1 k)).length = n ∧ ∀ j, j < n → at' (Q.set k (at' Q k + a3 * at' A1 k)) j = a2 * at' A0 j + (if j < k + 1 then a3 * at' A1 j else 0)) := by
                      refine ⟨by rw [List.length_set]; exact hql, fun j hj => ?_⟩
                      by_cases e : j = k
                      · subst e
                        rw [if_pos (by omega)]
                        rw [hv]
                        unfold at'
                        rw [List.getElem?_set_self (by omega)]
                        simp
                      · have := hq.out.2 j hj
                        by_cases hjk : j < k
                        · rw [if_pos hjk] at this
                          rw [if_pos (by omega), ← this]
                          unfold at'
                          rw [List.getElem?_set_ne (by omega)]
                        · rw [if_neg hjk] at this
                          rw [if_neg (by omega), ← this]
                          unfold at'
                          rw [List.getElem?_set_ne (by omega)]
                    have HB2 : Hid (Below w1.heap.size w1 (wr.drew.setCell ⟨G, k, none⟩ (.int .i64 (at' Q k + a3 * at' A1 k)))) := hb.out.drew.setCell (p := ⟨G, k, none⟩) (by have := HG.out; show w1.heap.size ≤ G; omega) _
                    have w1' : IntKind.i64.wrap (a3 * at' A1 k) = a3 * at' A1 k := IntWalk.i64_in _ (by omega)
                    have w2' : IntKind.i64.wrap (at' Q k + a3 * at' A1 k) = at' Q k + a3 * at' A1 k := IntWalk.i64_in _ (by omega)
                    have w3' : wrap64 (a3 * at' A1 k) = a3 * at' A1 k := IntWalk.wrap64_in _ (by omega)
                    have w4' : wrap64 (at' Q k + a3 * at' A1 k) = at' Q k + a3 * at' A1 k := IntWalk.wrap64_in _ (by omega)
                    clear hv h1 h2 ho hq hb hql
                    generalize at' Q k = a at *
                    generalize at' A1 k = y at *
                    go_wp2_with fail
                    go_region
                    go_wp2
                    go_roundw
                    case rel => exact ⟨k + 1, _, by omega, by go_num, HO, HQ, HB2⟩
                    case measure => simp [intOf]; omega
                  · obtain rfl : m = k := by omega
                    have OT : Hid (Own wr w1.heap.size wr.heap.size (.slice (some ⟨G, 0, none⟩) n n) (weigh A0 A1 a2 a3)) := by
                      have hl : (weigh A0 A1 a2 a3).length = n := by rw [weigh_len, ← HN.out, ← HMm.out]; omega
                      have hQ : Q = weigh A0 A1 a2 a3 := by
                        apply List.ext_getElem?
                        intro j
                        by_cases hj : j < n
                        · rw [at_some Q j (by have := hq.out.1; omega), hq.out.2 j hj, weigh_get A0 A1 a2 a3 (by rw [← HN.out, ← HMm.out]; omega)]
                          by_cases hjm : j < m
                          · rw [if_pos hjm]
                          · rw [if_neg hjm, at_out (L := A1) (by have := HMm.out; omega)]; simp
                        · rw [List.getElem?_eq_none (by have := hq.out.1; omega), List.getElem?_eq_none (by omega)]
                      have ho' := ho.out
                      rw [hQ] at ho'
                      have h2 : wr.ownsRow w1.heap.size 2 1 (.slice (some ⟨G, 0, none⟩) n n) (weigh A0 A1 a2 a3).length ((weigh A0 A1 a2 a3).map (Value.int .i64)) := by rw [hl, ← HG.out]; exact ho'
                      have := Own.of_row (hi := wr.heap.size) h2 (by omega) (Nat.le_refl _)
                      exact this
                    have b := hb.out
                    clear ho hq hb cN cN1 start2 startQ BM2
                    have Zwr : Hid (w1.heap.size ≤ wr.heap.size) := b.size
                    replace B0 : Hid (Below w.heap.size w wr) := B0.out.trans (b.mono (by have := Zw1.out; omega))
                    replace B1 : Hid (Below w1.heap.size w1 wr) := B1.out.trans (b.mono (Nat.le_refl _))
                    replace R0 : Hid (Rd wr w.heap.size (.slice (some ⟨ba, off, none⟩) n cap0) A0) := R0.out.below b (by have := Zw1.out; omega)
                    replace R1 : Hid (Rd wr w.heap.size (.slice (some ⟨bb, off', none⟩) m cap1) A1) := R1.out.below b (by have := Zw1.out; omega)
                    replace XP0 : Hid (Bx wr w.heap.size (.slice (some ⟨ba, off, none⟩) n cap0)) := XP0.out.kept b
                    replace cXP0 : wr.cell? ⟨w.heap.size, 0, none⟩ = some (.slice (some ⟨ba, off, none⟩) n cap0) := XP0.out.cell
                    replace XP1 : Hid (Bx wr (w.heap.size + 1) (.slice (some ⟨bb, off', none⟩) m cap1)) := XP1.out.kept b
                    replace cXP1 : wr.cell? ⟨(w.heap.size + 1), 0, none⟩ = some (.slice (some ⟨bb, off', none⟩) m cap1) := XP1.out.cell
                    replace XR : Hid (Bx wr (w.heap.size + 1 + 1) (.slice none 0 0)) := XR.out.kept b
                    replace cXR : wr.cell? ⟨(w.heap.size + 1 + 1), 0, none⟩ = some (.slice none 0 0) := XR.out.cell
                    replace fXR : wr.frozen? ⟨(w.heap.size + 1 + 1), 0, none⟩ = false := XR.out.free
                    clear b
                    go_wp2_with fail
                    refine (give_any (OT.out.rd.ls (Nat.le_refl _)) (by rw [weigh_len]; have := HA.out; have := HB.out; omega)).mono ?_
                    rintro e w3 ⟨_, rfl, ⟨s, rfl, o⟩, b⟩
                    obtain ⟨ra, rc, rfl⟩ := o.shape
                    have Zw3 : Hid (wr.heap.size ≤ w3.heap.size) := b.size
                    replace B0 : Hid (Below w.heap.size w w3) := B0.out.trans (b.mono (by have := Zw1.out; have := Zwr.out; omega))
                    replace B1 : Hid (Below w1.heap.size w1 w3) := B1.out.trans (b.mono (by have := Zwr.out; omega))
                    replace R0 : Hid (Rd w3 w.heap.size (.slice (some ⟨ba, off, none⟩) n cap0) A0) := R0.out.below b (by have := Zw1.out; have := Zwr.out; omega)
                    replace R1 : Hid (Rd w3 w.heap.size (.slice (some ⟨bb, off', none⟩) m cap1) A1) := R1.out.below b (by have := Zw1.out; have := Zwr.out; omega)
                    replace OT : Hid (Own w3 w1.heap.size wr.heap.size (.slice (some ⟨G, 0, none⟩) n n) (weigh A0 A1 a2 a3)) := OT.out.below b (Nat.le_refl _)
                    replace XP0 : Hid (Bx w3 w.heap.size (.slice (some ⟨ba, off, none⟩) n cap0)) := XP0.out.kept b
                    replace cXP0 : w3.cell? ⟨w.heap.size, 0, none⟩ = some (.slice (some ⟨ba, off, none⟩) n cap0) := XP0.out.cell
                    replace XP1 : Hid (Bx w3 (w.heap.size + 1) (.slice (some ⟨bb, off', none⟩) m cap1)) := XP1.out.kept b
                    replace cXP1 : w3.cell? ⟨(w.heap.size + 1), 0, none⟩ = some (.slice (some ⟨bb, off', none⟩) m cap1) := XP1.out.cell
                    replace XR : Hid (Bx w3 (w.heap.size + 1 + 1) (.slice none 0 0)) := XR.out.kept b
                    replace cXR : w3.cell? ⟨(w.heap.size + 1 + 1), 0, none⟩ = some (.slice none 0 0) := XR.out.cell
                    replace fXR : w3.frozen? ⟨(w.heap.size + 1 + 1), 0, none⟩ = false := XR.out.free
                    replace o := o.wide (lo' := w1.heap.size) (by have := Zwr.out; omega) (Nat.le_refl _)
                    clear b
                    have Y := out_yes (ok := val (trim (weigh A0 A1 a2 a3))) (W1 := w1) (w := w) (r := (w.heap.size + 1 + 1)) BW.out (by omega) LR.out XR.out o B1.out
                    have HR : Hid (AnsI (R A0 A1 a2 a3) (ok A0 A1 a2 a3) w (.returned (.tuple #[.agg #[.slice ra (gv (weigh A0 A1 a2 a3)).length rc], .bool (val (trim (weigh A0 A1 a2 a3)))])) (w3.setCell ⟨(w.heap.size + 1 + 1), 0, none⟩ (.slice ra (gv (weigh A0 A1 a2 a3)).length rc))) := by
                      have e1 : R A0 A1 a2 a3 = gv (weigh A0 A1 a2 a3) := by simp [R, Hhv0.out, Hhv1.out, Hhx.out, Hhy.out]
                      have e2 : ok A0 A1 a2 a3 = val (trim (weigh A0 A1 a2 a3)) := by simp [ok, Hhv0.out, Hhv1.out, Hhx.out, Hhy.out]
                      rw [e1, e2]; exact Y.1
                    have y := Y.2
                    clear Y o
                    generalize val (trim (weigh A0 A1 a2 a3)) = gb at *
                    generalize (gv (weigh A0 A1 a2 a3)).length = gl at *
                    go_wp2_with fail
                    exact bodyPost_ret (v := .tuple #[.agg #[.slice ra gl rc], .bool gb]) (by simp [results, Try.results54, y, go_sem]) rfl HR.out

set_option maxRecDepth 100000 in
set_option maxHeartbeats 4000000 in
theorem impl_any {A0 A1 : List Int} {v0 v1 : Value} {w : World} (h0 : Wh w v0 A0) (h1 : Wh w v1 A1) (a2 : Int) (_b2 : (Lit.int .i64 a2).wf = true) (a3 : Int) (_b3 : (Lit.int .i64 a3).wf = true) : Calls Try.prog 20 #[v0, v1, .int .i64 a2, .int .i64 a3] w (AnsI (R A0 A1 a2 a3) (ok A0 A1 a2 a3) w) := by
  obtain ⟨s0, rfl, h0⟩ := h0
  obtain ⟨ao0, cap0, rfl⟩ := h0.shape
  obtain ⟨s1, rfl, h1⟩ := h1
  obtain ⟨ao1, cap1, rfl⟩ := h1.shape
  have R0 : Hid (Rd w w.heap.size (.slice ao0 A0.length cap0) A0) := h0
  have R1 : Hid (Rd w w.heap.size (.slice ao1 A1.length cap1) A1) := h1
  clear h0 h1
  have B0 : Hid (Below w.heap.size w w) := Below.refl _ _
  obtain ⟨w1, hw⟩ : ∃ x, x = (((w.alloc (.cells #[(.slice ao0 A0.length cap0)] 26)).alloc (.cells #[(.slice ao1 A1.length cap1)] 26)).alloc (.cells #[.slice none 0 0] 26)) := ⟨_, rfl⟩
  have b : Below w.heap.size w w1 := by rw [hw]; exact new3 _ _ _ _ 
  have Zw1 : Hid (w.heap.size ≤ w1.heap.size) := b.size
  replace B0 : Hid (Below w.heap.size w w1) := B0.out.trans (b.mono (Nat.le_refl _))
  replace R0 : Hid (Rd w1 w.heap.size (.slice ao0 A0.length cap0) A0) := R0.out.below b (Nat.le_refl _)
  replace R1 : Hid (Rd w1 w.heap.size (.slice ao1 A1.length cap1) A1) := R1.out.below b (Nat.le_refl _)
  have XP0 : Hid (Bx w1 w.heap.size (.slice ao0 A0.length cap0)) := by rw [hw]; exact Bx.alloc (Bx.alloc (Bx.new _ _ _) _) _
  have cXP0 : w1.cell? ⟨w.heap.size, 0, none⟩ = some (.slice ao0 A0.length cap0) := XP0.out.cell
  have XP1 : Hid (Bx w1 (w.heap.size + 1) (.slice ao1 A1.length cap1)) := by rw [hw]; exact Bx.alloc (Bx.new2 _ _ _ _ ) _
  have cXP1 : w1.cell? ⟨(w.heap.size + 1), 0, none⟩ = some (.slice ao1 A1.length cap1) := XP1.out.cell
  have XR : Hid (Bx w1 (w.heap.size + 1 + 1) (.slice none 0 0)) := by rw [hw]; exact Bx.new3 _ _ _ _ _ 
  have cXR : w1.cell? ⟨(w.heap.size + 1 + 1), 0, none⟩ = some (.slice none 0 0) := XR.out.cell
  have fXR : w1.frozen? ⟨(w.heap.size + 1 + 1), 0, none⟩ = false := XR.out.free
  have B1 : Hid (Below w1.heap.size w1 w1) := Below.refl _ _
  have BW : Hid (Below w.heap.size w w1) := B0.out
  have LR : Hid ((w.heap.size + 1 + 1) < w1.heap.size) := XR.out.lt
  have XR1 : Hid (Bx w1 (w.heap.size + 1 + 1) (.slice none 0 0)) := XR.out
  clear b
  go_enter Try.func20, Try.ntmps20
  go_wp2_with fail
  rw [← hw]
  clear hw
  refine (valid_any ⟨_, rfl, (R0.out.ls (by have := Zw1.out; omega))⟩).mono ?_
  rintro e w2 ⟨rfl, b⟩
  have Zw2 : Hid (w1.heap.size ≤ w2.heap.size) := b.size
  replace B0 : Hid (Below w.heap.size w w2) := B0.out.trans (b.mono (by have := Zw1.out; omega))
  replace B1 : Hid (Below w1.heap.size w1 w2) := B1.out.trans (b.mono (Nat.le_refl _))
  replace R0 : Hid (Rd w2 w.heap.size (.slice ao0 A0.length cap0) A0) := R0.out.below b (by have := Zw1.out; omega)
  replace R1 : Hid (Rd w2 w.heap.size (.slice ao1 A1.length cap1) A1) := R1.out.below b (by have := Zw1.out; omega)
  replace XP0 : Hid (Bx w2 w.heap.size (.slice ao0 A0.length cap0)) := XP0.out.kept b
  replace cXP0 : w2.cell? ⟨w.heap.size, 0, none⟩ = some (.slice ao0 A0.length cap0) := XP0.out.cell
  replace XP1 : Hid (Bx w2 (w.heap.size + 1) (.slice ao1 A1.length cap1)) := XP1.out.kept b
  replace cXP1 : w2.cell? ⟨(w.heap.size + 1), 0, none⟩ = some (.slice ao1 A1.length cap1) := XP1.out.cell
  replace XR : Hid (Bx w2 (w.heap.size + 1 + 1) (.slice none 0 0)) := XR.out.kept b
  replace cXR : w2.cell? ⟨(w.heap.size + 1 + 1), 0, none⟩ = some (.slice none 0 0) := XR.out.cell
  replace fXR : w2.frozen? ⟨(w.heap.size + 1 + 1), 0, none⟩ = false := XR.out.free
  clear b
  cases hv0 : val A0 with
  | false =>
    have Y := out_no B0.out (by omega) XR.out
    have HR : Hid (AnsI (R A0 A1 a2 a3) (ok A0 A1 a2 a3) w (.returned (.tuple #[.agg #[.slice none 0 0], .bool false])) (w2.setCell ⟨(w.heap.size + 1 + 1), 0, none⟩ (.slice none 0 0))) := by
      have e1 : R A0 A1 a2 a3 = [] := by simp [R, hv0]
      have e2 : ok A0 A1 a2 a3 = false := by simp [ok, hv0]
      rw [e1, e2]; exact Y.1
    have y := Y.2
    clear Y
    go_wp2_with fail
    exact bodyPost_ret (v := .tuple #[.agg #[.slice none 0 0], .bool false]) (by simp [results, Try.results20, y, go_sem]) rfl HR.out
  | true =>
    have Hhv0 : Hid (val A0 = true) := hv0
    clear hv0
    go_wp2_with fail
    refine (valid_any ⟨_, rfl, (R1.out.ls (by have := Zw1.out; have := Zw2.out; omega))⟩).mono ?_
    rintro e w3 ⟨rfl, b⟩
    have Zw3 : Hid (w2.heap.size ≤ w3.heap.size) := b.size
    replace B0 : Hid (Below w.heap.size w w3) := B0.out.trans (b.mono (by have := Zw1.out; have := Zw2.out; omega))
    replace B1 : Hid (Below w1.heap.size w1 w3) := B1.out.trans (b.mono (by have := Zw2.out; omega))
    replace R0 : Hid (Rd w3 w.heap.size (.slice ao0 A0.length cap0) A0) := R0.out.below b (by have := Zw1.out; have := Zw2.out; omega)
    replace R1 : Hid (Rd w3 w.heap.size (.slice ao1 A1.length cap1) A1) := R1.out.below b (by have := Zw1.out; have := Zw2.out; omega)
    replace XP0 : Hid (Bx w3 w.heap.size (.slice ao0 A0.length cap0)) := XP0.out.kept b
    replace cXP0 : w3.cell? ⟨w.heap.size, 0, none⟩ = some (.slice ao0 A0.length cap0) := XP0.out.cell
    replace XP1 : Hid (Bx w3 (w.heap.size + 1) (.slice ao1 A1.length cap1)) := XP1.out.kept b
    replace cXP1 : w3.cell? ⟨(w.heap.size + 1), 0, none⟩ = some (.slice ao1 A1.length cap1) := XP1.out.cell
    replace XR : Hid (Bx w3 (w.heap.size + 1 + 1) (.slice none 0 0)) := XR.out.kept b
    replace cXR : w3.cell? ⟨(w.heap.size + 1 + 1), 0, none⟩ = some (.slice none 0 0) := XR.out.cell
    replace fXR : w3.frozen? ⟨(w.heap.size + 1 + 1), 0, none⟩ = false := XR.out.free
    clear b
    cases hv1 : val A1 with
    | false =>
      have Y := out_no B0.out (by omega) XR.out
      have HR : Hid (AnsI (R A0 A1 a2 a3) (ok A0 A1 a2 a3) w (.returned (.tuple #[.agg #[.slice none 0 0], .bool false])) (w3.setCell ⟨(w.heap.size + 1 + 1), 0, none⟩ (.slice none 0 0))) := by
        have e1 : R A0 A1 a2 a3 = [] := by simp [R, Hhv0.out, hv1]
        have e2 : ok A0 A1 a2 a3 = false := by simp [ok, Hhv0.out, hv1]
        rw [e1, e2]; exact Y.1
      have y := Y.2
      clear Y
      go_wp2_with fail
      exact bodyPost_ret (v := .tuple #[.agg #[.slice none 0 0], .bool false]) (by simp [results, Try.results20, y, go_sem]) rfl HR.out
    | true =>
      have Hhv1 : Hid (val A1 = true) := hv1
      clear hv1
      go_wp2_with fail
      refine (rg_i a2 _).mono ?_
      rintro e w0 ⟨rfl, hw0⟩
      rw [hw0]
      clear hw0
      cases hx : rg a2 with
      | false =>
        have Y := out_no B0.out (by omega) XR.out
        have HR : Hid (AnsI (R A0 A1 a2 a3) (ok A0 A1 a2 a3) w (.returned (.tuple #[.agg #[.slice none 0 0], .bool false])) (w3.setCell ⟨(w.heap.size + 1 + 1), 0, none⟩ (.slice none 0 0))) := by
          have e1 : R A0 A1 a2 a3 = [] := by simp [R, Hhv0.out, Hhv1.out, hx]
          have e2 : ok A0 A1 a2 a3 = false := by simp [ok, Hhv0.out, Hhv1.out, hx]
          rw [e1, e2]; exact Y.1
        have y := Y.2
        clear Y
        go_wp2_with fail
        exact bodyPost_ret (v := .tuple #[.agg #[.slice none 0 0], .bool false]) (by simp [results, Try.results20, y, go_sem]) rfl HR.out
      | true =>
        have Hhx : Hid (rg a2 = true) := hx
        clear hx
        go_wp2_with fail
        refine (rg_i a3 _).mono ?_
        rintro e w0 ⟨rfl, hw0⟩
        rw [hw0]
        clear hw0
        cases hy : rg a3 with
        | false =>
          have Y := out_no B0.out (by omega) XR.out
          have HR : Hid (AnsI (R A0 A1 a2 a3) (ok A0 A1 a2 a3) w (.returned (.tuple #[.agg #[.slice none 0 0], .bool false])) (w3.setCell ⟨(w.heap.size + 1 + 1), 0, none⟩ (.slice none 0 0))) := by
            have e1 : R A0 A1 a2 a3 = [] := by simp [R, Hhv0.out, Hhv1.out, Hhx.out, hy]
            have e2 : ok A0 A1 a2 a3 = false := by simp [ok, Hhv0.out, Hhv1.out, Hhx.out, hy]
            rw [e1, e2]; exact Y.1
          have y := Y.2
          clear Y
          go_wp2_with fail
          exact bodyPost_ret (v := .tuple #[.agg #[.slice none 0 0], .bool false]) (by simp [results, Try.results20, y, go_sem]) rfl HR.out
        | true =>
          have Hhy : Hid (rg a3 = true) := hy
          clear hy
          have V0 : Val A0 := val_iff.1 Hhv0.out
          have V1 : Val A1 := val_iff.1 Hhv1.out
          have HA : Hid (1 ≤ A0.length ∧ A0.length ≤ 40) := ⟨V0.1, by have := V0.2.1; omega⟩
          have HB : Hid (1 ≤ A1.length ∧ A1.length ≤ 40) := ⟨V1.1, by have := V1.2.1; omega⟩
          have HX : Hid (∀ k, -1000000000000 ≤ a2 * at' A0 k ∧ a2 * at' A0 k ≤ 1000000000000) := rg_bd Hhx.out V0
          have HY : Hid (∀ k, -1000000000000 ≤ a3 * at' A1 k ∧ a3 * at' A1 k ≤ 1000000000000) := rg_bd Hhy.out V1
          clear V0 V1
          go_wp2_with fail
          refine (weighed_any (R0.out.ls (by have := Zw1.out; have := Zw2.out; have := Zw3.out; omega)) (R1.out.ls (by have := Zw1.out; have := Zw2.out; have := Zw3.out; omega)) HA.out HB.out a2 a3 HX.out HY.out).mono ?_
          rintro e w4 ⟨v, rfl, o, b⟩
          obtain ⟨Ta, Tc, rfl⟩ := o.shape
          have Zw4 : Hid (w3.heap.size ≤ w4.heap.size) := b.size
          replace B0 : Hid (Below w.heap.size w w4) := B0.out.trans (b.mono (by have := Zw1.out; have := Zw2.out; have := Zw3.out; omega))
          replace B1 : Hid (Below w1.heap.size w1 w4) := B1.out.trans (b.mono (by have := Zw2.out; have := Zw3.out; omega))
          replace R0 : Hid (Rd w4 w.heap.size (.slice ao0 A0.length cap0) A0) := R0.out.below b (by have := Zw1.out; have := Zw2.out; have := Zw3.out; omega)
          replace R1 : Hid (Rd w4 w.heap.size (.slice ao1 A1.length cap1) A1) := R1.out.below b (by have := Zw1.out; have := Zw2.out; have := Zw3.out; omega)
          replace XP0 : Hid (Bx w4 w.heap.size (.slice ao0 A0.length cap0)) := XP0.out.kept b
          replace cXP0 : w4.cell? ⟨w.heap.size, 0, none⟩ = some (.slice ao0 A0.length cap0) := XP0.out.cell
          replace XP1 : Hid (Bx w4 (w.heap.size + 1) (.slice ao1 A1.length cap1)) := XP1.out.kept b
          replace cXP1 : w4.cell? ⟨(w.heap.size + 1), 0, none⟩ = some (.slice ao1 A1.length cap1) := XP1.out.cell
          replace XR : Hid (Bx w4 (w.heap.size + 1 + 1) (.slice none 0 0)) := XR.out.kept b
          replace cXR : w4.cell? ⟨(w.heap.size + 1 + 1), 0, none⟩ = some (.slice none 0 0) := XR.out.cell
          replace fXR : w4.frozen? ⟨(w.heap.size + 1 + 1), 0, none⟩ = false := XR.out.free
          have OT : Hid (Own w4 w3.heap.size w4.heap.size (.slice Ta (weigh A0 A1 a2 a3).length Tc) (weigh A0 A1 a2 a3)) := o
          clear o b
          go_wp2_with fail
          refine (wo_any (w0 := w1) (OT.out.wide (by have := Zw2.out; have := Zw3.out; omega) (Nat.le_refl _)) B1.out (fun e => by have := weigh_len A0 A1 a2 a3; rw [e] at this; simp at this; have := HA.out; omega)).mono ?_
          rintro e w5 ⟨_, rfl, ⟨s, rfl, o⟩, b⟩
          obtain ⟨ra, rc, rfl⟩ := o.shape
          replace XR : Hid (Bx w5 (w.heap.size + 1 + 1) (.slice none 0 0)) := XR1.out.below b LR.out
          replace cXR : w5.cell? ⟨(w.heap.size + 1 + 1), 0, none⟩ = some (.slice none 0 0) := XR.out.cell
          replace fXR : w5.frozen? ⟨(w.heap.size + 1 + 1), 0, none⟩ = false := XR.out.free
          replace B0 : Hid (Below w.heap.size w w5) := BW.out.trans (b.mono (by have := Zw1.out; omega))
          replace B1 : Hid (Below w1.heap.size w1 w5) := b
          clear b
          have Y := out_yes (ok := val (trim (weigh A0 A1 a2 a3))) (W1 := w1) (w := w) (r := (w.heap.size + 1 + 1)) BW.out (by omega) LR.out XR.out o B1.out
          have HR : Hid (AnsI (R A0 A1 a2 a3) (ok A0 A1 a2 a3) w (.returned (.tuple #[.agg #[.slice ra (gv (weigh A0 A1 a2 a3)).length rc], .bool (val (trim (weigh A0 A1 a2 a3)))])) (w5.setCell ⟨(w.heap.size + 1 + 1), 0, none⟩ (.slice ra (gv (weigh A0 A1 a2 a3)).length rc))) := by
            have e1 : R A0 A1 a2 a3 = gv (weigh A0 A1 a2 a3) := by simp [R, Hhv0.out, Hhv1.out, Hhx.out, Hhy.out]
            have e2 : ok A0 A1 a2 a3 = val (trim (weigh A0 A1 a2 a3)) := by simp [ok, Hhv0.out, Hhv1.out, Hhx.out, Hhy.out]
            rw [e1, e2]; exact Y.1
          have y := Y.2
          clear Y o
          generalize val (trim (weigh A0 A1 a2 a3)) = gb at *
          generalize (gv (weigh A0 A1 a2 a3)).length = gl at *
          go_wp2_with fail
          exact bodyPost_ret (v := .tuple #[.agg #[.slice ra gl rc], .bool gb]) (by simp [results, Try.results20, y, go_sem]) rfl HR.out
end Go.Proofs.Ytledglanaacaeaa.fAddWholes
