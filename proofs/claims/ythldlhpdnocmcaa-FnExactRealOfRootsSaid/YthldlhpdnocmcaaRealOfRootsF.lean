/- RealOfRoots: what both sides answer. -/
import Derived.Test.YthldlhpdnocmcaaMulWholesF
import Derived.Test.YthldlhpdnocmcaaFrA
import Derived.Test.YthldlhpdnocmcaaRr
import Derived.Test.YthldlhpdnocmcaaHr
namespace Go.Proofs.Ythldlhpdnocmcaa.fRealOfRoots
open Go.RowKit Go.Pl Go.Proofs.Ythldlhpdnocmcaa.wh
def ok (L : List Int) : Bool := decide (L.length ≤ 8) && (decide (inR (-1000) 1000 L) && valR (prr L L.length))
def R (L : List Int) : List Int := if ok L = true then prr L L.length else []
theorem len (L : List Int) : (R L).length ≤ 17 := by
  unfold R
  split
  · rename_i h
    unfold ok at h
    simp only [Bool.and_eq_true] at h
    have := (valR_iff.1 h.2.2).le
    omega
  · simp
theorem no_ok {L : List Int} (h : ok L = false) : R L = [] := if_neg (by rw [h]; decide)
theorem yes_ok {L : List Int} (h : ok L = true) : R L = prr L L.length := if_pos h
def rof (L : List Int) : List Int := if valR L = true then L else []
/-- what the next product is, as the program makes it -/
theorem next_val {L : List Int} {k : Nat} (_h : Val (prr L k)) (hr : -1000 ≤ at' L k ∧ at' L k ≤ 1000) : Val [-(at' L k), 1] ∧ prod (prr L k) [-(at' L k), 1] = prr L (k + 1) ∧ trim (prr L (k + 1)) = prr L (k + 1) := by
  refine ⟨⟨by simp, by simp, fun z hz => ?_, .inr (by simp)⟩, prod_linp _ _, trim_id (fun e => by have := prr_len L (k + 1); rw [e] at this; simp at this) (.inr ?_)⟩
  · simp only [List.mem_cons, List.not_mem_nil, or_false] at hz
    omega
  · rw [prr_len, Nat.add_sub_cancel, at_some _ (k + 1) (by rw [prr_len]; omega), prr_last]
    decide

set_option maxRecDepth 100000 in
set_option maxHeartbeats 1600000 in
theorem iof_any {v : Value} {L : List Int} {w0 w : World} {lo hi : Nat} (h : Own w lo hi v L) (hlo : w0.heap.size ≤ lo) (hhi : hi ≤ w.heap.size) (hb0 : Below w0.heap.size w0 w) :
    Calls Try.prog 105 #[v] w (AnsI (rof L) (valR L) w0) := by
  have HH : Hid (Own w w0.heap.size w.heap.size v L) := h.wide hlo hhi
  have HB : Hid (Below w0.heap.size w0 w) := hb0
  have hsz : w0.heap.size ≤ w.heap.size := hb0.size
  obtain ⟨ao, cap, rfl⟩ := h.shape
  clear h hb0 hlo hhi
  obtain ⟨w1, hw⟩ : ∃ x, x = (w.alloc (.cells #[.slice none 0 0] 54)).alloc (.cells #[.slice ao L.length cap] 54) := ⟨_, rfl⟩
  have X1 : Hid (Bx w1 w.heap.size (.slice none 0 0)) := by rw [hw]; exact (Bx.new _ _ _).alloc _
  have X2 : Hid (Bx w1 (w.heap.size + 1) (.slice ao L.length cap)) := by rw [hw]; exact Bx.new2 _ _ _ _
  have B1 : Hid (Below w.heap.size w w1) := by rw [hw]; exact new2 _ _ _
  have O1 : Hid (Own w1 w0.heap.size w.heap.size (.slice ao L.length cap) L) := HH.out.kept B1.out
  have HS : Hid (w1.heap.size = w.heap.size + 1 + 1) := by show _ = _; rw [hw]; simp
  have c1 := X1.out.cell
  have f1 := X1.out.free
  have c2 := X2.out.cell
  go_enter Try.func105, Try.ntmps105
  go_wp2_with fail
  rw [← hw]
  clear hw
  refine (validR_any ⟨_, rfl, O1.out.ls (by have := HS.out; omega)⟩).mono ?_
  rintro e w3 ⟨rfl, b3⟩
  have O3 : Hid (Own w3 w0.heap.size w.heap.size (.slice ao L.length cap) L) := O1.out.kept b3
  have B3 : Hid (Below w.heap.size w w3) := B1.out.trans (b3.mono B1.out.size)
  replace X1 : Hid (Bx w3 w.heap.size (.slice none 0 0)) := X1.out.kept b3
  replace X2 : Hid (Bx w3 (w.heap.size + 1) (.slice ao L.length cap)) := X2.out.kept b3
  replace c1 := X1.out.cell
  replace f1 := X1.out.free
  replace c2 := X2.out.cell
  have HS3 : Hid (w.heap.size ≤ w3.heap.size) := B3.out.size
  have BB : Hid (Below w0.heap.size w0 w3) := HB.out.trans (B3.out.mono hsz)
  clear b3 O1 B1 HS
  cases hv : valR L with
  | true =>
    have y1 := (X1.out.set (.slice ao L.length cap)).cell
    have HR : Hid (AnsI (rof L) (valR L) w0 (.returned (.tuple #[.agg #[.slice ao L.length cap], .bool true])) (w3.setCell ⟨w.heap.size, 0, none⟩ (.slice ao L.length cap))) := by
      show AnsI _ _ _ _ _
      rw [hv, show rof L = L from if_pos hv]
      exact ⟨_, rfl, ⟨_, rfl, Own.wide (Own.stay O3.out fun k _ h2 _ => Below.heap_setCell _ _ _ _ (by show k ≠ w.heap.size; omega)) (Nat.le_refl _) (by have := HS3.out; simp; omega)⟩, BB.out.setCell hsz _⟩
    clear hv
    generalize L.length = gl at *
    go_wp2_with fail
    refine bodyPost_ret (v := .tuple #[.agg #[.slice ao gl cap], .bool true]) (by simp [results, Try.results105, y1, go_sem]) rfl HR.out
  | false =>
    have y1 := (X1.out.set (.slice none 0 0)).cell
    have HR : Hid (AnsI (rof L) (valR L) w0 (.returned (.tuple #[.agg #[.slice none 0 0], .bool false])) (w3.setCell ⟨w.heap.size, 0, none⟩ (.slice none 0 0))) := by
      show AnsI _ _ _ _ _
      rw [hv, show rof L = [] from if_neg (by rw [hv]; decide)]
      exact ⟨_, rfl, OwW.zero _ _ _, BB.out.setCell hsz _⟩
    clear hv
    go_wp2_with fail
    refine bodyPost_ret (v := .tuple #[.agg #[.slice none 0 0], .bool false]) (by simp [results, Try.results105, y1, go_sem]) rfl HR.out

set_option maxRecDepth 100000 in
set_option maxHeartbeats 6400000 in
theorem impl_any {A : List Int} {v : Value} {w : World} (h : Ls w v A) (_hs : (A.length : Int) ≤ 1048576) : Calls Try.prog 46 #[v] w (AnsI (R A) (ok A) w) := by
  obtain ⟨ao, cap, rfl, hn, hcap, hc⟩ := id h
  have HH : Hid (Ls w (.slice ao A.length cap) A) := h
  have HC : Hid (A.length ≠ 0 → ∃ b off, ao = some ⟨b, off, none⟩ ∧ b < w.heap.size ∧ ∀ (k : Nat) (z : Int), A[k]? = some z → w.cell? ⟨b, off + k, none⟩ = some (.int .i64 z)) := hc
  clear h hc
  obtain ⟨w1, hw⟩ : ∃ x, x = w.alloc (.cells #[.slice none 0 0] 54) := ⟨_, rfl⟩
  have XR : Hid (Bx w1 w.heap.size (.slice none 0 0)) := by rw [hw]; exact Bx.new _ _ _
  have B1 : Hid (Below w.heap.size w w1) := by rw [hw]; exact new1 _ _
  have LR : Hid (w.heap.size < w1.heap.size) := XR.out.lt
  have H1 : Hid (Ls w1 (.slice ao A.length cap) A) := HH.out.below B1.out
  have cR := XR.out.cell
  have fR := XR.out.free
  have NO : Hid (∀ W x, ok A = false → Below w.heap.size w W → Bx W w.heap.size x → AnsI (R A) (ok A) w (.returned (.tuple #[.agg #[.slice none 0 0], .bool false])) (W.setCell ⟨w.heap.size, 0, none⟩ (.slice none 0 0)) ∧ (W.setCell ⟨w.heap.size, 0, none⟩ (.slice none 0 0)).cell? ⟨w.heap.size, 0, none⟩ = some (.slice none 0 0)) := fun W x h1 h2 h3 => by
    rw [no_ok h1, h1]
    exact out_no h2 (Nat.le_refl _) h3
  by_cases h8 : 8 < A.length
  · have HNO : Hid (ok A = false) := by show ok A = false; unfold ok; rw [decide_eq_false (by omega)]; rfl
    have HRH : Hid (AnsI (R A) (ok A) w (.returned (.tuple #[.agg #[.slice none 0 0], .bool false])) w1) := by
      show AnsI _ _ _ _ _
      rw [no_ok HNO.out, HNO.out]
      exact ⟨_, rfl, OwW.zero _ _ _, B1.out⟩
    have y := cR
    have h8' : (8 : Int) < (A.length : Int) := by omega
    generalize A.length = gl at *
    go_enter Try.func46, Try.ntmps46
    go_wp2_with fail
    rw [← hw]
    clear hw
    go_wp2_with fail
    exact bodyPost_ret (v := .tuple #[.agg #[.slice none 0 0], .bool false]) (by simp [results, Try.results46, y, go_sem]) rfl HRH.out
  obtain ⟨n, hnn⟩ : ∃ n, n = A.length := ⟨_, rfl⟩
  have HN : Hid (n = A.length ∧ n ≤ 8) := ⟨hnn, by omega⟩
  have h8' : ¬ (8 : Int) < (A.length : Int) := by omega
  rw [← hnn] at hn hcap HC H1 HH h8' ⊢
  have hn8 : n ≤ 8 := HN.out.2
  clear hnn h8
  go_enter Try.func46, Try.ntmps46
  go_wp2_with fail
  rw [← hw]
  clear hw
  refine (are_any H1.out (-1000) 1000).mono ?_
  rintro e w2 ⟨rfl, hw2⟩
  rw [hw2]
  clear hw2
  by_cases hin : inR (-1000) 1000 A
  case neg =>
    have HNO : Hid (ok A = false) := by show ok A = false; unfold ok; rw [decide_eq_false hin]; simp
    have Y := NO.out w1 _ HNO.out B1.out XR.out
    have HRH : Hid (AnsI (R A) (ok A) w (.returned (.tuple #[.agg #[.slice none 0 0], .bool false])) (w1.setCell ⟨w.heap.size, 0, none⟩ (.slice none 0 0))) := Y.1
    have y := Y.2
    rw [decide_eq_false hin]
    clear Y hin
    go_wp2_with fail
    exact bodyPost_ret (v := .tuple #[.agg #[.slice none 0 0], .bool false]) (by simp [results, Try.results46, y, go_sem]) rfl HRH.out
  rw [decide_eq_true hin]
  have HIN : Hid (inR (-1000) 1000 A) := hin
  have HOK : Hid (ok A = valR (prr A n)) := by show ok A = _; unfold ok; rw [decide_eq_true hin, decide_eq_true (by have := HN.out; omega), ← HN.out.1]; rfl
  clear hin
  obtain ⟨w3, hw3⟩ : ∃ x, x = (w1.alloc (.cells #[.int .i64 1] 2)).alloc (.cells #[.slice (some ⟨w1.heap.size, 0, none⟩) 1 1] 26) := ⟨_, rfl⟩
  have XP0 : Hid (Bx w3 (w1.heap.size + 1) (.slice (some ⟨w1.heap.size, 0, none⟩) (prr A 0).length 1)) := by rw [hw3]; exact Bx.new2 _ _ _ _
  have b3 : Below w1.heap.size w1 w3 := by rw [hw3]; exact new2 _ _ _
  have O0 : Hid (Own w3 w1.heap.size (w1.heap.size + 1) (.slice (some ⟨w1.heap.size, 0, none⟩) (prr A 0).length 1) (prr A 0)) := by
    have h1 : Own (w1.alloc (.cells #[.int .i64 1] 2)) w1.heap.size (w1.alloc (.cells #[.int .i64 1] 2)).heap.size (.slice (some ⟨w1.heap.size, 0, none⟩) 1 1) [1] :=
      Own.of_row (World.ownsRow_lit (base := w1.heap.size) (e := 2) (size := 1) w1 #[.int .i64 1] 1 (Nat.le_refl _) (by decide) rfl) (by decide) (Nat.le_refl _)
    rw [hw3]
    have h2 := h1.kept (new1 (w1.alloc (.cells #[.int .i64 1] 2)) (.cells #[.slice (some ⟨w1.heap.size, 0, none⟩) 1 1] 26))
    have h3 : (w1.alloc (.cells #[.int .i64 1] 2)).heap.size = w1.heap.size + 1 := by simp
    rw [h3] at h2
    exact h2
  have HS3 : Hid (w3.heap.size = w1.heap.size + 1 + 1) := by show _ = _; rw [hw3]; simp
  have B3 : Hid (Below w1.heap.size w1 w3) := b3
  have HV0 : Hid (Val (prr A 0)) := by
    refine ⟨by simp [prr], by simp [prr], fun z hz => ?_, .inl rfl⟩
    simp only [prr, List.mem_singleton] at hz
    omega
  have HRO : Hid (∀ k, -1000 ≤ at' A k ∧ at' A k ≤ 1000) := HIN.out.at (by omega) (by omega)
  have cR3 := (XR.out.below b3 LR.out).cell
  clear b3 cR fR
  go_wp2_with fail
  rw [← hw3]
  clear hw3
  go_loopw [21] (fun t wr => ∃ (k : Nat) (pa : Option Addr) (pc lo hi : Nat), k ≤ n ∧ t = .int .i64 (k : Int) ∧ w1.heap.size ≤ lo ∧ hi ≤ wr.heap.size ∧ (hi ≤ w1.heap.size + 1 ∨ w1.heap.size + 1 < lo) ∧ Hid (Val (prr A k)) ∧ Hid (Bx wr (w1.heap.size + 1) (.slice pa (prr A k).length pc)) ∧ Hid (Own wr lo hi (.slice pa (prr A k).length pc) (prr A k)) ∧ Hid (Below w1.heap.size w1 wr)) (fun t _ => n - (intOf t).toNat)
  case atStart => exact ⟨0, _, _, _, _, by omega, rfl, Nat.le_refl _, by have := HS3.out; omega, .inl (Nat.le_refl _), HV0, XP0, O0, B3⟩
  case round =>
    obtain ⟨k, pa, pc, lo, hi, hk, rfl, hlo, hhi, hdis, hval, hx, ho, hb⟩ := hrel
    have XRr : Hid (Bx wr w.heap.size (.slice none 0 0)) := XR.out.below hb.out LR.out
    have BF : Hid (Below w.heap.size w wr) := B1.out.trans (hb.out.mono B1.out.size)
    have cP := hx.out.cell
    have fP := hx.out.free
    have cR := XRr.out.cell
    have fR := XRr.out.free
    by_cases hlt : k < n
    · obtain ⟨b, off, rfl, hbw, hcell⟩ := HC.out (by have := HN.out; omega)
      have e1 : wr.cell? ⟨b, off + k, none⟩ = some (.int .i64 (at' A k)) := (hb.out.cell (p := ⟨b, off + k, none⟩) (by have := LR.out; show b < _; omega)).trans ((B1.out.cell (p := ⟨b, off + k, none⟩) hbw).trans (hcell k _ (at_some A k (by have := HN.out; omega))))
      have hr := HRO.out k
      obtain ⟨k1, k2, k3⟩ := next_val hval.out hr
      have K1 : Hid (Val [-(at' A k), 1]) := k1
      have K2 : Hid (prod (prr A k) [-(at' A k), 1] = prr A (k + 1)) := k2
      have K3 : Hid (trim (prr A (k + 1)) = prr A (k + 1)) := k3
      obtain ⟨r, hre⟩ : ∃ r, r = at' A k := ⟨_, rfl⟩
      rw [← hre] at e1 hr K1 K2
      have n1 : IntKind.i64.wrap (-r) = -r := IntWalk.i64_in _ (by omega)
      have n2 : wrap64 (-r) = -r := IntWalk.wrap64_in _ (by omega)
      have HLI : Hid (Wh (wr.alloc (.cells #[.int .i64 (-r), .int .i64 1] 2)) (.agg #[.slice (some ⟨wr.heap.size, 0, none⟩) 2 2]) [-r, 1]) :=
        ⟨_, rfl, (Own.of_row (L := [-r, 1]) (World.ownsRow_lit (base := wr.heap.size) (e := 2) (size := 1) wr #[.int .i64 (-r), .int .i64 1] 2 (Nat.le_refl _) (by decide) rfl) (by simp) (Nat.le_refl _)).ls (Nat.le_refl _)⟩
      have HPL : Hid (Wh (wr.alloc (.cells #[.int .i64 (-r), .int .i64 1] 2)) (.agg #[.slice pa (prr A k).length pc]) (prr A k)) := ⟨_, rfl, (ho.out.ls hhi).below (new1 _ _)⟩
      have HRE : Hid (fMulWholes.R (prr A k) [-r, 1] = gv (prr A (k + 1)) ∧ fMulWholes.ok (prr A k) [-r, 1] = val (prr A (k + 1))) := by
        unfold fMulWholes.R fMulWholes.ok
        rw [val_iff.2 hval.out, val_iff.2 K1.out, K2.out, K3.out]
        exact ⟨rfl, rfl⟩
      clear k1 k2 k3 hre hcell hbw
      go_wp2_with fail
      refine (fMulWholes.impl_any HPL.out HLI.out).mono ?_
      rintro e w4 ⟨_, rfl, ⟨s, rfl, o⟩, b4⟩
      obtain ⟨qa, qc, rfl⟩ := o.shape
      rw [HRE.out.2]
      have bw4 : Hid (Below wr.heap.size wr w4) := (new1 wr _).trans (b4.mono (by simp))
      have B4 : Hid (Below w1.heap.size w1 w4) := hb.out.trans (bw4.out.mono hb.out.size)
      have X4 : Hid (Bx w4 (w1.heap.size + 1) (.slice pa (prr A k).length pc)) := hx.out.kept bw4.out
      have XR4 : Hid (Bx w4 w.heap.size (.slice none 0 0)) := XRr.out.kept bw4.out
      have LW : Hid (w1.heap.size + 1 < wr.heap.size) := hx.out.lt
      have O4 : Hid (Own w4 wr.heap.size w4.heap.size (.slice qa (fMulWholes.R (prr A k) [-r, 1]).length qc) (gv (prr A (k + 1)))) := by
        show Own _ _ _ _ _
        have h1 := o.wide (lo' := wr.heap.size) (by simp) (Nat.le_refl _)
        rw [HRE.out.1] at h1 ⊢
        exact h1
      have HLEN : Hid ((fMulWholes.R (prr A k) [-r, 1]).length = (gv (prr A (k + 1))).length) := by show _ = _; rw [HRE.out.1]
      rw [HLEN.out] at O4 ⊢
      clear o b4 cP fP cR fR e1 ho hx
      have cP := X4.out.cell
      have fP := X4.out.free
      have fR := XR4.out.free
      have cR := XR4.out.cell
      cases hv : val (prr A (k + 1)) with
      | false =>
        have HNO : Hid (ok A = false) := by
          show ok A = false
          rw [HOK.out]
          exact valR_no fun h => by
            rw [val_iff.2 (prr_val h (k + 1) (by omega))] at hv
            cases hv
        obtain ⟨gl, hgl⟩ : ∃ g, g = (gv (prr A (k + 1))).length := ⟨_, rfl⟩
        rw [← hgl]
        have B5 : Hid (Below w.heap.size w (w4.setCell ⟨w1.heap.size + 1, 0, none⟩ (.slice qa gl qc))) := (BF.out.trans (bw4.out.mono BF.out.size)).setCell (by have := LR.out; show w.heap.size ≤ w1.heap.size + 1; omega) _
        have X5 : Hid (Bx (w4.setCell ⟨w1.heap.size + 1, 0, none⟩ (.slice qa gl qc)) w.heap.size (.slice none 0 0)) := XR4.out.other (by have := LR.out; omega) _
        have Y := NO.out _ _ HNO.out B5.out X5.out
        have HRH : Hid (AnsI (R A) (ok A) w (.returned (.tuple #[.agg #[.slice none 0 0], .bool false])) ((w4.setCell ⟨w1.heap.size + 1, 0, none⟩ (.slice qa gl qc)).setCell ⟨w.heap.size, 0, none⟩ (.slice none 0 0))) := Y.1
        have y := Y.2
        have f5 := X5.out.free
        have c5 := X5.out.cell
        clear Y hv hgl O4
        go_wp2_with fail
        exact bodyPost_ret (v := .tuple #[.agg #[.slice none 0 0], .bool false]) (by simp [results, Try.results46, y, go_sem]) rfl HRH.out
      | true =>
        have HVN : Hid (Val (prr A (k + 1))) := val_iff.1 hv
        have HGV : Hid (gv (prr A (k + 1)) = prr A (k + 1)) := by show gv _ = _; rw [gv_yes (by rw [K3.out]; exact hv), K3.out]
        rw [HGV.out] at O4 ⊢
        have X5 : Hid (Bx (w4.setCell ⟨w1.heap.size + 1, 0, none⟩ (.slice qa (prr A (k + 1)).length qc)) (w1.heap.size + 1) (.slice qa (prr A (k + 1)).length qc)) := X4.out.set _
        have O5 : Hid (Own (w4.setCell ⟨w1.heap.size + 1, 0, none⟩ (.slice qa (prr A (k + 1)).length qc)) wr.heap.size w4.heap.size (.slice qa (prr A (k + 1)).length qc) (prr A (k + 1))) := O4.out.setBelow LW.out _
        have B5 : Hid (Below w1.heap.size w1 (w4.setCell ⟨w1.heap.size + 1, 0, none⟩ (.slice qa (prr A (k + 1)).length qc))) := B4.out.setCell (by show w1.heap.size ≤ w1.heap.size + 1; omega) _
        have hle : w1.heap.size ≤ wr.heap.size := hb.out.size
        have hlw := LW.out
        clear hv O4 X4 XR4 fR cR
        go_wp2_with fail
        go_roundw
        case rel => exact ⟨k + 1, qa, qc, wr.heap.size, w4.heap.size, by omega, by go_num, hle, by simp, .inr hlw, HVN, X5, O5, B5⟩
        case measure => simp [intOf]; omega
    · obtain rfl : k = n := by omega
      have HRX : Hid (R A = rof (prr A k)) := by
        show R A = _
        unfold R rof
        rw [HOK.out, ← HN.out.1]
      clear HC
      go_wp2_with fail
      refine (iof_any (w0 := w1) ho.out hlo hhi hb.out).mono ?_
      rintro e w4 ⟨_, rfl, ⟨s, rfl, o⟩, b4⟩
      obtain ⟨ra, rc, rfl⟩ := o.shape
      have XR4 : Hid (Bx w4 w.heap.size (.slice none 0 0)) := XR.out.below b4 LR.out
      have Y := out_yes (ok := valR (prr A k)) (W1 := w1) (w := w) (r := w.heap.size) B1.out (Nat.le_refl _) LR.out XR4.out o b4
      have HRH : Hid (AnsI (R A) (ok A) w (.returned (.tuple #[.agg #[.slice ra (rof (prr A k)).length rc], .bool (valR (prr A k))])) (w4.setCell ⟨w.heap.size, 0, none⟩ (.slice ra (rof (prr A k)).length rc))) := by
        show AnsI _ _ _ _ _
        rw [HRX.out, HOK.out]; exact Y.1
      have y := Y.2
      have fR := XR4.out.free
      have cR := XR4.out.cell
      clear Y o b4 ho hx cP fP
      generalize valR (prr A k) = gb at *
      generalize (rof (prr A k)).length = gl at *
      go_wp2_with fail
      exact bodyPost_ret (v := .tuple #[.agg #[.slice ra gl rc], .bool gb]) (by simp [results, Try.results46, y, go_sem]) rfl HRH.out

/-- the next product, k steps of the model's on -/
def nxt (P : List Int) (r : Int) (k : Nat) : List Int := (List.range (P.length + 1)).map fun j => (if 1 ≤ j ∧ j ≤ k then at' P (j - 1) else 0) - (if j < k then r * at' P j else 0)
theorem nxt_len (P : List Int) (r : Int) (k : Nat) : (nxt P r k).length = P.length + 1 := by simp [nxt]
theorem nxt_at (P : List Int) (r : Int) (k j : Nat) (h : j < P.length + 1) : at' (nxt P r k) j = (if 1 ≤ j ∧ j ≤ k then at' P (j - 1) else 0) - (if j < k then r * at' P j else 0) := by
  have : (nxt P r k)[j]? = some ((if 1 ≤ j ∧ j ≤ k then at' P (j - 1) else 0) - (if j < k then r * at' P j else 0)) := by
    unfold nxt
    rw [List.getElem?_map, List.getElem?_range h]; rfl
  exact at_get this
theorem nxt_zero (P : List Int) (r : Int) : List.replicate (P.length + 1) 0 = nxt P r 0 := ext_at (by rw [nxt_len]; simp) fun j hj => by
  rw [List.length_replicate] at hj
  rw [rep_at, nxt_at P r 0 j hj, if_neg (by omega), if_neg (by omega)]; rfl
theorem nxt_end (P : List Int) (r : Int) : nxt P r P.length = linp P r := ext_at (by rw [nxt_len, linp_len]) fun j hj => by
  rw [nxt_len] at hj
  rw [nxt_at P r _ j hj, linp_at]
  by_cases h0 : j = 0
  · subst h0
    rw [if_neg (by omega), if_pos rfl]
    by_cases h1 : 0 < P.length
    · rw [if_pos h1]
    · rw [if_neg h1, at_out (by omega), Int.mul_zero]
  · rw [if_pos ⟨by omega, by omega⟩, if_neg h0]
    by_cases h1 : j < P.length
    · rw [if_pos h1]
    · rw [if_neg h1, at_out (L := P) (k := j) (by omega), Int.mul_zero]
theorem nxt_step {P : List Int} {r : Int} {k : Nat} (hk : k < P.length) : ((nxt P r k).set (k + 1) (at' (nxt P r k) (k + 1) + at' P k)).set k (at' ((nxt P r k).set (k + 1) (at' (nxt P r k) (k + 1) + at' P k)) k - r * at' P k) = nxt P r (k + 1) := ext_at (by rw [List.length_set, List.length_set, nxt_len, nxt_len]) fun j hj => by
  rw [List.length_set, List.length_set, nxt_len] at hj
  rw [nxt_at P r (k + 1) j hj]
  by_cases e1 : j = k
  · subst e1
    rw [set_at _ (by rw [List.length_set, nxt_len]; omega), set_at_ne _ (by omega), nxt_at P r j j hj, if_neg (show ¬ j < j by omega), if_pos (show j < j + 1 by omega)]
    by_cases h0 : 1 ≤ j
    · rw [if_pos ⟨h0, by omega⟩, if_pos ⟨h0, by omega⟩]; omega
    · rw [if_neg (by omega), if_neg (by omega)]; omega
  · rw [set_at_ne _ (by omega)]
    by_cases e2 : j = k + 1
    · subst e2
      rw [set_at _ (by rw [nxt_len]; omega), nxt_at P r k (k + 1) hj, if_neg (by omega), if_neg (by omega), if_pos ⟨by omega, by omega⟩, if_neg (by omega), Nat.add_sub_cancel]
      omega
    · rw [set_at_ne _ (by omega), nxt_at P r k j hj]
      by_cases h1 : 1 ≤ j ∧ j ≤ k
      · rw [if_pos h1, if_pos (show j < k by omega), if_pos (show 1 ≤ j ∧ j ≤ k + 1 from ⟨h1.1, by omega⟩), if_pos (show j < k + 1 by omega)]
      · rw [if_neg h1, if_neg (show ¬ (1 ≤ j ∧ j ≤ k + 1) by omega)]
        by_cases h2 : j < k
        · rw [if_pos h2, if_pos (by omega)]
        · rw [if_neg h2, if_neg (by omega)]
theorem nxt_bd {P : List Int} {r : Int} {k : Nat} (hr : -1000 ≤ r ∧ r ≤ 1000) (hP : ∀ i, i < k → -1000000000 ≤ at' P i ∧ at' P i ≤ 1000000000) (j : Nat) (h : j < P.length + 1) : -2000000000000 ≤ at' (nxt P r k) j ∧ at' (nxt P r k) j ≤ 2000000000000 := by
  rw [nxt_at P r k j h]
  have a1 : -1000000000 ≤ (if 1 ≤ j ∧ j ≤ k then at' P (j - 1) else 0) ∧ (if 1 ≤ j ∧ j ≤ k then at' P (j - 1) else 0) ≤ 1000000000 := by
    by_cases h1 : 1 ≤ j ∧ j ≤ k
    · rw [if_pos h1]; exact hP _ (by omega)
    · rw [if_neg h1]; omega
  have a2 : -1000000000000 ≤ (if j < k then r * at' P j else 0) ∧ (if j < k then r * at' P j else 0) ≤ 1000000000000 := by
    by_cases h1 : j < k
    · rw [if_pos h1]
      have := mul_ab (A := 1000) (B := 1000000000) hr (hP j h1)
      omega
    · rw [if_neg h1]; omega
  omega

set_option maxRecDepth 100000 in
set_option maxHeartbeats 6400000 in
theorem spec_any {A : List Int} {v : Value} {w : World} (h : Ls w v A) (_hs : (A.length : Int) ≤ 1048576) : Calls Try.prog 44 #[v] w (AnsS (R A) (ok A) w) := by
  obtain ⟨i0, hi, hz0, hz1, hz2⟩ := info_parts info_i
  obtain ⟨ao, cap, rfl, hn, hcap, hc⟩ := id h
  have HC : Hid (A.length ≠ 0 → ∃ b off, ao = some ⟨b, off, none⟩ ∧ b < w.heap.size ∧ ∀ (k : Nat) (z : Int), A[k]? = some z → w.cell? ⟨b, off + k, none⟩ = some (.int .i64 z)) := hc
  clear h hc
  obtain ⟨w1, hw⟩ : ∃ x, x = w.alloc (.cells #[.slice none 0 0] 54) := ⟨_, rfl⟩
  have XR : Hid (Bx w1 w.heap.size (.slice none 0 0)) := by rw [hw]; exact Bx.new _ _ _
  have B1 : Hid (Below w.heap.size w w1) := by rw [hw]; exact new1 _ _
  have LR : Hid (w.heap.size < w1.heap.size) := XR.out.lt
  have cR := XR.out.cell
  have NO : Hid (∀ W x, ok A = false → Below w.heap.size w W → Bx W w.heap.size x → AnsS (R A) (ok A) w (.returned (.tuple #[.agg #[.slice none 0 0], .bool false])) (W.setCell ⟨w.heap.size, 0, none⟩ (.slice none 0 0)) ∧ (W.setCell ⟨w.heap.size, 0, none⟩ (.slice none 0 0)).cell? ⟨w.heap.size, 0, none⟩ = some (.slice none 0 0)) := fun W x h1 h2 h3 => by
    rw [no_ok h1, h1]
    exact ⟨(out_no h2 (Nat.le_refl _) h3).1.s, (out_no h2 (Nat.le_refl _) h3).2⟩
  by_cases h8 : 8 < A.length
  · have HNO : Hid (ok A = false) := by show ok A = false; unfold ok; rw [decide_eq_false (by omega)]; rfl
    have HRH : Hid (AnsS (R A) (ok A) w (.returned (.tuple #[.agg #[.slice none 0 0], .bool false])) w1) := by
      show AnsS _ _ _ _ _
      rw [no_ok HNO.out, HNO.out]
      exact ⟨_, rfl, Wh.zero _, B1.out⟩
    have y := cR
    have h8' : (9 : Int) ≤ (A.length : Int) := by omega
    generalize A.length = gl at *
    clear hi hz0 hz1 hz2
    go_enter Try.func44, Try.ntmps44
    go_wp2_with fail
    rw [← hw]
    clear hw
    go_wp2_with fail
    exact bodyPost_ret (v := .tuple #[.agg #[.slice none 0 0], .bool false]) (by simp [results, Try.results44, y, go_sem]) rfl HRH.out
  obtain ⟨n, hnn⟩ : ∃ n, n = A.length := ⟨_, rfl⟩
  have HN : Hid (n = A.length ∧ n ≤ 8) := ⟨hnn, by omega⟩
  have h8' : ¬ (9 : Int) ≤ (A.length : Int) := by omega
  rw [← hnn] at hn hcap HC h8' ⊢
  have hn8 : n ≤ 8 := HN.out.2
  have HCW : Hid (∀ W, Below w1.heap.size w1 W → n ≠ 0 → ∃ b off, ao = some ⟨b, off, none⟩ ∧ b < w.heap.size ∧ ∀ k, k < n → W.cell? ⟨b, off + k, none⟩ = some (.int .i64 (at' A k))) := fun W hW h0 => by
    obtain ⟨b, off, e, hb, hcell⟩ := HC.out h0
    exact ⟨b, off, e, hb, fun k hk => (hW.cell (p := ⟨b, off + k, none⟩) (by have := LR.out; show b < _; omega)).trans ((B1.out.cell (p := ⟨b, off + k, none⟩) hb).trans (hcell k _ (at_some A k (by have := HN.out; omega))))⟩
  clear hnn h8 HC
  obtain ⟨w3, hw3⟩ : ∃ x, x = w1.alloc (.cells #[.int .i64 1] 2) := ⟨_, rfl⟩
  have B3 : Hid (Below w1.heap.size w1 w3) := by rw [hw3]; exact new1 _ _
  have HS1 : w1.heap.size = w.heap.size + 1 := by rw [hw]; simp
  have L0 : Hid (Own w3 w1.heap.size w3.heap.size (.slice (some ⟨w.heap.size + 1, 0, none⟩) (prr A 0).length 1) (prr A 0)) := by
    rw [hw3, ← HS1]
    exact Own.of_row (L := [1]) (World.ownsRow_lit (base := w1.heap.size) (e := 2) (size := 1) w1 #[.int .i64 1] 1 (Nat.le_refl _) (by decide) rfl) (by decide) (Nat.le_refl _)
  go_enter Try.func44, Try.ntmps44
  go_wp2_with fail
  rw [← hw, ← hw3]
  clear hw hw3 HS1
  have X3 : Hid (Bx w3 w.heap.size (.slice none 0 0)) := XR.out.below B3.out LR.out
  have BW3 : Hid (Below w.heap.size w w3) := B1.out.trans (B3.out.mono B1.out.size)
  have c3 := X3.out.cell
  have f3 := X3.out.free
  clear cR
  go_loop [5] (fun t => ∃ k : Nat, k ≤ n ∧ t = .int .i64 (k : Int) ∧ Hid (∀ j, j < k → -1000 ≤ at' A j ∧ at' A j ≤ 1000)) (fun t => n - (intOf t).toNat)
  case atStart => exact ⟨0, by omega, rfl, fun j hj => by omega⟩
  case round =>
    obtain ⟨k, hk, rfl, hr⟩ := hrel
    by_cases hlt : k < n
    · obtain ⟨b, off, rfl, hbw, hcell⟩ := HCW.out w3 B3.out (by omega)
      have e1 := hcell k hlt
      clear hcell
      by_cases hin : -1000 ≤ at' A k ∧ at' A k ≤ 1000
      · have HR : Hid (∀ j, j < k + 1 → -1000 ≤ at' A j ∧ at' A j ≤ 1000) := fun j hj => by
          by_cases e : j = k
          · rw [e]; exact hin
          · exact hr.out j (by omega)
        have HD : Hid (decide (-1000 ≤ at' A k ∧ at' A k ≤ 1000) = true) := decide_eq_true hin
        clear hr hin
        generalize at' A k = x at *
        go_wp2_with fail
        refine (in_any x _ _ _).mono ?_
        rintro e w4 ⟨rfl, hw4⟩
        rw [hw4, HD.out]
        clear hw4
        go_wp2_with fail
        go_round
        case rel => exact ⟨k + 1, by omega, by go_num, HR⟩
        case measure => simp [intOf]; omega
      · have HNO : Hid (ok A = false) := by
          show ok A = false
          unfold ok
          rw [decide_eq_false (show ¬ inR (-1000) 1000 A from fun h => hin (h.get (at_some A k (by have := HN.out; omega))))]
          simp
        have Y := NO.out w3 _ HNO.out BW3.out X3.out
        have HRH : Hid (AnsS (R A) (ok A) w (.returned (.tuple #[.agg #[.slice none 0 0], .bool false])) (w3.setCell ⟨w.heap.size, 0, none⟩ (.slice none 0 0))) := Y.1
        have y := Y.2
        have HD : Hid (decide (-1000 ≤ at' A k ∧ at' A k ≤ 1000) = false) := decide_eq_false hin
        clear hr hin Y
        generalize at' A k = x at *
        go_wp2_with fail
        refine (in_any x _ _ _).mono ?_
        rintro e w4 ⟨rfl, hw4⟩
        rw [hw4, HD.out]
        clear hw4
        go_wp2_with fail
        exact bodyPost_ret (v := .tuple #[.agg #[.slice none 0 0], .bool false]) (by simp [results, Try.results44, y, go_sem]) rfl HRH.out
    · obtain rfl : k = n := by omega
      have HIN : Hid (inR (-1000) 1000 A) := inR_of fun j z hj hz => by
        have := hr.out j (by have := HN.out; omega)
        rw [at_get hz] at this
        exact this
      have HRO : Hid (∀ j, -1000 ≤ at' A j ∧ at' A j ≤ 1000) := HIN.out.at (by omega) (by omega)
      have HOK : Hid (ok A = valR (prr A k)) := by show ok A = _; unfold ok; rw [decide_eq_true HIN.out, decide_eq_true (by have := HN.out; omega), ← HN.out.1]; rfl
      clear hr
      go_wp2_with fail
      go_loopw [4, 6] (fun s t wr => ∃ (j : Nat) (ca : Option Addr) (cc : Nat), j ≤ k ∧ s = .slice ca (prr A j).length cc ∧ t = .int .i64 (j : Int) ∧ Hid (Own wr w1.heap.size wr.heap.size (.slice ca (prr A j).length cc) (prr A j)) ∧ Hid (Below w1.heap.size w1 wr)) (fun _ t _ => k - (intOf t).toNat)
      case atStart => exact ⟨0, _, _, by omega, rfl, rfl, L0, B3⟩
      case round =>
        obtain ⟨j, ca, cc, hj, rfl, rfl, hl, hb⟩ := hrel
        obtain ⟨wo, hwo⟩ : ∃ x, x = wr := ⟨_, rfl⟩
        rw [← hwo] at hl hb ⊢
        clear hwo
        have XO : Hid (Bx wo w.heap.size (.slice none 0 0)) := XR.out.below hb.out LR.out
        have BO : Hid (Below w.heap.size w wo) := B1.out.trans (hb.out.mono B1.out.size)
        by_cases hjk : j < k
        · obtain ⟨b, off, rfl, hbw, hcell⟩ := HCW.out wo hb.out (by omega)
          have HCA : Hid (wo.cell? ⟨b, off + j, none⟩ = some (.int .i64 (at' A j))) := hcell j hjk
          have HBW : Hid (b < w.heap.size) := hbw
          have hr := HRO.out j
          have HNX : Hid (linp (prr A j) (at' A j) = prr A (j + 1)) := rfl
          have HSM : Hid (∀ i, ¬ (-1000000000 ≤ at' (prr A j) i ∧ at' (prr A j) i ≤ 1000000000) → ok A = false) := fun i hi => by
            rw [HOK.out]
            exact valR_no fun h => by
              have := prr_bd h j (by omega) i
              omega
          have hPl := prr_len A j
          obtain ⟨r, hre⟩ : ∃ r, r = at' A j := ⟨_, rfl⟩
          obtain ⟨P, hPe⟩ : ∃ P, P = prr A j := ⟨_, rfl⟩
          rw [← hre] at HCA hr HNX
          rw [← hPe] at HNX HSM hPl hl ⊢
          obtain ⟨_, hcc, hcel⟩ := Rd.use hl.out.rd
          obtain ⟨cb, coff, rfl, hcb, hcc2⟩ := hcel (by omega)
          have HPC : Hid (∀ (k : Nat) (z : Int), P[k]? = some z → wo.cell? ⟨cb, coff + k, none⟩ = some (.int .i64 z)) := hcc2
          have HCB : Hid (cb < wo.heap.size) := hcb
          obtain ⟨l, hl1⟩ : ∃ l, l = P.length := ⟨_, rfl⟩
          obtain ⟨l1, hl2⟩ : ∃ x, x = l + 1 := ⟨_, rfl⟩
          have HL : Hid (l = P.length ∧ l1 = l + 1 ∧ l = j + 1) := ⟨hl1, hl2, by omega⟩
          have q1 : (l : Int) + 1 = (l1 : Int) := by omega
          have hl9 : l ≤ 9 := by omega
          have hml : l1 ≤ maxLen := by unfold maxLen; omega
          have hr' : Hid (-1000 ≤ r ∧ r ≤ 1000) := hr
          rw [← hl1] at hcc ⊢
          clear hl hcell hbw hcel hcb hcc2 hPl hre hPe hl1 hl2 hr
          go_wp2_with (first
            | (refine wpList_make_full _ rfl (.tmp 36) (.tmp 36) 22 rfl wo.heap.size 2 i0 (.int .i64 0) 1 Try.underlying22 hi hz0 hz1 .i64 .i64 _ _ l1 rfl rfl rfl rfl (by rw [hz2]; have := HL.out; omega) hml (Nat.le_refl _) ?_; intro wc hown hgrow))
          rw [rep_map] at hown
          have o2 : Own wc wo.heap.size wc.heap.size (.slice (some ⟨wo.heap.size, 0, none⟩) l1 l1) (List.replicate l1 0) := by
            have h2 : wc.ownsRow wo.heap.size 2 1 (.slice (some ⟨wo.heap.size, 0, none⟩) l1 l1) (List.replicate l1 (0 : Int)).length ((List.replicate l1 (0 : Int)).map (Value.int .i64)) := by rw [List.length_replicate]; exact hown
            have := Own.of_row h2 (by have := HL.out; simp; omega) (Nat.le_refl wc.heap.size)
            first | exact this | (rw [List.length_replicate] at this; exact this)
          obtain ⟨g, hge⟩ : ∃ g, g = wo.heap.size := ⟨_, rfl⟩
          have HGE : Hid (g = wo.heap.size) := hge
          have O0 : Hid (Own wc wo.heap.size wc.heap.size (.slice (some ⟨g, 0, none⟩) l1 l1) (nxt P r 0)) := by
            show Own _ _ _ _ _
            rw [hge, ← nxt_zero, ← HL.out.1, ← HL.out.2.1]; exact o2
          have BC : Hid (Below wo.heap.size wo wc) := (Below.refl _ _).grown hgrow (Nat.le_refl _) (by intro k hk; cases hk)
          have HG2 : Hid (g < wc.heap.size) := by obtain ⟨_, _, _, _, _, h, _⟩ := O0.out.open; exact h
          rw [← hge]
          clear o2 hown hgrow hge q1
          go_wp2_with fail
          go_loopw [8] (fun t wr => ∃ i : Nat, i ≤ l ∧ t = .int .i64 (i : Int) ∧ Hid (∀ u, u < i → -1000000000 ≤ at' P u ∧ at' P u ≤ 1000000000) ∧ Hid (Own wr wo.heap.size wc.heap.size (.slice (some ⟨g, 0, none⟩) l1 l1) (nxt P r i)) ∧ Hid (Turned wo.heap.size wc.heap.size wc wr)) (fun t _ => l - (intOf t).toNat)
          case atStart => exact ⟨0, by omega, rfl, fun u hu => by omega, O0, Turned.refl _ _ _⟩
          case round =>
            obtain ⟨i, hil, rfl, hsm, ho, ht⟩ := hrel
            clear O0
            have hbr : Hid (Below wo.heap.size wo wr) := BC.out.trans ((ht.out.below (Nat.le_refl _) BC.out.size).mono (Nat.le_refl _))
            have BR : Hid (Below w1.heap.size w1 wr) := hb.out.trans (hbr.out.mono hb.out.size)
            by_cases hlt : i < l
            · have e1 : wr.cell? ⟨cb, coff + i, none⟩ = some (.int .i64 (at' P i)) := (hbr.out.cell (p := ⟨cb, coff + i, none⟩) HCB.out).trans (HPC.out i _ (at_some P i (by have := HL.out; omega)))
              by_cases hin : -1000000000 ≤ at' P i ∧ at' P i ≤ 1000000000
              case neg =>
                have HNO : Hid (ok A = false) := HSM.out i hin
                have XQ : Hid (Bx wr w.heap.size (.slice none 0 0)) := XR.out.below BR.out LR.out
                have Y := NO.out wr _ HNO.out (B1.out.trans (BR.out.mono B1.out.size)) XQ.out
                have HRH : Hid (AnsS (R A) (ok A) w (.returned (.tuple #[.agg #[.slice none 0 0], .bool false])) (wr.setCell ⟨w.heap.size, 0, none⟩ (.slice none 0 0))) := Y.1
                have y := Y.2
                have cQ := XQ.out.cell
                have fQ := XQ.out.free
                have HD : Hid (decide (-1000000000 ≤ at' P i ∧ at' P i ≤ 1000000000) = false) := decide_eq_false hin
                clear hsm hin Y ho ht
                generalize at' P i = x at *
                go_wp2_with fail
                refine (in_any x _ _ _).mono ?_
                rintro e w4 ⟨rfl, hw4⟩
                rw [hw4, HD.out]
                clear hw4
                go_wp2_with fail
                exact bodyPost_ret (v := .tuple #[.agg #[.slice none 0 0], .bool false]) (by simp [results, Try.results44, y, go_sem]) rfl HRH.out
              have HD : Hid (decide (-1000000000 ≤ at' P i ∧ at' P i ≤ 1000000000) = true) := decide_eq_true hin
              have HS2 : Hid (∀ u, u < i + 1 → -1000000000 ≤ at' P u ∧ at' P u ≤ 1000000000) := fun u hu => by
                by_cases e : u = i
                · rw [e]; exact hin
                · exact hsm.out u (by omega)
              have hb1 := nxt_bd (P := P) (r := r) (k := i) hr'.out hsm.out (i + 1) (by have := HL.out; omega)
              have hb2 := nxt_bd (P := P) (r := r) (k := i) hr'.out hsm.out i (by have := HL.out; omega)
              have hrp := mul_ab (A := 1000) (B := 1000000000) hr'.out hin
              have hst := nxt_step (P := P) (r := r) (k := i) (by have := HL.out; omega)
              have hne : at' ((nxt P r i).set (i + 1) (at' (nxt P r i) (i + 1) + at' P i)) i = at' (nxt P r i) i := set_at_ne _ (by omega)
              rw [hne] at hst
              have e2 : wr.cell? ⟨g, i + 1, none⟩ = some (.int .i64 (at' (nxt P r i) (i + 1))) := ho.out.cell (at_some _ _ (by rw [nxt_len]; have := HL.out; omega))
              have f2 : wr.frozen? ⟨g, i + 1, none⟩ = false := ho.out.free _
              have HG4 : Hid (wr.cell? ⟨g, i, none⟩ = some (.int .i64 (at' (nxt P r i) i))) := ho.out.cell (at_some _ _ (by rw [nxt_len]; have := HL.out; omega))
              have o1 : Own (wr.drew.setCell ⟨g, i + 1, none⟩ (.int .i64 (at' (nxt P r i) (i + 1) + at' P i))) wo.heap.size wc.heap.size (.slice (some ⟨g, 0, none⟩) l1 l1) ((nxt P r i).set (i + 1) (at' (nxt P r i) (i + 1) + at' P i)) := (show Own wr.drew _ _ _ _ from ho.out.stay fun _ _ _ _ => rfl).put (i + 1) _
              have t1 : Turned wo.heap.size wc.heap.size wc (wr.drew.setCell ⟨g, i + 1, none⟩ (.int .i64 (at' (nxt P r i) (i + 1) + at' P i))) := (show Turned wo.heap.size wc.heap.size wc wr.drew from ⟨ht.out.os, ht.out.tape, ht.out.output, ht.out.size, ht.out.block⟩).setCell (by have := HGE.out; omega) HG2.out _
              have O1 : Hid (Own (wr.drew.setCell ⟨g, i + 1, none⟩ (.int .i64 (at' (nxt P r i) (i + 1) + at' P i))) wo.heap.size wc.heap.size (.slice (some ⟨g, 0, none⟩) l1 l1) ((nxt P r i).set (i + 1) (at' (nxt P r i) (i + 1) + at' P i))) := o1
              have T1 : Hid (Turned wo.heap.size wc.heap.size wc (wr.drew.setCell ⟨g, i + 1, none⟩ (.int .i64 (at' (nxt P r i) (i + 1) + at' P i)))) := t1
              have e4 : (wr.drew.setCell ⟨g, i + 1, none⟩ (.int .i64 (at' (nxt P r i) (i + 1) + at' P i))).cell? ⟨g, i, none⟩ = some (.int .i64 (at' (nxt P r i) i)) := by
                have := o1.cell (at_some _ i (by rw [List.length_set, nxt_len]; have := HL.out; omega))
                rw [hne] at this
                exact this
              have f4 : (wr.drew.setCell ⟨g, i + 1, none⟩ (.int .i64 (at' (nxt P r i) (i + 1) + at' P i))).frozen? ⟨g, i, none⟩ = false := o1.free _
              have hb4 : Below wo.heap.size wo (wr.drew.setCell ⟨g, i + 1, none⟩ (.int .i64 (at' (nxt P r i) (i + 1) + at' P i))) := BC.out.trans ((t1.below (Nat.le_refl _) BC.out.size).mono (Nat.le_refl _))
              have e5 : (wr.drew.setCell ⟨g, i + 1, none⟩ (.int .i64 (at' (nxt P r i) (i + 1) + at' P i))).cell? ⟨cb, coff + i, none⟩ = some (.int .i64 (at' P i)) := (hb4.cell (p := ⟨cb, coff + i, none⟩) HCB.out).trans (HPC.out i _ (at_some P i (by have := HL.out; omega)))
              have e6 : (wr.drew.setCell ⟨g, i + 1, none⟩ (.int .i64 (at' (nxt P r i) (i + 1) + at' P i))).cell? ⟨b, off + j, none⟩ = some (.int .i64 r) := (hb4.cell (p := ⟨b, off + j, none⟩) (by have := HBW.out; have := BO.out.size; show b < _; omega)).trans HCA.out
              have o3 : Own ((wr.drew.setCell ⟨g, i + 1, none⟩ (.int .i64 (at' (nxt P r i) (i + 1) + at' P i))).drew.setCell ⟨g, i, none⟩ (.int .i64 (at' (nxt P r i) i - r * at' P i))) wo.heap.size wc.heap.size (.slice (some ⟨g, 0, none⟩) l1 l1) (nxt P r (i + 1)) := by
                rw [← hst]
                exact (show Own (World.drew _) _ _ _ _ from o1.stay fun _ _ _ _ => rfl).put i _
              have O3 : Hid (Own ((wr.drew.setCell ⟨g, i + 1, none⟩ (.int .i64 (at' (nxt P r i) (i + 1) + at' P i))).drew.setCell ⟨g, i, none⟩ (.int .i64 (at' (nxt P r i) i - r * at' P i))) wo.heap.size wc.heap.size (.slice (some ⟨g, 0, none⟩) l1 l1) (nxt P r (i + 1))) := o3
              have T3 : Hid (Turned wo.heap.size wc.heap.size wc ((wr.drew.setCell ⟨g, i + 1, none⟩ (.int .i64 (at' (nxt P r i) (i + 1) + at' P i))).drew.setCell ⟨g, i, none⟩ (.int .i64 (at' (nxt P r i) i - r * at' P i)))) := (show Turned wo.heap.size wc.heap.size wc (World.drew (wr.drew.setCell ⟨g, i + 1, none⟩ (.int .i64 (at' (nxt P r i) (i + 1) + at' P i)))) from ⟨t1.os, t1.tape, t1.output, t1.size, t1.block⟩).setCell (by have := HGE.out; omega) HG2.out _
              clear hst hne o1 t1 hb4 o3 ho ht hsm hin O1 T1
              obtain ⟨x, hx⟩ : ∃ x, x = at' P i := ⟨_, rfl⟩
              obtain ⟨y1, hy1⟩ : ∃ y, y = at' (nxt P r i) (i + 1) := ⟨_, rfl⟩
              obtain ⟨y2, hy2⟩ : ∃ y, y = at' (nxt P r i) i := ⟨_, rfl⟩
              rw [← hx, ← hy1, ← hy2] at O3 T3
              rw [← hx] at HD hrp e1
              rw [← hx, ← hy1] at e4 f4 e5 e6
              rw [← hy2] at e4 hb2
              rw [← hy1] at e2 hb1
              have hx9 : -1000000000 ≤ x ∧ x ≤ 1000000000 := of_decide_eq_true HD.out
              have v1 : IntKind.i64.wrap (y1 + x) = y1 + x := IntWalk.i64_in _ (by omega)
              have v1' : wrap64 (y1 + x) = y1 + x := IntWalk.wrap64_in _ (by omega)
              have v2 : IntKind.i64.wrap (r * x) = r * x := IntWalk.i64_in _ (by omega)
              have v2' : wrap64 (r * x) = r * x := IntWalk.wrap64_in _ (by omega)
              have v3 : IntKind.i64.wrap (y2 - r * x) = y2 - r * x := IntWalk.i64_in _ (by omega)
              have v3' : wrap64 (y2 - r * x) = y2 - r * x := IntWalk.wrap64_in _ (by omega)
              have g4 : (wr.setCell ⟨g, i + 1, none⟩ (.int .i64 (y1 + x))).cell? ⟨g, i, none⟩ = some (.int .i64 y2) := e4
              have g4' : wr.cell? ⟨g, i, none⟩ = some (.int .i64 y2) := by rw [hy2]; exact HG4.out
              have g5 : (wr.setCell ⟨g, i + 1, none⟩ (.int .i64 (y1 + x))).cell? ⟨cb, coff + i, none⟩ = some (.int .i64 x) := e5
              have g6 : (wr.setCell ⟨g, i + 1, none⟩ (.int .i64 (y1 + x))).cell? ⟨b, off + j, none⟩ = some (.int .i64 r) := e6
              have g7 : (wr.setCell ⟨g, i + 1, none⟩ (.int .i64 (y1 + x))).frozen? ⟨g, i, none⟩ = false := f4
              have s1 := store_int (b := y1 + x) (show wr.drew.cell? _ = _ from e2) (show wr.drew.frozen? _ = _ from f2)
              have s2 := store_int (b := y2 - r * x) (show (World.drew (wr.drew.setCell ⟨g, i + 1, none⟩ (.int .i64 (y1 + x)))).cell? _ = _ from e4) (show (World.drew (wr.drew.setCell ⟨g, i + 1, none⟩ (.int .i64 (y1 + x)))).frozen? _ = _ from f4)
              have d1 : IntKind.i64.wrap ((i : Int) + 1) = (i : Int) + 1 := IntWalk.i64_in _ (by omega)
              have d5 : (i : Int) + 1 < (l1 : Int) := by have := HL.out; omega
              have d6 : (i : Int) < (l1 : Int) := by have := HL.out; omega
              have d7 : (i : Int) < (l : Int) := by omega
              have d8 : (j : Int) < (k : Int) := by omega
              clear hx hy1 hy2 hb1 hb2 hrp hx9
              go_wp2_with fail
              refine (in_any x _ _ _).mono ?_
              rintro e w4 ⟨rfl, hw4⟩
              rw [hw4, HD.out]
              clear hw4
              go_wp2_with fail
              go_region
              go_wp2_with fail
              go_region
              go_wp2
              go_roundw
              case rel => exact ⟨i + 1, by omega, by go_num, HS2, O3, T3⟩
              case measure => simp [intOf]; omega
            · obtain rfl : i = l := by omega
              have HNL : Hid (Own wr w1.heap.size wr.heap.size (.slice (some ⟨g, 0, none⟩) l1 l1) (prr A (j + 1))) := by
                have h1 := ho.out.wide (lo' := w1.heap.size) (hi' := wr.heap.size) hb.out.size ht.out.size
                have h2 := HL.out.1
                have h3 := nxt_end P r
                rw [← h2] at h3
                rw [h3, HNX.out] at h1
                exact h1
              have HLL : Hid (l1 = (prr A (j + 1)).length) := by show l1 = _; rw [prr_len]; have := HL.out; omega
              rw [HLL.out] at HNL ⊢
              clear ho ht hsm
              go_wp2_with fail
              go_roundw
              case rel => exact ⟨j + 1, _, _, by omega, rfl, by go_num, HNL, BR⟩
              case measure => simp [intOf]; omega
        · obtain rfl : j = k := by omega
          have HRX : Hid (R A = rof (prr A j)) := by
            show R A = _
            unfold R rof
            rw [HOK.out, ← HN.out.1]
          obtain ⟨P, hPe⟩ : ∃ P, P = prr A j := ⟨_, rfl⟩
          rw [← hPe] at HRX HOK hl ⊢
          obtain ⟨l, hl1⟩ : ∃ l, l = P.length := ⟨_, rfl⟩
          rw [← hl1] at hl ⊢
          obtain ⟨w5, hw5⟩ : ∃ x, x = wo.alloc (.cells #[.slice ca l cc] 54) := ⟨_, rfl⟩
          have X5 : Hid (Bx w5 wo.heap.size (.slice ca l cc)) := by rw [hw5]; exact Bx.new _ _ _
          have B5 : Hid (Below wo.heap.size wo w5) := by rw [hw5]; exact new1 _ _
          have HL5 : Hid (Ls w5 (.slice ca l cc) P) := (hl.out.ls (Nat.le_refl _)).below B5.out
          have XR5 : Hid (Bx w5 w.heap.size (.slice none 0 0)) := XO.out.kept B5.out
          have BW5 : Hid (Below w.heap.size w w5) := BO.out.trans (B5.out.mono BO.out.size)
          have c5 := X5.out.cell
          have cR := XR5.out.cell
          have fR := XR5.out.free
          have O5 : Hid (Own w5 w1.heap.size w5.heap.size (.slice ca l cc) P) := (hl.out.kept B5.out).wide (Nat.le_refl _) B5.out.size
          clear hPe hl hl1
          go_wp2_with fail
          rw [← hw5]
          clear hw5
          refine (isR_any c5 HL5.out).mono ?_
          rintro e w6 ⟨rfl, hw6⟩
          rw [hw6]
          clear hw6
          cases hv : valR P with
          | false =>
            have Y := NO.out w5 _ (by rw [HOK.out]; exact hv) BW5.out XR5.out
            have HRH : Hid (AnsS (R A) (ok A) w (.returned (.tuple #[.agg #[.slice none 0 0], .bool false])) (w5.setCell ⟨w.heap.size, 0, none⟩ (.slice none 0 0))) := Y.1
            have y := Y.2
            clear Y hv
            go_wp2_with fail
            exact bodyPost_ret (v := .tuple #[.agg #[.slice none 0 0], .bool false]) (by simp [results, Try.results44, y, go_sem]) rfl HRH.out
          | true =>
            have y := (XR5.out.set (.slice ca l cc)).cell
            have HRH : Hid (AnsS (R A) (ok A) w (.returned (.tuple #[.agg #[.slice ca l cc], .bool true])) (w5.setCell ⟨w.heap.size, 0, none⟩ (.slice ca l cc))) := by
              show AnsS _ _ _ _ _
              rw [HRX.out, HOK.out, hv, show rof P = P from if_pos hv]
              exact ⟨_, rfl, ⟨_, rfl, (O5.out.setBelow LR.out _).rd.ls (by simp)⟩, BW5.out.setCell (Nat.le_refl _) _⟩
            clear hv
            go_wp2_with fail
            exact bodyPost_ret (v := .tuple #[.agg #[.slice ca l cc], .bool true]) (by simp [results, Try.results44, y, go_sem]) rfl HRH.out
end Go.Proofs.Ythldlhpdnocmcaa.fRealOfRoots
