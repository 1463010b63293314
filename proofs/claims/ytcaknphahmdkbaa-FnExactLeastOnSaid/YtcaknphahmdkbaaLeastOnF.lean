/- LeastOn: what both sides answer. -/
import Derived.Test.YtcaknphahmdkbaaFrA
import Derived.Test.YtcaknphahmdkbaaVal
import Derived.OwnWalk
import Derived.Laws.Cover2
namespace Go.Proofs.Ytcaknphahmdkbaa.fLeastOn
open Go.RowKit Go.Pl Go.Proofs.Ytcaknphahmdkbaa.wh
def OkR (low high : Int) : Prop := -50 ≤ low ∧ low ≤ high ∧ high ≤ 50
instance (a b : Int) : Decidable (OkR a b) := by unfold OkR; infer_instance
def rg (low high : Int) : Bool := decide (OkR low high)
def ok (A : List Int) (low high : Int) : Bool := valR A && rg low high
def vl (A : List Int) (x : Int) : Int := hor A x A.length
def z (A : List Int) (low high : Int) : Int := if ok A low high = true then best (vl A) low (high - low).toNat else 0
def fl (A : List Int) (low high : Int) : Nat := if ok A low high = true then Go.floatOfInt .f32 (vl A (z A low high)) else 0
theorem fl_no {A : List Int} {a b : Int} (h : ok A a b = false) : z A a b = 0 ∧ fl A a b = 0 := by constructor <;> simp [z, fl, h]
theorem z_yes {A : List Int} {a b : Int} (h : ok A a b = true) : z A a b = best (vl A) a (b - a).toNat := if_pos h
theorem fl_yes {A : List Int} {a b : Int} (h : ok A a b = true) : fl A a b = Go.floatOfInt .f32 (vl A (z A a b)) := if_pos h

set_option maxRecDepth 100000 in
set_option maxHeartbeats 1600000 in
theorem spec_any {A : List Int} {v : Value} {w : World} (h : Wh w v A) (a1 : Int) (_b1 : (Lit.int .i64 a1).wf = true) (a2 : Int) (_b2 : (Lit.int .i64 a2).wf = true) : Calls Try.prog 36 #[v, .int .i64 a1, .int .i64 a2] w fun e w' => e = .returned (.tuple #[.int .i64 (z A a1 a2), .float .f32 (fl A a1 a2), .bool (ok A a1 a2)]) ∧ Below w.heap.size w w' := by
  obtain ⟨s, rfl, h⟩ := h
  obtain ⟨ao, cap, rfl⟩ := id h.shape
  have HH : Hid (Ls w (.slice ao A.length cap) A) := h
  clear h
  obtain ⟨w1, hw⟩ : ∃ x, x = w.alloc (.cells #[.slice ao A.length cap] 27) := ⟨_, rfl⟩
  have X : Hid (Bx w1 w.heap.size (.slice ao A.length cap)) := by rw [hw]; exact Bx.new _ _ _
  have B1 : Hid (Below w.heap.size w w1) := by rw [hw]; exact new1 _ _
  have H1 : Hid (Ls w1 (.slice ao A.length cap) A) := HH.out.below B1.out
  have c := X.out.cell
  clear HH
  cases HV : valR A with
  | false =>
    have HN : Hid (ok A a1 a2 = false) := by show _ = _; simp [ok, HV]
    go_enter Try.func36, Try.ntmps36
    go_wp2_with fail
    rw [← hw]
    clear hw
    refine (isR_any c H1.out).mono ?_
    rintro e w2 ⟨rfl, hw2⟩
    rw [hw2, HV]
    clear hw2 HV
    have HZ : Hid (ok A a1 a2 = false) := HN.out
    have HZ2 := fl_no HZ.out
    go_wp2_with fail
    go_ret3
    exact ⟨by rw [HZ2.1, HZ2.2, HZ.out]; rfl, B1.out⟩
  | true =>
    have HVR : Hid (ValR A) := valR_iff.1 HV
    have HK : Hid (ok A a1 a2 = rg a1 a2) := by show _ = _; simp [ok, HV]
    by_cases h1 : -50 ≤ a1 ∧ a1 ≤ 50
    case neg =>
      have HN : Hid (ok A a1 a2 = false) := by show _ = _; rw [HK.out]; exact decide_eq_false fun h => h1 (by unfold OkR at h; omega)
      go_enter Try.func36, Try.ntmps36
      go_wp2_with fail
      rw [← hw]
      clear hw
      refine (isR_any c H1.out).mono ?_
      rintro e w2 ⟨rfl, hw2⟩
      rw [hw2, HV]
      clear hw2 HV
      go_wp2_with fail
      refine (in_any _ _ _ _).mono ?_
      rintro e w0 ⟨rfl, hw0⟩
      rw [hw0, decide_eq_false h1]
      clear hw0
      clear h1
      have HZ : Hid (ok A a1 a2 = false) := HN.out
      have HZ2 := fl_no HZ.out
      go_wp2_with fail
      go_ret3
      exact ⟨by rw [HZ2.1, HZ2.2, HZ.out]; rfl, B1.out⟩
    by_cases h2 : a1 ≤ a2 ∧ a2 ≤ 50
    case neg =>
      have HN : Hid (ok A a1 a2 = false) := by show _ = _; rw [HK.out]; exact decide_eq_false fun h => h2 (by unfold OkR at h; omega)
      go_enter Try.func36, Try.ntmps36
      go_wp2_with fail
      rw [← hw]
      clear hw
      refine (isR_any c H1.out).mono ?_
      rintro e w2 ⟨rfl, hw2⟩
      rw [hw2, HV]
      clear hw2 HV
      go_wp2_with fail
      refine (in_any _ _ _ _).mono ?_
      rintro e w0 ⟨rfl, hw0⟩
      rw [hw0, decide_eq_true h1]
      clear hw0
      clear h1
      go_wp2_with fail
      refine (in_any _ _ _ _).mono ?_
      rintro e w0 ⟨rfl, hw0⟩
      rw [hw0, decide_eq_false h2]
      clear hw0
      clear h2
      have HZ : Hid (ok A a1 a2 = false) := HN.out
      have HZ2 := fl_no HZ.out
      go_wp2_with fail
      go_ret3
      exact ⟨by rw [HZ2.1, HZ2.2, HZ.out]; rfl, B1.out⟩
    have HY : Hid (ok A a1 a2 = true) := by show _ = _; rw [HK.out]; exact decide_eq_true (by unfold OkR; omega)
    have hr : -50 ≤ a1 ∧ a1 ≤ a2 ∧ a2 ≤ 50 := by omega
    have HR : Hid (-50 ≤ a1 ∧ a1 ≤ a2 ∧ a2 ≤ 50) := hr
    obtain ⟨m, hm⟩ : ∃ m, m = (a2 - a1).toNat := ⟨_, rfl⟩
    have HZ : Hid (z A a1 a2 = best (vl A) a1 m) := by show _ = _; rw [z_yes HY.out, hm]
    have HF : Hid (fl A a1 a2 = Go.floatOfInt .f32 (vl A (best (vl A) a1 m))) := by show _ = _; rw [fl_yes HY.out, HZ.out]
    have hm2 : a1 + (m : Int) = a2 := by omega
    clear hm HK
    go_enter Try.func36, Try.ntmps36
    go_wp2_with fail
    rw [← hw]
    clear hw
    refine (isR_any c H1.out).mono ?_
    rintro e w2 ⟨rfl, hw2⟩
    rw [hw2, HV]
    clear hw2 HV
    go_wp2_with fail
    refine (in_any _ _ _ _).mono ?_
    rintro e w0 ⟨rfl, hw0⟩
    rw [hw0, decide_eq_true h1]
    clear hw0
    clear h1
    go_wp2_with fail
    refine (in_any _ _ _ _).mono ?_
    rintro e w0 ⟨rfl, hw0⟩
    rw [hw0, decide_eq_true h2]
    clear hw0
    clear h2
    go_wp2_with fail
    go_loop [9, 10] (fun p i => ∃ k : Nat, k ≤ m ∧ p = .int .i64 (best (vl A) a1 k) ∧ i = .int .i64 (a1 + 1 + (k : Int))) (fun _ i => (a2 + 1 - intOf i).toNat)
    case atStart => exact ⟨0, by omega, rfl, by first | (go_num; done) | (congr 1; omega) | (simp; omega)⟩
    case round =>
      obtain ⟨k, hk, rfl, rfl⟩ := hrel
      have hb := best_bd (vl A) a1 k
      by_cases hlt : k < m
      · have HS : Hid (best (vl A) a1 (k + 1) = if vl A (a1 + 1 + (k : Int)) < vl A (best (vl A) a1 k) then a1 + 1 + (k : Int) else best (vl A) a1 k) := rfl
        obtain ⟨p, hp⟩ : ∃ p, p = best (vl A) a1 k := ⟨_, rfl⟩
        rw [← hp] at hb HS ⊢
        have hsum : a1 + 1 + (k : Int) ≤ a2 := by omega
        clear hp
        go_wp2_with fail
        refine (sint_any c H1.out HVR.out _ (by omega)).mono ?_
        rintro e w0 ⟨rfl, hw0⟩
        rw [hw0]
        clear hw0
        go_wp2_with fail
        refine (sint_any c H1.out HVR.out _ (by have := HR.out; omega)).mono ?_
        rintro e w0 ⟨rfl, hw0⟩
        rw [hw0]
        clear hw0
        by_cases hlt2 : hor A (a1 + 1 + (k : Int)) A.length < hor A p A.length
        · replace HS : Hid (best (vl A) a1 (k + 1) = a1 + 1 + (k : Int)) := by show _ = _; rw [HS.out]; exact if_pos hlt2
          go_wp2
          go_round
          case rel => exact ⟨k + 1, by omega, by rw [HS.out], by first | (go_num; done) | (congr 1; omega) | (simp; omega)⟩
          case measure => simp [intOf]; omega
        · replace HS : Hid (best (vl A) a1 (k + 1) = p) := by show _ = _; rw [HS.out]; exact if_neg hlt2
          go_wp2
          go_round
          case rel => exact ⟨k + 1, by omega, by rw [HS.out], by first | (go_num; done) | (congr 1; omega) | (simp; omega)⟩
          case measure => simp [intOf]; omega
      · obtain rfl : k = m := by omega
        obtain ⟨p, hp⟩ : ∃ p, p = best (vl A) a1 k := ⟨_, rfl⟩
        rw [← hp] at hb HZ HF ⊢
        clear hp
        go_wp2_with fail
        refine (sint_any c H1.out HVR.out _ (by have := HR.out; omega)).mono ?_
        rintro e w0 ⟨rfl, hw0⟩
        rw [hw0]
        clear hw0
        go_wp2_with fail
        go_ret3
        exact ⟨by rw [HZ.out, HF.out, HY.out]; rfl, B1.out⟩
set_option maxRecDepth 100000 in
set_option maxHeartbeats 1600000 in
theorem impl_any {A : List Int} {v : Value} {w : World} (h : Wh w v A) (a1 : Int) (_b1 : (Lit.int .i64 a1).wf = true) (a2 : Int) (_b2 : (Lit.int .i64 a2).wf = true) : Calls Try.prog 37 #[v, .int .i64 a1, .int .i64 a2] w fun e w' => e = .returned (.tuple #[.int .i64 (z A a1 a2), .float .f32 (fl A a1 a2), .bool (ok A a1 a2)]) ∧ Below w.heap.size w w' := by
  obtain ⟨s, rfl, h⟩ := h
  obtain ⟨ao, cap, rfl⟩ := id h.shape
  have HH : Hid (Ls w (.slice ao A.length cap) A) := h
  clear h
  obtain ⟨w1, hw⟩ : ∃ x, x = w.alloc (.cells #[.slice ao A.length cap] 27) := ⟨_, rfl⟩
  have X : Hid (Bx w1 w.heap.size (.slice ao A.length cap)) := by rw [hw]; exact Bx.new _ _ _
  have B1 : Hid (Below w.heap.size w w1) := by rw [hw]; exact new1 _ _
  have H1 : Hid (Ls w1 (.slice ao A.length cap) A) := HH.out.below B1.out
  have c := X.out.cell
  clear HH
  cases HV : valR A with
  | false =>
    have HN : Hid (ok A a1 a2 = false) := by show _ = _; simp [ok, HV]
    go_enter Try.func37, Try.ntmps37
    go_wp2_with fail
    rw [← hw]
    clear hw
    refine (validR_any ⟨_, rfl, H1.out⟩).mono ?_
    rintro e w2 ⟨rfl, b⟩
    rw [HV]
    replace B1 : Hid (Below w.heap.size w w2) := B1.out.trans (b.mono B1.out.size)
    replace H1 : Hid (Ls w2 (.slice ao A.length cap) A) := H1.out.below b
    replace X : Hid (Bx w2 w.heap.size (.slice ao A.length cap)) := X.out.kept b
    replace c := X.out.cell
    clear b HV
    have HZ : Hid (ok A a1 a2 = false) := HN.out
    have HZ2 := fl_no HZ.out
    go_wp2_with fail
    go_ret3
    exact ⟨by rw [HZ2.1, HZ2.2, HZ.out]; rfl, B1.out⟩
  | true =>
    have HVR : Hid (ValR A) := valR_iff.1 HV
    have HK : Hid (ok A a1 a2 = rg a1 a2) := by show _ = _; simp [ok, HV]
    by_cases h1 : -50 ≤ a1 ∧ a1 ≤ a2
    case neg =>
      have HN : Hid (ok A a1 a2 = false) := by show _ = _; rw [HK.out]; exact decide_eq_false fun h => h1 (by unfold OkR at h; omega)
      go_enter Try.func37, Try.ntmps37
      go_wp2_with fail
      rw [← hw]
      clear hw
      refine (validR_any ⟨_, rfl, H1.out⟩).mono ?_
      rintro e w2 ⟨rfl, b⟩
      rw [HV]
      replace B1 : Hid (Below w.heap.size w w2) := B1.out.trans (b.mono B1.out.size)
      replace H1 : Hid (Ls w2 (.slice ao A.length cap) A) := H1.out.below b
      replace X : Hid (Bx w2 w.heap.size (.slice ao A.length cap)) := X.out.kept b
      replace c := X.out.cell
      clear b HV
      go_wp2_with fail
      refine (from_any _ _ _ _).mono ?_
      rintro e w0 ⟨rfl, hw0⟩
      rw [hw0, decide_eq_false h1]
      clear hw0
      clear h1
      have HZ : Hid (ok A a1 a2 = false) := HN.out
      have HZ2 := fl_no HZ.out
      go_wp2_with fail
      go_ret3
      exact ⟨by rw [HZ2.1, HZ2.2, HZ.out]; rfl, B1.out⟩
    by_cases h2 : a2 ≤ 50
    case neg =>
      have HN : Hid (ok A a1 a2 = false) := by show _ = _; rw [HK.out]; exact decide_eq_false fun h => h2 (by unfold OkR at h; omega)
      go_enter Try.func37, Try.ntmps37
      go_wp2_with fail
      rw [← hw]
      clear hw
      refine (validR_any ⟨_, rfl, H1.out⟩).mono ?_
      rintro e w2 ⟨rfl, b⟩
      rw [HV]
      replace B1 : Hid (Below w.heap.size w w2) := B1.out.trans (b.mono B1.out.size)
      replace H1 : Hid (Ls w2 (.slice ao A.length cap) A) := H1.out.below b
      replace X : Hid (Bx w2 w.heap.size (.slice ao A.length cap)) := X.out.kept b
      replace c := X.out.cell
      clear b HV
      go_wp2_with fail
      refine (from_any _ _ _ _).mono ?_
      rintro e w0 ⟨rfl, hw0⟩
      rw [hw0, decide_eq_true h1]
      clear hw0
      clear h1
      have HZ : Hid (ok A a1 a2 = false) := HN.out
      have HZ2 := fl_no HZ.out
      go_wp2_with fail
      go_ret3
      exact ⟨by rw [HZ2.1, HZ2.2, HZ.out]; rfl, B1.out⟩
    have HY : Hid (ok A a1 a2 = true) := by show _ = _; rw [HK.out]; exact decide_eq_true (by unfold OkR; omega)
    have hr : -50 ≤ a1 ∧ a1 ≤ a2 ∧ a2 ≤ 50 := by omega
    have HR : Hid (-50 ≤ a1 ∧ a1 ≤ a2 ∧ a2 ≤ 50) := hr
    obtain ⟨m, hm⟩ : ∃ m, m = (a2 - a1).toNat := ⟨_, rfl⟩
    have HZ : Hid (z A a1 a2 = best (vl A) a1 m) := by show _ = _; rw [z_yes HY.out, hm]
    have HF : Hid (fl A a1 a2 = Go.floatOfInt .f32 (vl A (best (vl A) a1 m))) := by show _ = _; rw [fl_yes HY.out, HZ.out]
    have hm2 : a1 + (m : Int) = a2 := by omega
    clear hm HK
    go_enter Try.func37, Try.ntmps37
    go_wp2_with fail
    rw [← hw]
    clear hw
    refine (validR_any ⟨_, rfl, H1.out⟩).mono ?_
    rintro e w2 ⟨rfl, b⟩
    rw [HV]
    replace B1 : Hid (Below w.heap.size w w2) := B1.out.trans (b.mono B1.out.size)
    replace H1 : Hid (Ls w2 (.slice ao A.length cap) A) := H1.out.below b
    replace X : Hid (Bx w2 w.heap.size (.slice ao A.length cap)) := X.out.kept b
    replace c := X.out.cell
    clear b HV
    go_wp2_with fail
    refine (from_any _ _ _ _).mono ?_
    rintro e w0 ⟨rfl, hw0⟩
    rw [hw0, decide_eq_true h1]
    clear hw0
    clear h1
    go_wp2_with fail
    refine (ivalue_any H1.out HVR.out _ (by have := HR.out; omega)).mono ?_
    rintro e w3 ⟨rfl, b⟩
    replace B1 : Hid (Below w.heap.size w w3) := B1.out.trans (b.mono B1.out.size)
    replace H1 : Hid (Ls w3 (.slice ao A.length cap) A) := H1.out.below b
    replace X : Hid (Bx w3 w.heap.size (.slice ao A.length cap)) := X.out.kept b
    replace c := X.out.cell
    clear b
    have HB0 : Hid (best (vl A) a1 0 = a1) := rfl
    go_wp2_with fail
    go_loopw [9, 10, 11] (fun p l i wr => ∃ k : Nat, k ≤ m ∧ p = .int .i64 (best (vl A) a1 k) ∧ l = .int .i64 (hor A (best (vl A) a1 k) A.length) ∧ i = .int .i64 (a1 + 1 + (k : Int)) ∧ Hid (Below w3.heap.size w3 wr)) (fun _ _ i _ => (a2 + 1 - intOf i).toNat)
    case atStart => exact ⟨0, by omega, rfl, rfl, by first | (go_num; done) | (congr 1; omega) | (simp; omega), Below.refl _ _⟩
    case round =>
      obtain ⟨k, hk, rfl, rfl, rfl, hbw⟩ := hrel
      have hb := best_bd (vl A) a1 k
      replace H1 : Hid (Ls wr (.slice ao A.length cap) A) := H1.out.below hbw.out
      replace X : Hid (Bx wr w.heap.size (.slice ao A.length cap)) := X.out.kept hbw.out
      replace c := X.out.cell
      replace B1 : Hid (Below w.heap.size w wr) := B1.out.trans (hbw.out.mono B1.out.size)
      have hsz : Hid (w3.heap.size ≤ wr.heap.size) := hbw.out.size
      by_cases hlt : k < m
      · have HS : Hid (best (vl A) a1 (k + 1) = if vl A (a1 + 1 + (k : Int)) < vl A (best (vl A) a1 k) then a1 + 1 + (k : Int) else best (vl A) a1 k) := rfl
        obtain ⟨p, hp⟩ : ∃ p, p = best (vl A) a1 k := ⟨_, rfl⟩
        rw [← hp] at hb HS ⊢
        have hsum : a1 + 1 + (k : Int) ≤ a2 := by omega
        clear hp
        go_wp2_with fail
        refine (ivalue_any H1.out HVR.out _ (by have := HR.out; omega)).mono ?_
        rintro e w4 ⟨rfl, b⟩
        have HBN : Hid (Below w3.heap.size w3 w4) := hbw.out.trans (b.mono hsz.out)
        clear b hbw
        by_cases hlt2 : hor A (a1 + 1 + (k : Int)) A.length < hor A p A.length
        · replace HS : Hid (best (vl A) a1 (k + 1) = a1 + 1 + (k : Int)) := by show _ = _; rw [HS.out]; exact if_pos hlt2
          go_wp2
          go_roundw
          case rel => exact ⟨k + 1, by omega, by rw [HS.out], by rw [HS.out], by first | (go_num; done) | (congr 1; omega) | (simp; omega), HBN⟩
          case measure => simp [intOf]; omega
        · replace HS : Hid (best (vl A) a1 (k + 1) = p) := by show _ = _; rw [HS.out]; exact if_neg hlt2
          go_wp2
          go_roundw
          case rel => exact ⟨k + 1, by omega, by rw [HS.out], by rw [HS.out], by first | (go_num; done) | (congr 1; omega) | (simp; omega), HBN⟩
          case measure => simp [intOf]; omega
      · obtain rfl : k = m := by omega
        obtain ⟨p, hp⟩ : ∃ p, p = best (vl A) a1 k := ⟨_, rfl⟩
        rw [← hp] at hb HZ HF ⊢
        clear hp
        go_wp2
        go_ret3
        exact ⟨by rw [HZ.out, HF.out, HY.out]; rfl, B1.out⟩
end Go.Proofs.Ytcaknphahmdkbaa.fLeastOn
