/- DiscriminantOf: what both sides answer. -/
import Derived.Test.YtbbdhbamooaloabResultantOfF
import Derived.Test.YtbbdhbamooaloabSlopeWholeF
namespace Go.Proofs.Ytbbdhbamooaloab.fDiscriminantOf
open Go.RowKit Go.Pl Go.Proofs.Ytbbdhbamooaloab.wh Go.Proofs.Ytbbdhbamooaloab.res Go.Proofs.Ytbbdhbamooaloab.fResultantOf

def SL (A : List Int) : List Int := fSlopeWhole.R A
def ok (A : List Int) : Bool := fSlopeWhole.ok A && (sml 2 A && sml 1 (SL A))
/-- the quotient of the resultant -/
def qt (A : List Int) : Int := Int.tdiv (rsl A (SL A)) (at' A (A.length - 1))
def z (A : List Int) : Int := if ok A = true then (if A.length = 5 then qt A else -qt A) else 0
theorem no {A : List Int} (h : ok A = false) : z A = 0 := if_neg (by rw [h]; decide)
theorem yes {A : List Int} (h : ok A = true) : z A = if A.length = 5 then qt A else -qt A := if_pos h
theorem sml_val {d : Nat} {A : List Int} (h : sml d A = true) : val A = true := by
  unfold sml at h
  rw [Bool.and_eq_true] at h
  exact h.1
theorem slope_val {A : List Int} (h : sml 1 (SL A) = true) : fSlopeWhole.ok A = true := by
  have hv := sml_val h
  unfold SL fSlopeWhole.R at hv
  unfold fSlopeWhole.ok
  cases h1 : val A with
  | false =>
    rw [if_neg (by rw [h1]; decide)] at hv
    exact absurd hv (by decide)
  | true =>
    rw [if_pos h1] at hv
    cases h2 : val (trim (slope1 A)) with
    | false =>
      rw [gv_no h2] at hv
      exact absurd hv (by decide)
    | true => rfl
/-- the checks of the program -/
theorem ok_i (A : List Int) : ok A = ((val A && decide ((2 : Int) ≤ (A.length : Int) - 1 ∧ (A.length : Int) - 1 ≤ 4)) && fResultantOf.ok A (SL A)) := by
  unfold ok fResultantOf.ok
  cases h : sml 1 (SL A) with
  | false => simp
  | true =>
    rw [slope_val h]
    unfold sml
    cases val A with
    | false => rfl
    | true =>
      by_cases h1 : 2 + 1 ≤ A.length ∧ A.length ≤ 5
      · rw [decide_eq_true h1, decide_eq_true (show (2 : Int) ≤ (A.length : Int) - 1 ∧ (A.length : Int) - 1 ≤ 4 by omega), decide_eq_true (show 1 + 1 ≤ A.length ∧ A.length ≤ 5 by omega)]
        simp
      · rw [decide_eq_false h1, decide_eq_false (show ¬ ((2 : Int) ≤ (A.length : Int) - 1 ∧ (A.length : Int) - 1 ≤ 4) by omega)]
        simp
theorem last_ne {A : List Int} (h : sml 2 A = true) : at' A (A.length - 1) ≠ 0 := fun e => by
  have hv := val_iff.1 (sml_val h)
  have hb := sml_bd h
  rcases hv.2.2.2 with h1 | h1
  · omega
  · exact h1 (by rw [at_some A _ (by omega), e])
theorem tdiv_bds {r l B : Int} (h : -B ≤ r ∧ r ≤ B) : -B ≤ Int.tdiv r l ∧ Int.tdiv r l ≤ B := by
  have := tdiv_le r l
  omega
theorem res_bd {A : List Int} (h : ok A = true) : (-429496729600000000 ≤ rsl A (SL A) ∧ rsl A (SL A) ≤ 429496729600000000) ∧ (2 + 1 ≤ A.length ∧ A.length ≤ 5 ∧ inR (-20) 20 A) ∧ 1 + 1 ≤ (SL A).length ∧ (SL A).length ≤ 5 ∧ inR (-20) 20 (SL A) := by
  unfold ok at h
  rw [Bool.and_eq_true, Bool.and_eq_true] at h
  have h1 := sml_bd h.2.1
  have h2 := sml_bd h.2.2
  exact ⟨rsl_bd h1.2.2 h2.2.2 (by unfold rwN; omega), h1, h2⟩

set_option maxRecDepth 100000 in
set_option maxHeartbeats 4000000 in
theorem spec_any {A : List Int} {v0 : Value} {w : World} (h0 : Wh w v0 A) : Calls Try.prog 17 #[v0] w fun e w' => e = .returned (.tuple #[.int .i64 (z A), .bool (ok A)]) ∧ Below w.heap.size w w' := by
  obtain ⟨s0, rfl, h0⟩ := h0
  obtain ⟨ao, ka, rfl⟩ := id h0.shape
  have H0 : Hid (Ls w (.slice ao A.length ka) A) := h0
  clear h0
  obtain ⟨w1, hw⟩ : ∃ x, x = w.alloc (.cells #[.slice ao A.length ka] 37) := ⟨_, rfl⟩
  have B1 : Hid (Below w.heap.size w w1) := by rw [hw]; exact new1 _ _
  have X0 : Hid (Bx w1 w.heap.size (.slice ao A.length ka)) := by rw [hw]; exact Bx.new _ _ _
  have c0 := X0.out.cell
  go_enter Try.func17, Try.ntmps17
  go_wp2_with fail
  rw [← hw]
  clear hw
  refine (fSlopeWhole.spec_any ⟨_, rfl, H0.out.below B1.out⟩).mono ?_
  rintro e w2 ⟨_, rfl, ⟨s, rfl, o⟩, b⟩
  obtain ⟨so, ks, rfl⟩ := o.shape
  have HS : Hid (Ls w2 (.slice so (SL A).length ks) (SL A)) := o
  replace B1 : Hid (Below w.heap.size w w2) := B1.out.trans (b.mono B1.out.size)
  replace X0 : Hid (Bx w2 w.heap.size (.slice ao A.length ka)) := X0.out.kept b
  clear b o c0
  have esl : fSlopeWhole.R A = SL A := rfl
  rw [esl]
  clear esl
  obtain ⟨w3, hw⟩ : ∃ x, x = w2.alloc (.cells #[.slice so (SL A).length ks] 37) := ⟨_, rfl⟩
  have b : Below w2.heap.size w2 w3 := by rw [hw]; exact new1 _ _
  have X1 : Hid (Bx w3 w2.heap.size (.slice so (SL A).length ks)) := by rw [hw]; exact Bx.new _ _ _
  replace B1 : Hid (Below w.heap.size w w3) := B1.out.trans (b.mono B1.out.size)
  replace X0 : Hid (Bx w3 w.heap.size (.slice ao A.length ka)) := X0.out.kept b
  replace HS : Hid (Ls w3 (.slice so (SL A).length ks) (SL A)) := HS.out.below b
  have c0 := X0.out.cell
  have c1 := X1.out.cell
  clear b
  cases hone : fSlopeWhole.ok A with
  | false =>
    have HZ : Hid (ok A = false) := by show _ = _; unfold ok; rw [hone]; rfl
    clear hone c0 c1
    go_wp2_with fail
    rw [← hw]
    go_ret2
    exact ⟨by rw [HZ.out, no HZ.out]; rfl, B1.out⟩
  | true =>
  have HO : Hid (fSlopeWhole.ok A = true) := hone
  clear hone
  go_wp2_with fail
  rw [← hw]
  clear hw
  refine (small_any (d := 2) c0 (H0.out.below B1.out) (by omega)).mono ?_
  rintro e w4 ⟨rfl, b⟩
  replace B1 : Hid (Below w.heap.size w w4) := B1.out.trans (b.mono B1.out.size)
  replace X0 : Hid (Bx w4 w.heap.size (.slice ao A.length ka)) := X0.out.kept b
  replace X1 : Hid (Bx w4 w2.heap.size (.slice so (SL A).length ks)) := X1.out.kept b
  replace HS : Hid (Ls w4 (.slice so (SL A).length ks) (SL A)) := HS.out.below b
  replace c0 := X0.out.cell
  replace c1 := X1.out.cell
  clear b
  cases hA : sml 2 A with
  | false =>
    have HZ : Hid (ok A = false) := by show _ = _; unfold ok; rw [hA, HO.out]; rfl
    clear hA
    go_wp2_with fail
    go_ret2
    exact ⟨by rw [HZ.out, no HZ.out]; rfl, B1.out⟩
  | true =>
  have SA : Hid (sml 2 A = true) := hA
  clear hA
  go_wp2_with fail
  refine (small_any (d := 1) c1 HS.out (by omega)).mono ?_
  rintro e w5 ⟨rfl, b⟩
  replace B1 : Hid (Below w.heap.size w w5) := B1.out.trans (b.mono B1.out.size)
  replace X0 : Hid (Bx w5 w.heap.size (.slice ao A.length ka)) := X0.out.kept b
  replace X1 : Hid (Bx w5 w2.heap.size (.slice so (SL A).length ks)) := X1.out.kept b
  replace HS : Hid (Ls w5 (.slice so (SL A).length ks) (SL A)) := HS.out.below b
  replace c0 := X0.out.cell
  replace c1 := X1.out.cell
  clear b
  cases hB : sml 1 (SL A) with
  | false =>
    have HZ : Hid (ok A = false) := by show _ = _; unfold ok; rw [hB, Bool.and_false, Bool.and_false]
    clear hB
    go_wp2_with fail
    go_ret2
    exact ⟨by rw [HZ.out, no HZ.out]; rfl, B1.out⟩
  | true =>
  have HZ : Hid (ok A = true) := by show _ = _; unfold ok; rw [SA.out, hB, HO.out]; rfl
  clear hB
  have hbd := res_bd HZ.out
  have hln := last_ne SA.out
  have HA : Hid (Ls w5 (.slice ao A.length ka) A) := H0.out.below B1.out
  have RES : Hid (∀ w, Ls w (.slice ao A.length ka) A → Ls w (.slice so (SL A).length ks) (SL A) → Calls Try.prog 43 #[.slice ao A.length ka, .slice so (SL A).length ks] w fun e w' => e = .returned (.int .i64 (rsl A (SL A))) ∧ Below w.heap.size w w') := fun w h1 h2 => sres_any h1 h2 (by have := hbd.2.1; exact ⟨by omega, this.2⟩) hbd.2.2
  obtain ⟨R, hR⟩ : ∃ R, rsl A (SL A) = R := ⟨_, rfl⟩
  obtain ⟨l, hlz⟩ : ∃ l, at' A (A.length - 1) = l := ⟨_, rfl⟩
  have HY : Hid (z A = if A.length = 5 then Int.tdiv R l else -Int.tdiv R l) := by show _ = _; rw [yes HZ.out]; unfold qt; rw [hR, hlz]
  have bR := hbd.1
  have h35 := hbd.2.1.1
  have h35' := hbd.2.1.2.1
  rw [hR] at RES bR
  have bq := tdiv_bds (l := l) bR
  obtain ⟨_, _, he, _, _, hq⟩ := HA.out
  simp only [Value.slice.injEq] at he
  obtain ⟨ba, fa, ha1, hba, hel⟩ := hq (by omega)
  obtain rfl : ao = some ⟨ba, fa, none⟩ := he.1.trans ha1
  have hlc := hel _ _ (at_some A (A.length - 1) (by omega))
  rw [hlz] at hlc hln
  have EL : Hid (∀ w', Below w5.heap.size w5 w' → w'.cell? ⟨ba, fa + (A.length - 1), none⟩ = some (.int .i64 l)) := fun w' b => (b.cell (p := ⟨ba, fa + (A.length - 1), none⟩) hba).trans hlc
  have wq : IntKind.i64.wrap (Int.tdiv R l) = Int.tdiv R l := IntWalk.i64_in _ (by omega)
  have bd : Hid (Below w5.heap.size w5 w5.drew) := (Below.refl _ _).drew
  have hl0 : (l == 0) = false := by rw [beq_eq_false_iff_ne]; exact hln
  clear hbd he hq ha1 hel hlc hR hlz H0
  obtain ⟨n, hn⟩ : ∃ n, A.length = n := ⟨_, rfl⟩
  rw [hn] at HA X0 c0 RES EL h35 h35' HY ⊢
  have hcs : n = 3 ∨ n = 4 ∨ n = 5 := by omega
  clear hn h35 h35'
  rcases hcs with rfl | rfl | rfl
  · have EL2 : Hid (∀ w', Below w5.heap.size w5 w' → w'.cell? ⟨ba, fa + 2, none⟩ = some (.int .i64 l)) := EL.out
    go_wp2_with fail
    go_region_held3 (fun w' => w'.cell? ⟨w.heap.size, 0, none⟩ = some (.slice (some ⟨ba, fa, none⟩) 3 ka) ∧ w'.cell? ⟨w2.heap.size, 0, none⟩ = some (.slice so (SL A).length ks) ∧ w'.cell? ⟨ba, fa + 2, none⟩ = some (.int .i64 l) ∧ Hid (Below w5.heap.size w5 w'))
      (first | exact ⟨(X0.out.kept bs.out).cell, (X1.out.kept bs.out).cell, EL2.out _ bs.out, bs⟩ | exact ⟨(X0.out.kept bd.out).cell, (X1.out.kept bd.out).cell, EL2.out _ bd.out, bd⟩)
      (first
        | (go_at_call 43; have hC := RES.out _ (HA.out.below bd.out) (HS.out.below bd.out); (with_reducible refine hC.mono ?_); clear hC; rintro e w6 ⟨rfl, b⟩; have bs : Hid (Below w5.heap.size w5 w6) := viaD bd.out b; clear b))
    have BE : Hid (Below w.heap.size w w6) := B1.out.trans (bs.out.mono B1.out.size)
    have HQ : Hid (z A = -Int.tdiv R l) := by show _ = _; have t := HY.out; simpa using t  -- if_neg (by decide)
    clear HY EL EL2 X0 X1 HA HS RES
    go_wp2_with fail
    go_ret2
    exact ⟨by rw [HZ.out, HQ.out]; rfl, BE.out⟩
  · have EL2 : Hid (∀ w', Below w5.heap.size w5 w' → w'.cell? ⟨ba, fa + 3, none⟩ = some (.int .i64 l)) := EL.out
    go_wp2_with fail
    go_region_held3 (fun w' => w'.cell? ⟨w.heap.size, 0, none⟩ = some (.slice (some ⟨ba, fa, none⟩) 4 ka) ∧ w'.cell? ⟨w2.heap.size, 0, none⟩ = some (.slice so (SL A).length ks) ∧ w'.cell? ⟨ba, fa + 3, none⟩ = some (.int .i64 l) ∧ Hid (Below w5.heap.size w5 w'))
      (first | exact ⟨(X0.out.kept bs.out).cell, (X1.out.kept bs.out).cell, EL2.out _ bs.out, bs⟩ | exact ⟨(X0.out.kept bd.out).cell, (X1.out.kept bd.out).cell, EL2.out _ bd.out, bd⟩)
      (first
        | (go_at_call 43; have hC := RES.out _ (HA.out.below bd.out) (HS.out.below bd.out); (with_reducible refine hC.mono ?_); clear hC; rintro e w6 ⟨rfl, b⟩; have bs : Hid (Below w5.heap.size w5 w6) := viaD bd.out b; clear b))
    have BE : Hid (Below w.heap.size w w6) := B1.out.trans (bs.out.mono B1.out.size)
    have HQ : Hid (z A = -Int.tdiv R l) := by show _ = _; have t := HY.out; simpa using t  -- if_neg (by decide)
    clear HY EL EL2 X0 X1 HA HS RES
    go_wp2_with fail
    go_ret2
    exact ⟨by rw [HZ.out, HQ.out]; rfl, BE.out⟩
  · have EL2 : Hid (∀ w', Below w5.heap.size w5 w' → w'.cell? ⟨ba, fa + 4, none⟩ = some (.int .i64 l)) := EL.out
    go_wp2_with fail
    go_region_held3 (fun w' => w'.cell? ⟨w.heap.size, 0, none⟩ = some (.slice (some ⟨ba, fa, none⟩) 5 ka) ∧ w'.cell? ⟨w2.heap.size, 0, none⟩ = some (.slice so (SL A).length ks) ∧ w'.cell? ⟨ba, fa + 4, none⟩ = some (.int .i64 l) ∧ Hid (Below w5.heap.size w5 w'))
      (first | exact ⟨(X0.out.kept bs.out).cell, (X1.out.kept bs.out).cell, EL2.out _ bs.out, bs⟩ | exact ⟨(X0.out.kept bd.out).cell, (X1.out.kept bd.out).cell, EL2.out _ bd.out, bd⟩)
      (first
        | (go_at_call 43; have hC := RES.out _ (HA.out.below bd.out) (HS.out.below bd.out); (with_reducible refine hC.mono ?_); clear hC; rintro e w6 ⟨rfl, b⟩; have bs : Hid (Below w5.heap.size w5 w6) := viaD bd.out b; clear b))
    have BE : Hid (Below w.heap.size w w6) := B1.out.trans (bs.out.mono B1.out.size)
    have HQ : Hid (z A = Int.tdiv R l) := by show _ = _; have t := HY.out; simpa using t  -- if_pos rfl
    clear HY EL EL2 X0 X1 HA HS RES
    go_wp2_with fail
    go_ret2
    exact ⟨by rw [HZ.out, HQ.out]; rfl, BE.out⟩

set_option maxRecDepth 100000 in
set_option maxHeartbeats 4000000 in
theorem impl_any {A : List Int} {v0 : Value} {w : World} (h0 : Wh w v0 A) : Calls Try.prog 18 #[v0] w fun e w' => e = .returned (.tuple #[.int .i64 (z A), .bool (ok A)]) ∧ Below w.heap.size w w' := by
  obtain ⟨s0, rfl, h0⟩ := h0
  obtain ⟨ao, ka, rfl⟩ := id h0.shape
  have H0 : Hid (Ls w (.slice ao A.length ka) A) := h0
  clear h0
  obtain ⟨w1, hw⟩ : ∃ x, x = w.alloc (.cells #[.slice ao A.length ka] 37) := ⟨_, rfl⟩
  have B1 : Hid (Below w.heap.size w w1) := by rw [hw]; exact new1 _ _
  have X0 : Hid (Bx w1 w.heap.size (.slice ao A.length ka)) := by rw [hw]; exact Bx.new _ _ _
  have c0 := X0.out.cell
  have OI : Hid (ok A = ((val A && decide ((2 : Int) ≤ (A.length : Int) - 1 ∧ (A.length : Int) - 1 ≤ 4)) && fResultantOf.ok A (SL A))) := ok_i A
  go_enter Try.func18, Try.ntmps18
  go_wp2_with fail
  rw [← hw]
  clear hw
  refine (hasDeg_any ⟨_, rfl, H0.out.below B1.out⟩ 2 4).mono ?_
  rintro e w2 ⟨rfl, b⟩
  replace B1 : Hid (Below w.heap.size w w2) := B1.out.trans (b.mono B1.out.size)
  replace X0 : Hid (Bx w2 w.heap.size (.slice ao A.length ka)) := X0.out.kept b
  replace c0 := X0.out.cell
  clear b
  cases hd : (val A && decide ((2 : Int) ≤ (A.length : Int) - 1 ∧ (A.length : Int) - 1 ≤ 4)) with
  | false =>
    have HZ : Hid (ok A = false) := by show _ = _; rw [OI.out, hd]; rfl
    clear hd OI
    go_wp2_with fail
    go_ret2
    exact ⟨by rw [HZ.out, no HZ.out]; rfl, B1.out⟩
  | true =>
  have HD : Hid ((val A && decide ((2 : Int) ≤ (A.length : Int) - 1 ∧ (A.length : Int) - 1 ≤ 4)) = true) := hd
  have OK : Hid (ok A = fResultantOf.ok A (SL A)) := by show _ = _; rw [OI.out, hd]; rfl
  clear hd OI
  go_wp2_with fail
  refine (fSlopeWhole.impl_any ⟨_, rfl, H0.out.below B1.out⟩).mono ?_
  rintro e w3 ⟨_, rfl, ⟨s, rfl, o⟩, b⟩
  obtain ⟨so, ks, rfl⟩ := o.shape
  have HS : Hid (Ls w3 (.slice so (SL A).length ks) (SL A)) := o.ls (Nat.le_refl _)
  replace B1 : Hid (Below w.heap.size w w3) := B1.out.trans (b.mono B1.out.size)
  replace X0 : Hid (Bx w3 w.heap.size (.slice ao A.length ka)) := X0.out.kept b
  clear b o c0
  have esl : fSlopeWhole.R A = SL A := rfl
  rw [esl]
  clear esl
  obtain ⟨one, hone⟩ : ∃ b, fSlopeWhole.ok A = b := ⟨_, rfl⟩
  rw [hone]
  clear hone
  obtain ⟨w4, hw⟩ : ∃ x, x = w3.alloc (.cells #[.slice so (SL A).length ks] 37) := ⟨_, rfl⟩
  have b : Below w3.heap.size w3 w4 := by rw [hw]; exact new1 _ _
  have X1 : Hid (Bx w4 w3.heap.size (.slice so (SL A).length ks)) := by rw [hw]; exact Bx.new _ _ _
  have d0 := (X0.out.alloc (.cells #[.slice so (SL A).length ks] 37)).cell
  replace B1 : Hid (Below w.heap.size w w4) := B1.out.trans (b.mono B1.out.size)
  replace X0 : Hid (Bx w4 w.heap.size (.slice ao A.length ka)) := X0.out.kept b
  replace HS : Hid (Ls w4 (.slice so (SL A).length ks) (SL A)) := HS.out.below b
  have c0 := X0.out.cell
  clear b
  go_wp2_with fail
  rw [← hw]
  clear hw d0
  refine (fResultantOf.impl_any ⟨_, rfl, H0.out.below B1.out⟩ ⟨_, rfl, HS.out⟩).mono ?_
  rintro e w5 ⟨rfl, b⟩
  replace B1 : Hid (Below w.heap.size w w5) := B1.out.trans (b.mono B1.out.size)
  replace X0 : Hid (Bx w5 w.heap.size (.slice ao A.length ka)) := X0.out.kept b
  replace c0 := X0.out.cell
  clear b HS X1
  rw [← OK.out]
  cases hk : ok A with
  | false =>
    have HZ : Hid (ok A = false) := hk
    clear hk
    go_wp2_with fail
    go_ret2
    exact ⟨by rw [HZ.out, no HZ.out]; rfl, B1.out⟩
  | true =>
  have HZ : Hid (ok A = true) := hk
  have HR : Hid (fResultantOf.z A (SL A) = rsl A (SL A)) := by show _ = _; exact fResultantOf.yes (by rw [← OK.out]; exact hk)
  clear hk
  rw [HR.out]
  have hbd := res_bd HZ.out
  have hs2 : sml 2 A = true := by have t := HZ.out; unfold ok at t; rw [Bool.and_eq_true, Bool.and_eq_true] at t; exact t.2.1
  have hln := last_ne hs2
  obtain ⟨R, hR⟩ : ∃ R, rsl A (SL A) = R := ⟨_, rfl⟩
  obtain ⟨l, hlz⟩ : ∃ l, at' A (A.length - 1) = l := ⟨_, rfl⟩
  have HY : Hid (z A = if A.length = 5 then Int.tdiv R l else -Int.tdiv R l) := by show _ = _; rw [yes HZ.out]; unfold qt; rw [hR, hlz]
  have bR := hbd.1
  have h35 := hbd.2.1.1
  have h35' := hbd.2.1.2.1
  rw [hR] at bR ⊢
  have bq := tdiv_bds (l := l) bR
  have bn := tdiv_bds (r := -R) (l := l) (B := 429496729600000000) (by omega)
  have HA : Hid (Ls w5 (.slice ao A.length ka) A) := H0.out.below B1.out
  have HL : Hid (A[A.length - 1]? = some l) := by show _ = _; rw [at_some A _ (by omega), hlz]
  rw [hlz] at hln
  have hl0 : (l == 0) = false := by rw [beq_eq_false_iff_ne]; exact hln
  have HNG : Hid (Int.tdiv (-R) l = -Int.tdiv R l) := Int.neg_tdiv R l
  have GD : Hid (Calls Try.prog 52 #[.slice ao A.length ka] w5 fun e w' => e = .returned (.int .i64 ((A.length : Int) - 1)) ∧ w' = w5) := deg_any HA.out
  have DG : Hid (Calls Try.prog 53 #[.slice ao A.length ka] w5 fun e w' => e = .returned (.int .i64 l) ∧ w' = w5) := last_any HA.out HL.out
  clear hbd hs2 hR hlz H0 HR OK HD HA HL
  obtain ⟨n, hn⟩ : ∃ n, A.length = n := ⟨_, rfl⟩
  rw [hn] at X0 c0 DG GD h35 h35' HY ⊢
  have hcs : n = 3 ∨ n = 4 ∨ n = 5 := by omega
  clear hn h35 h35'
  rcases hcs with rfl | rfl | rfl
  · go_wp2_with fail
    refine GD.out.mono ?_
    rintro e w6 ⟨rfl, hw6⟩
    rw [hw6]
    clear hw6 w6
    go_wp2_with fail
    refine DG.out.mono ?_
    rintro e w6 ⟨rfl, hw6⟩
    rw [hw6]
    clear hw6 w6
    have HQ : Hid (z A = -Int.tdiv R l) := by show _ = _; have t := HY.out; simpa using t  -- if_neg (by decide)
    clear HY HNG DG GD
    go_wp2_with fail
    go_ret2
    exact ⟨by rw [HZ.out, HQ.out]; rfl, B1.out⟩
  · go_wp2_with fail
    refine GD.out.mono ?_
    rintro e w6 ⟨rfl, hw6⟩
    rw [hw6]
    clear hw6 w6
    go_wp2_with fail
    refine DG.out.mono ?_
    rintro e w6 ⟨rfl, hw6⟩
    rw [hw6]
    clear hw6 w6
    have HQ : Hid (z A = -Int.tdiv R l) := by show _ = _; have t := HY.out; simpa using t  -- if_neg (by decide)
    clear HY HNG DG GD
    go_wp2_with fail
    go_ret2
    exact ⟨by rw [HZ.out, HQ.out]; rfl, B1.out⟩
  · go_wp2_with fail
    refine GD.out.mono ?_
    rintro e w6 ⟨rfl, hw6⟩
    rw [hw6]
    clear hw6 w6
    go_wp2_with fail
    refine DG.out.mono ?_
    rintro e w6 ⟨rfl, hw6⟩
    rw [hw6]
    clear hw6 w6
    have HQ : Hid (z A = Int.tdiv R l) := by show _ = _; have t := HY.out; simpa using t  -- if_pos rfl
    clear HY HNG DG GD
    go_wp2_with fail
    go_ret2
    exact ⟨by rw [HZ.out, HQ.out]; rfl, B1.out⟩
end Go.Proofs.Ytbbdhbamooaloab.fDiscriminantOf
