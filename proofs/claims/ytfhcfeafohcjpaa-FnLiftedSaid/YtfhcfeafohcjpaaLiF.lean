/- LiftPair: what is asked of what is lifted; the program's check. -/
import Derived.Test.YtfhcfeafohcjpaaLiL
import Derived.Test.YtfhcfeafohcjpaaOverPrimeF
import Derived.Test.YtfhcfeafohcjpaaMulOverF
import Derived.Test.YtfhcfeafohcjpaaCommonOverF
import Derived.Test.YtfhcfeafohcjpaaSameWholeF
namespace Go.Proofs.Ytfhcfeafohcjpaa.fLiftPair
open Go.RowKit Go.Pl Go.Proofs.Ytfhcfeafohcjpaa.wh

def chk (P G H : List Int) (p : Int) : Bool := over G p && over H p && val P && decide (P.length ≤ 9) && decide (2 ≤ G.length) && decide (2 ≤ H.length) && decide (at' P (P.length - 1) = 1) && decide (at' G (G.length - 1) = 1) && decide (at' H (H.length - 1) = 1) && decide (trim (mods (prod G H) p) = trim (mods P p)) && decide ((mon (cgo p (mu H) G H) p).length = 1)
def R (P G H : List Int) (p : Int) : List Int := if chk P G H p = true then weigh G (uU P G H p) 1 p else []
def R2 (P G H : List Int) (p : Int) : List Int := if chk P G H p = true then weigh H (vV P G H p) 1 p else []
def ok (P G H : List Int) (p : Int) : Bool := chk P G H p
theorem mon_len (L : List Int) (p : Int) : (mon L p).length = L.length := by
  unfold mon
  split
  · next h => rw [h]
  · exact scl_len _ _ _
theorem lk_of {P G H : List Int} {p : Int} (h : chk P G H p = true) : LK P G H p := by
  unfold chk at h
  simp only [Bool.and_eq_true, decide_eq_true_eq] at h
  obtain ⟨⟨⟨⟨⟨⟨⟨⟨⟨⟨h1, h2⟩, h3⟩, h4⟩, h5⟩, h6⟩, h7⟩, h8⟩, h9⟩, h10⟩, h11⟩ := h
  rw [mon_len] at h11
  exact ⟨(over_val h1).1, Gd.of_over h1, Gd.of_over h2, val_iff.1 h3, h5, h6, h8, h9, h7, h4, h10, h11⟩
theorem len (P G H : List Int) (p : Int) : (R P G H p).length ≤ 40 ∧ (R2 P G H p).length ≤ 40 := by
  unfold R R2
  by_cases h : chk P G H p = true
  · have k := lk_of h
    have hp2 := isP_le k.isp
    have e := k.ez
    have hl := k.len_mis
    obtain ⟨oT, _⟩ := om_ov (A := bzT G H p) (B := eps P G H p) (p := p) (by omega) e.2.1 hl.2.2.1
    have d := dv_ok k.isp oT k.og.1 (by rw [k.gl]; decide)
    have d1 : (uU P G H p).length ≤ 17 := by
      have := k.og.2.1
      rcases d.2.2.2.2 with h | h
      · show (dr (om (bzT G H p) (eps P G H p) p) G p).length ≤ 17; omega
      · show (dr (om (bzT G H p) (eps P G H p) p) G p).length ≤ 17; rw [h]; simp
    obtain ⟨c, hc, hcr⟩ := k.unit'
    obtain ⟨T, h1, h2, h3, h4⟩ := ivm_iv k.isp k.oh k.og hc hcr
    have d2 := (lift_v k.isp k.og.1 k.oh.1 k.gl k.hl k.h2 k.g2 h4 k.ez k.miss hl.1 hl.2.2.1 k.high).2.2
    have d3 : (vV P G H p).length ≤ 17 := by have := k.oh.2.1; show (vee (bzS G H p) (bzT G H p) (eps P G H p) G H p).length ≤ 17; omega
    rw [if_pos h, if_pos h, weigh_len, weigh_len]
    have := k.og.2.1
    have := k.oh.2.1
    omega
  · rw [if_neg h, if_neg h]; simp

theorem chk_iff {P G H : List Int} {p : Int} : chk P G H p = true ↔ (over G p = true ∧ over H p = true ∧ val P = true ∧ P.length ≤ 9 ∧ 2 ≤ G.length ∧ 2 ≤ H.length ∧ at' P (P.length - 1) = 1 ∧ at' G (G.length - 1) = 1 ∧ at' H (H.length - 1) = 1 ∧ trim (mods (prod G H) p) = trim (mods P p) ∧ (mon (cgo p (mu H) G H) p).length = 1) := by
  unfold chk
  simp only [Bool.and_eq_true, decide_eq_true_eq, and_assoc]
theorem chk_no {P G H : List Int} {p : Int} (h : ¬ (over G p = true ∧ over H p = true ∧ val P = true ∧ P.length ≤ 9 ∧ 2 ≤ G.length ∧ 2 ≤ H.length ∧ at' P (P.length - 1) = 1 ∧ at' G (G.length - 1) = 1 ∧ at' H (H.length - 1) = 1 ∧ trim (mods (prod G H) p) = trim (mods P p) ∧ (mon (cgo p (mu H) G H) p).length = 1)) : chk P G H p = false :=
  Bool.eq_false_iff.2 fun h' => h (chk_iff.1 h')
theorem chk_short {P G H : List Int} {p : Int} (h : P.length < 3) : chk P G H p = false :=
  Bool.eq_false_iff.2 fun h' => by
    have k := lk_of h'
    have := k.mods.2
    have := k.g2
    have := k.h2
    omega
theorem over_R {P : List Int} {p : Int} (hp : isP p = true) (hv : val P = true) (h9 : P.length ≤ 9) : fOverPrime.R P p = trim (mods P p) ∧ val (trim (mods P p)) = true := by
  have hp2 := isP_le hp
  have hV := val_iff.1 hv
  have hne : mods P p ≠ [] := mods_ne (ne_of_len hV.1)
  have hle := trim_le hne
  rw [mods_len] at hle
  have h1 : val (trim (mods P p)) = true := val_iff.2 (ov_val hp2 ⟨trim_pos _, trim_in (mods_range _ (by omega)) hne⟩ (by omega) (trim_clean _))
  unfold fOverPrime.R
  rw [if_pos ⟨hv, hp⟩, gv_trim, gv_yes h1]
  exact ⟨rfl, h1⟩
theorem prog_eq {P G H : List Int} {p : Int} (hg : over G p = true) (hh : over H p = true) (hv : val P = true) (h9 : P.length ≤ 9) (g2 : 2 ≤ G.length) (h2 : 2 ≤ H.length) (gl : at' G (G.length - 1) = 1) (hl : at' H (H.length - 1) = 1) :
    chk P G H p = (decide (at' P (P.length - 1) = 1) && (decide (fMulOver.R G H p = fOverPrime.R P p) && decide ((fCommonOver.R G H p).length = 1))) := by
  have hp := (over_val hg).1
  obtain ⟨o1, o2⟩ := over_R hp hv h9
  have c1 : fCommonOver.R G H p = mon (cgo p (mu H) G H) p := by
    unfold fCommonOver.R
    rw [if_pos ⟨hg, hh⟩, (fCommonOver.c_val hg hh).2]
    rfl
  have m1 : decide (fMulOver.R G H p = fOverPrime.R P p) = decide (trim (mods (prod G H) p) = trim (mods P p)) := by
    rw [o1]
    unfold fMulOver.R
    rw [if_pos ⟨hg, hh⟩, gv_trim]
    cases hv2 : val (trim (mods (prod G H) p)) with
    | true => rw [gv_yes hv2]
    | false =>
      rw [gv_no hv2]
      have e1 : ¬ ([] = trim (mods P p)) := fun e => by have := trim_pos (mods P p); rw [← e] at this; simp at this
      have e2 : ¬ (trim (mods (prod G H) p) = trim (mods P p)) := fun e => by rw [e, o2] at hv2; cases hv2
      rw [decide_eq_false e1, decide_eq_false e2]
  rw [c1, m1]
  unfold chk
  rw [hg, hh, hv, decide_eq_true h9, decide_eq_true g2, decide_eq_true h2, decide_eq_true gl, decide_eq_true hl]
  simp [Bool.and_assoc]
end Go.Proofs.Ytfhcfeafohcjpaa.fLiftPair
namespace Go.Proofs.Ytfhcfeafohcjpaa.wh
open Go.RowKit Go.Pl

theorem deg_any {v : Value} {L : List Int} {w : World} (h : Ls w v L) : Calls Try.prog 58 #[v] w fun e w' => e = .returned (.int .i64 ((L.length : Int) - 1)) ∧ w' = w := by
  obtain ⟨ao, cap, rfl, hn, hcap, hc⟩ := h
  clear hc
  generalize L.length = n at *
  have hw : IntKind.i64.wrap ((n : Int) - 1) = (n : Int) - 1 := IntWalk.i64_in _ (by omega)
  have hw' : wrap64 ((n : Int) - 1) = (n : Int) - 1 := IntWalk.wrap64_in _ (by omega)
  go_enter Try.func58, Try.ntmps58
  go_wp2
  go_ret
  exact ⟨rfl, rfl⟩
theorem hasDeg_any {v : Value} {L : List Int} {w : World} (h : Wh w v L) (lo hi : Int) : Calls Try.prog 45 #[v, .int .i64 lo, .int .i64 hi] w fun e w' => e = .returned (.bool (val L && decide (lo ≤ (L.length : Int) - 1 ∧ (L.length : Int) - 1 ≤ hi))) ∧ Below w.heap.size w w' := by
  obtain ⟨s, rfl, h⟩ := h
  obtain ⟨ao, cap, rfl⟩ := id h.shape
  have HH : Hid (Ls w (.slice ao L.length cap) L) := h
  clear h
  obtain ⟨w1, hw⟩ : ∃ x, x = w.alloc (.cells #[.slice ao L.length cap] 26) := ⟨_, rfl⟩
  have X : Hid (Bx w1 w.heap.size (.slice ao L.length cap)) := by rw [hw]; exact Bx.new _ _ _
  have B1 : Hid (Below w.heap.size w w1) := by rw [hw]; exact new1 _ _
  have H1 : Hid (Ls w1 (.slice ao L.length cap) L) := HH.out.below B1.out
  have c := X.out.cell
  clear HH
  go_enter Try.func45, Try.ntmps45
  go_wp2_with fail
  rw [← hw]
  clear hw
  refine (valid_any ⟨_, rfl, H1.out⟩).mono ?_
  rintro e w2 ⟨rfl, b⟩
  replace B1 : Hid (Below w.heap.size w w2) := B1.out.trans (b.mono B1.out.size)
  replace H1 : Hid (Ls w2 (.slice ao L.length cap) L) := H1.out.below b
  replace X : Hid (Bx w2 w.heap.size (.slice ao L.length cap)) := X.out.kept b
  replace c := X.out.cell
  clear b
  cases hv : val L with
  | false =>
    go_wp2_with fail
    go_ret
    exact ⟨by rw [hv]; rfl, B1.out⟩
  | true =>
    go_wp2_with fail
    refine (deg_any H1.out).mono ?_
    rintro e w3 ⟨rfl, hw3⟩
    rw [hw3]
    clear hw3
    go_wp2_with fail
    refine (from_any _ _ _ _).mono ?_
    rintro e w3 ⟨rfl, hw3⟩
    rw [hw3]
    clear hw3
    go_wp2_with fail
    go_ret
    exact ⟨by rw [hv]; simp [Bool.decide_and], B1.out⟩

end Go.Proofs.Ytfhcfeafohcjpaa.wh
