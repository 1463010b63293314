/- FnLifted, pure: what is lifted makes its whole for the square of the prime. No program is spoken of. -/
import Derived.Test.YtfhcfeafohcjpaaLiF
namespace Go.Pl

theorem cv_add_l (a b c : Nat → Int) (m : Nat) : cv (fun j => a j + b j) c m = cv a c m + cv b c m := by
  unfold cv
  rw [← sm_add]
  exact sm_congr _ fun i _ => Int.add_mul _ _ _
theorem cv_mul_l (x : Int) (a c : Nat → Int) (m : Nat) : cv (fun j => x * a j) c m = x * cv a c m := by
  unfold cv
  rw [← sm_mul]
  exact sm_congr _ fun i _ => Int.mul_assoc _ _ _
theorem cv_add_r (a b c : Nat → Int) (m : Nat) : cv c (fun j => a j + b j) m = cv c a m + cv c b m := by
  rw [cv_comm, cv_add_l, cv_comm a, cv_comm b]
theorem cv_mul_r (x : Int) (a c : Nat → Int) (m : Nat) : cv c (fun j => x * a j) m = x * cv c a m := by
  rw [cv_comm, cv_mul_l, cv_comm a]
theorem wg_at (a b : List Int) (x y : Int) (k : Nat) : at' (weigh a b x y) k = x * at' a k + y * at' b k := by
  by_cases h : k < max a.length b.length
  · exact at_get (weigh_get a b x y h)
  · rw [at_out (by rw [weigh_len]; omega), at_out (by omega), at_out (by omega)]; simp

/-- v g and u h are e, over the prime -/
theorem vg_uh {G H S T E2 : List Int} {p : Int} (hp : isP p = true) (hG : Ov G p) (hH : Ov H p) (hg1 : at' G (G.length - 1) = 1)
    (hz : Ez (at' G) (at' H) p [1] S T) (h2 : 1 ≤ E2.length) (m : Nat) :
    p ∣ cv (at' (vee S T E2 G H p)) (at' G) m + cv (at' (dr (om T E2 p) G p)) (at' H) m - at' E2 m := by
  have hp2 := isP_le hp
  obtain ⟨oS, _⟩ := om_ov (A := S) (B := E2) (p := p) (by omega) hz.1 h2
  obtain ⟨oT, _⟩ := om_ov (A := T) (B := E2) (p := p) (by omega) hz.2.1 h2
  obtain ⟨q1, u1, _, _, u3⟩ := dv_ok hp oT hG (by rw [hg1]; decide)
  have hv := fun m => smt_dvd (X := om S E2 p) (Y := om (dq (om T E2 p) G p) H p) (p := p) (by omega) oS.1 m
  have hq := fun m => om_dvd (A := dq (om T E2 p) G p) (B := H) (p := p) (by omega) q1.1 hH.1 m
  have hs := fun m => om_dvd (A := S) (B := E2) (p := p) (by omega) hz.1 h2 m
  have ht := fun m => om_dvd (A := T) (B := E2) (p := p) (by omega) hz.2.1 h2 m
  have hd := fun m => dq_dr (A := om T E2 p) (B := G) (p := p) (by omega) oT.1 hG.1 m
  have a1 := cv_mod (a := at' (vee S T E2 G H p)) (a' := fun j => cv (at' S) (at' E2) j - -1 * cv (at' (dq (om T E2 p) G p)) (at' H) j) (b := at' G) (fun j => by
    show p ∣ at' (vee S T E2 G H p) j - (cv (at' S) (at' E2) j - -1 * cv (at' (dq (om T E2 p) G p)) (at' H) j)
    obtain ⟨x, hx⟩ := hv j
    obtain ⟨y, hy⟩ := hq j
    obtain ⟨z, hz⟩ := hs j
    have hx' : at' (vee S T E2 G H p) j - (at' (om S E2 p) j + at' (om (dq (om T E2 p) G p) H p) j) = p * x := hx
    exact ⟨x + y + z, by grind⟩) m
  have a2 : cv (fun j => cv (at' S) (at' E2) j - -1 * cv (at' (dq (om T E2 p) G p)) (at' H) j) (at' G) m = cv (cv (at' S) (at' E2)) (at' G) m + cv (cv (at' (dq (om T E2 p) G p)) (at' H)) (at' G) m := by
    unfold cv
    rw [← sm_add]
    exact sm_congr _ fun i _ => by grind
  rw [a2] at a1
  have a3 := cv_mod (a := at' (dr (om T E2 p) G p)) (a' := fun j => at' (om T E2 p) j - cv (at' (dq (om T E2 p) G p)) (at' G) j) (b := at' H) (fun j => by
    show p ∣ at' (dr (om T E2 p) G p) j - (at' (om T E2 p) j - cv (at' (dq (om T E2 p) G p)) (at' G) j)
    obtain ⟨x, hx⟩ := hd j
    exact ⟨-x, by grind⟩) m
  have a4 : cv (fun j => at' (om T E2 p) j - cv (at' (dq (om T E2 p) G p)) (at' G) j) (at' H) m = cv (at' (om T E2 p)) (at' H) m - cv (cv (at' (dq (om T E2 p) G p)) (at' G)) (at' H) m := by
    rw [cv_comm, cv_sub_r, cv_comm (at' H), cv_comm (at' H)]
  rw [a4] at a3
  have a5 := cv_mod (a := at' (om T E2 p)) (a' := cv (at' T) (at' E2)) (b := at' H) ht m
  have swap : ∀ a b c : Nat → Int, cv (cv a b) c m = cv b (cv a c) m := by
    intro a b c
    rw [show cv a b = cv b a from funext fun j => cv_comm a b j, ← cv_assoc]
  have e1 := swap (at' S) (at' E2) (at' G)
  have e2 := swap (at' T) (at' E2) (at' H)
  have e3 : cv (cv (at' (dq (om T E2 p) G p)) (at' H)) (at' G) m = cv (cv (at' (dq (om T E2 p) G p)) (at' G)) (at' H) m := by
    rw [← cv_assoc, ← cv_assoc, show cv (at' H) (at' G) = cv (at' G) (at' H) from funext fun j => cv_comm _ _ j]
  have a6 := cv_mod_r (a := at' E2) (b := fun j => cv (at' S) (at' G) j + cv (at' T) (at' H) j) (b' := fun j => Go.Pl.one j) (fun j => by
    have := hz.2.2 j
    rw [at_single, Int.one_mul] at this
    exact this) m
  have e4 : cv (at' E2) (fun j => cv (at' S) (at' G) j + cv (at' T) (at' H) j) m = cv (at' E2) (cv (at' S) (at' G)) m + cv (at' E2) (cv (at' T) (at' H)) m := cv_add_r _ _ _ _
  have e5 : cv (at' E2) (fun j => Go.Pl.one j) m = at' E2 m := cv_one (at' E2) m
  rw [e4, e5] at a6
  rw [e1] at a1
  rw [e2] at a5
  rw [e3] at a1
  obtain ⟨x, hx⟩ := a1
  obtain ⟨y, hy⟩ := a3
  obtain ⟨z, hz'⟩ := a5
  obtain ⟨w, hw⟩ := a6
  refine ⟨x + y + z + w, ?_⟩
  rw [Int.mul_add, Int.mul_add, Int.mul_add]
  omega

/-- what both lifted ones are like: one of them -/
def Lf (U G : List Int) (p : Int) : Prop := U.length = G.length ∧ ∀ i, i < G.length → 0 ≤ at' U i ∧ at' U i < p * p ∧ Int.tmod (at' U i) p = at' G i
theorem lf_of {G D : List Int} {p : Int} (hp : 2 ≤ p) (hG : Ov G p) (hD : Ov D p) (hl : D.length ≤ G.length) : Lf (weigh G D 1 p) G p := by
  refine ⟨by rw [weigh_len]; omega, fun i hi => ?_⟩
  rw [wg_at, Int.one_mul]
  have h1 := hG.2.at (by omega) (by omega) i
  have h2 := hD.2.at (by omega) (by omega) i
  have h3 : p * at' D i ≤ p * (p - 1) := Int.mul_le_mul_of_nonneg_left (by omega) (by omega)
  have h4 : 0 ≤ p * at' D i := Int.mul_nonneg (by omega) (by omega)
  rw [Int.mul_sub, Int.mul_one] at h3
  refine ⟨by omega, by omega, ?_⟩
  rw [Int.tmod_eq_emod_of_nonneg (by omega), Int.add_mul_emod_self_left, Int.emod_eq_of_lt (by omega) (by omega)]
/-- what is lifted -/
theorem lifted_ok {P G H : List Int} {p : Int} (k : LK P G H p) :
    Lf (weigh G (uU P G H p) 1 p) G p ∧ Lf (weigh H (vV P G H p) 1 p) H p ∧ at' (weigh G (uU P G H p) 1 p) (G.length - 1) = 1 ∧ at' (weigh H (vV P G H p) 1 p) (H.length - 1) = 1 ∧
    ∀ m, p * p ∣ at' (prod (weigh G (uU P G H p) 1 p) (weigh H (vV P G H p) 1 p)) m - at' P m := by
  have hp2 := isP_le k.isp
  have e := k.ez
  have hl := k.len_mis
  have g2 := k.g2
  have h2 := k.h2
  obtain ⟨oT, _⟩ := om_ov (A := bzT G H p) (B := eps P G H p) (p := p) (by omega) e.2.1 hl.2.2.1
  obtain ⟨_, ou, _, _, u3⟩ := dv_ok k.isp oT k.og.1 (by rw [k.gl]; decide)
  have ul : (uU P G H p).length ≤ G.length - 1 := by
    rcases u3 with h | h
    · show (dr (om (bzT G H p) (eps P G H p) p) G p).length ≤ G.length - 1; omega
    · show (dr (om (bzT G H p) (eps P G H p) p) G p).length ≤ G.length - 1; rw [h]; simp; omega
  obtain ⟨c, hc, hcr⟩ := k.unit'
  obtain ⟨T, h1, h2', h3, h4⟩ := ivm_iv k.isp k.oh k.og hc hcr
  obtain ⟨_, ov, vl⟩ := lift_v k.isp k.og.1 k.oh.1 k.gl k.hl k.h2 k.g2 h4 k.ez k.miss hl.1 hl.2.2.1 k.high
  have ou' : Ov (uU P G H p) p := ou
  have ov' : Ov (vV P G H p) p := ov
  have vl' : (vV P G H p).length ≤ H.length - 1 := vl
  refine ⟨lf_of (by omega) k.og.1 ou' (by omega), lf_of (by omega) k.oh.1 ov' (by omega), ?_, ?_, fun m => ?_⟩
  · rw [wg_at, k.gl, at_out (by omega)]; simp
  · rw [wg_at, k.hl, at_out (by omega)]; simp
  rw [prod_cv (by rw [weigh_len]; omega)]
  have hs := vg_uh k.isp k.og.1 k.oh.1 k.gl k.ez hl.2.2.1 m
  have hu : at' (weigh G (uU P G H p) 1 p) = fun j => at' G j + p * at' (uU P G H p) j := funext fun j => by rw [wg_at, Int.one_mul]
  have hv : at' (weigh H (vV P G H p) 1 p) = fun j => at' H j + p * at' (vV P G H p) j := funext fun j => by rw [wg_at, Int.one_mul]
  rw [hu, hv, cv_add_l, cv_add_r, cv_add_r, cv_mul_r, cv_mul_l, cv_mul_l, cv_mul_r]
  obtain ⟨q, hq⟩ := k.dvd m
  rw [prod_cv (by omega)] at hq
  obtain ⟨x, hx⟩ := hs
  obtain ⟨y, hy⟩ := k.miss m
  have hmis : p * at' (mis P G H p) m = at' P m - cv (at' G) (at' H) m := by
    by_cases hm : m < (prod G H).length
    · unfold mis
      rw [range_at _ _ _ hm, prod_cv (by omega), hq, tdiv_mul (by omega)]
    · rw [at_out (by simp [mis]; omega)]
      have hPl := k.mods.2
      rw [prod_len] at hm
      rw [at_out (L := P) (by omega)]
      have := at_out (L := prod G H) (k := m) (by rw [prod_len]; omega)
      rw [prod_cv (by omega)] at this
      rw [this]; simp
  have hx' : cv (at' (vV P G H p)) (at' G) m + cv (at' (uU P G H p)) (at' H) m - at' (eps P G H p) m = p * x := hx
  rw [cv_comm (at' G) (at' (vV P G H p))]
  refine ⟨x - y + cv (at' (uU P G H p)) (at' (vV P G H p)) m, ?_⟩
  grind
end Go.Pl
