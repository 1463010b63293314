/- Lifting two factors, pure: what both sides add to the factors is one. No program is spoken of. -/
import Derived.Test.YtfhcfeafohcjpaaLiQ
namespace Go.Pl

theorem Im.neg_times {g : Nat → Int} {p : Int} (S : List Int) : Im g p (fun m => -1 * cv (at' S) g m) := ((Im.base g p).mul (at' S) (N := S.length) (fun _ hi => at_out hi)).scale (-1)
/-- the model's two, times the inverse of the last rest -/
theorem Ez.one {g h : Nat → Int} {p c : Int} {s t : List Int} (hp : isP p = true) (hc : 0 < c ∧ c < p) (hz : Ez g h p [c] s t) : Ez g h p [1] (om [inv c p] s p) (om [inv c p] t p) := by
  have hp2 := isP_le hp
  have hs := om_ov (A := [inv c p]) (B := s) (p := p) (by omega) (by simp) hz.1
  have ht := om_ov (A := [inv c p]) (B := t) (p := p) (by omega) (by simp) hz.2.1
  refine ⟨hs.1.1, ht.1.1, fun m => ?_⟩
  have key : ∀ (x : List Int) (b : Nat → Int), 1 ≤ x.length → p ∣ cv (at' (om [inv c p] x p)) b m - inv c p * cv (at' x) b m := by
    intro x b hx
    have h1 := cv_mod (a := at' (om [inv c p] x p)) (a' := cv (at' [inv c p]) (at' x)) (b := b) (fun j => om_dvd (by omega) (by simp) hx j) m
    rw [← cv_assoc, cv_single] at h1
    exact h1
  obtain ⟨x, hx⟩ := key s g hz.1
  obtain ⟨y, hy⟩ := key t h hz.2.1
  obtain ⟨z, hz'⟩ := hz.2.2 m
  obtain ⟨w, hw⟩ := inv_dvd hp hc
  rw [at_single] at hz'
  rw [at_single]
  refine ⟨x + y + inv c p * z + w * Go.Pl.one m, ?_⟩
  have : p * (x + y + inv c p * z + w * Go.Pl.one m) = p * x + p * y + inv c p * (p * z) + (p * w) * Go.Pl.one m := by grind
  rw [this, ← hx, ← hy, ← hz', ← hw]
  grind
theorem Ez.iv {g h : Nat → Int} {p : Int} {S T : List Int} (hz : Ez g h p [1] S T) : Iv g h p T ∧ Iv h g p S := by
  refine ⟨⟨hz.2.1, (Im.neg_times S).of fun m => ?_⟩, ⟨hz.1, (Im.neg_times T).of fun m => ?_⟩⟩
  · show p ∣ (cv (at' T) h m - Go.Pl.one m) - -1 * cv (at' S) g m
    obtain ⟨x, hx⟩ := hz.2.2 m
    rw [at_single] at hx
    exact ⟨x, by omega⟩
  · show p ∣ (cv (at' S) g m - Go.Pl.one m) - -1 * cv (at' T) h m
    obtain ⟨x, hx⟩ := hz.2.2 m
    rw [at_single] at hx
    exact ⟨x, by omega⟩
/-- two inverses: the rests of what is made with them are one -/
theorem iv_im {g h : Nat → Int} {p : Int} {J T E1 E2 X Y : List Int} (hJ : Iv g h p J) (hT : Iv g h p T) (hE : ∀ m, p ∣ at' E1 m - at' E2 m)
    (hX : ∀ m, p ∣ at' X m - cv (at' E1) (at' J) m) (hY : ∀ m, p ∣ at' Y m - cv (at' T) (at' E2) m) : Im g p (fun m => at' X m - at' Y m) := by
  have h1 := inv_same (N := max J.length T.length) (fun i hi => at_out (by omega)) (fun i hi => at_out (by omega)) hJ.2 hT.2
  have h2 := h1.mul (at' E1) (N := E1.length) (fun i hi => at_out hi)
  refine h2.of fun m => ?_
  show p ∣ (at' X m - at' Y m) - cv (at' E1) (fun m => at' J m - at' T m) m
  rw [cv_sub_r]
  obtain ⟨x, hx⟩ := hX m
  obtain ⟨y, hy⟩ := hY m
  obtain ⟨z, hz⟩ := cv_mod (a := at' E1) (a' := at' E2) (b := at' T) hE m
  rw [cv_comm (at' T)] at hy
  refine ⟨x - y + z, ?_⟩
  grind
theorem lift_u {G J T E1 E2 : List Int} {h : Nat → Int} {p : Int} (hp : isP p = true) (hG : Ov G p) (hl : at' G (G.length - 1) ≠ 0) (hJ : Iv (at' G) h p J) (hT : Iv (at' G) h p T) (hE : ∀ m, p ∣ at' E1 m - at' E2 m) (h1 : 1 ≤ E1.length) (h2 : 1 ≤ E2.length) :
    dr (om E1 J p) G p = dr (om T E2 p) G p := by
  have hp2 := isP_le hp
  exact rest_eq hp (om_ov (by omega) h1 hJ.1).1 (om_ov (by omega) hT.1 h2).1 hG hl (iv_im hJ hT hE (fun m => om_dvd (by omega) h1 hJ.1 m) (fun m => om_dvd (by omega) hT.1 h2 m))
/-- downwards: v g is small, and so is v -/
theorem short_of {V G : List Int} {p : Int} {ng nh : Nat} (hV : Ov V p) (hg1 : at' G ng = 1) (hg : ∀ j, ng < j → at' G j = 0) (hz : ∀ m, nh ≤ m → p ∣ cv (at' V) (at' G) (m + ng)) (hp : 0 < p) : ∀ (d m : Nat), V.length ≤ m + d → nh ≤ m → at' V m = 0
  | 0, m, h, _ => at_out h
  | d + 1, m, h, hm => by
    have hup : ∀ j, m < j → at' V j = 0 := fun j hj => short_of hV hg1 hg hz hp d j (by omega) (by omega)
    have e : cv (at' V) (at' G) (m + ng) = at' V m := by
      unfold cv
      rw [← sm_one m (at' V m) (m + ng + 1) (by omega)]
      refine sm_congr _ fun i hi => ?_
      by_cases h1 : i = m
      · rw [h1, if_pos rfl, show m + ng - m = ng by omega, hg1, Int.mul_one]
      · rw [if_neg h1]
        by_cases h2 : i < m
        · rw [hg _ (by omega), Int.mul_zero]
        · rw [hup i (by omega), Int.zero_mul]
    have h3 := hz m hm
    rw [e] at h3
    have h4 := hV.2.at (by omega) (by omega) m
    obtain ⟨c, hc⟩ := h3
    rw [hc] at h4 ⊢
    have : c = 0 := by
      by_cases h1 : 1 ≤ c
      · have : p * 1 ≤ p * c := Int.mul_le_mul_of_nonneg_left h1 (by omega)
        omega
      · by_cases h2 : c ≤ -1
        · have : p * c ≤ p * -1 := Int.mul_le_mul_of_nonneg_left h2 (by omega)
          omega
        · omega
    rw [this, Int.mul_zero]
/-- the model's other one: what is left of it when the quotient goes there -/
def vee (S T E G H : List Int) (p : Int) : List Int := smt (om S E p) (om (dq (om T E p) G p) H p) p
theorem lift_v {G H J S T E1 E2 : List Int} {p : Int} (hp : isP p = true) (hG : Ov G p) (hH : Ov H p) (hg1 : at' G (G.length - 1) = 1) (hh1 : at' H (H.length - 1) = 1) (hH2 : 2 ≤ H.length) (hG2 : 2 ≤ G.length)
    (hJ : Iv (at' H) (at' G) p J) (hz : Ez (at' G) (at' H) p [1] S T) (hE : ∀ m, p ∣ at' E1 m - at' E2 m) (h1 : 1 ≤ E1.length) (h2 : 1 ≤ E2.length) (hE2 : ∀ m, G.length - 1 + (H.length - 1) ≤ m → p ∣ at' E2 m) :
    dr (om E1 J p) H p = vee S T E2 G H p ∧ Ov (vee S T E2 G H p) p ∧ (vee S T E2 G H p).length ≤ H.length - 1 := by
  have hp2 := isP_le hp
  obtain ⟨oS, _⟩ := om_ov (A := S) (B := E2) (p := p) (by omega) hz.1 h2
  obtain ⟨oT, _⟩ := om_ov (A := T) (B := E2) (p := p) (by omega) hz.2.1 h2
  obtain ⟨q1, u1, _, _, u3⟩ := dv_ok hp oT hG (by rw [hg1]; decide)
  obtain ⟨oq, _⟩ := om_ov (A := dq (om T E2 p) G p) (B := H) (p := p) (by omega) q1.1 hH.1
  obtain ⟨ov, _⟩ := smt_ov (X := om S E2 p) (Y := om (dq (om T E2 p) G p) H p) (p := p) (by omega) oS.1
  have hv := fun m => smt_dvd (X := om S E2 p) (Y := om (dq (om T E2 p) G p) H p) (p := p) (by omega) oS.1 m
  have hq := fun m => om_dvd (A := dq (om T E2 p) G p) (B := H) (p := p) (by omega) q1.1 hH.1 m
  have hs := fun m => om_dvd (A := S) (B := E2) (p := p) (by omega) hz.1 h2 m
  have ht := fun m => om_dvd (A := T) (B := E2) (p := p) (by omega) hz.2.1 h2 m
  have hd := fun m => dq_dr (A := om T E2 p) (B := G) (p := p) (by omega) oT.1 hG.1 m
  have hu0 : ∀ m, G.length - 1 ≤ m → at' (dr (om T E2 p) G p) m = 0 := by
    intro m hm
    rcases u3 with u3 | u3
    · exact at_out (by omega)
    · rw [u3]; exact at_out (by simp; omega)
  -- v g and u h are e
  have hsum : ∀ m, p ∣ cv (at' (vee S T E2 G H p)) (at' G) m + cv (at' (dr (om T E2 p) G p)) (at' H) m - at' E2 m := by
    intro m
    have a1 := cv_mod (a := at' (vee S T E2 G H p)) (a' := fun j => cv (at' S) (at' E2) j - -1 * cv (at' (dq (om T E2 p) G p)) (at' H) j) (b := at' G) (fun j => by
      show p ∣ at' (vee S T E2 G H p) j - (cv (at' S) (at' E2) j - -1 * cv (at' (dq (om T E2 p) G p)) (at' H) j)
      obtain ⟨x, hx⟩ := hv j
      obtain ⟨y, hy⟩ := hq j
      obtain ⟨z, hz⟩ := hs j
      have hx' : at' (vee S T E2 G H p) j - (at' (om S E2 p) j + at' (om (dq (om T E2 p) G p) H p) j) = p * x := hx
      exact ⟨x + y + z, by grind⟩) m
    have a2 : cv (fun j => cv (at' S) (at' E2) j - -1 * cv (at' (dq (om T E2 p) G p)) (at' H) j) (at' G) m = cv (cv (at' S) (at' E2)) (at' G) m + cv (cv (at' (dq (om T E2 p) G p)) (at' H)) (at' G) m := by
      unfold cv
      rw [← sm_add]
      exact sm_congr _ fun i _ => by grind
    rw [a2] at a1
    have a3 := cv_mod (a := at' (dr (om T E2 p) G p)) (a' := fun j => at' (om T E2 p) j - cv (at' (dq (om T E2 p) G p)) (at' G) j) (b := at' H) (fun j => by
      show p ∣ at' (dr (om T E2 p) G p) j - (at' (om T E2 p) j - cv (at' (dq (om T E2 p) G p)) (at' G) j)
      obtain ⟨x, hx⟩ := hd j
      exact ⟨-x, by grind⟩) m
    have a4 : cv (fun j => at' (om T E2 p) j - cv (at' (dq (om T E2 p) G p)) (at' G) j) (at' H) m = cv (at' (om T E2 p)) (at' H) m - cv (cv (at' (dq (om T E2 p) G p)) (at' G)) (at' H) m := by
      rw [cv_comm, cv_sub_r, cv_comm (at' H), cv_comm (at' H)]
    rw [a4] at a3
    have a5 := cv_mod (a := at' (om T E2 p)) (a' := cv (at' T) (at' E2)) (b := at' H) ht m
    -- all in the order of e
    have swap : ∀ a b c : Nat → Int, cv (cv a b) c m = cv b (cv a c) m := by
      intro a b c
      rw [show cv a b = cv b a from funext fun j => cv_comm a b j, ← cv_assoc]
    have e1 := swap (at' S) (at' E2) (at' G)
    have e2 := swap (at' T) (at' E2) (at' H)
    have e3 : cv (cv (at' (dq (om T E2 p) G p)) (at' H)) (at' G) m = cv (cv (at' (dq (om T E2 p) G p)) (at' G)) (at' H) m := by
      rw [← cv_assoc, ← cv_assoc, show cv (at' H) (at' G) = cv (at' G) (at' H) from funext fun j => cv_comm _ _ j]
    have a6 := cv_mod_r (a := at' E2) (b := fun j => cv (at' S) (at' G) j + cv (at' T) (at' H) j) (b' := fun j => Go.Pl.one j) (fun j => by
      have := hz.2.2 j
      rw [at_single, Int.one_mul] at this
      exact this) m
    have e4 : cv (at' E2) (fun j => cv (at' S) (at' G) j + cv (at' T) (at' H) j) m = cv (at' E2) (cv (at' S) (at' G)) m + cv (at' E2) (cv (at' T) (at' H)) m := by
      unfold cv
      rw [← sm_add]
      exact sm_congr _ fun i _ => Int.mul_add _ _ _
    have e5 : cv (at' E2) (fun j => Go.Pl.one j) m = at' E2 m := cv_one (at' E2) m
    rw [e4, e5] at a6
    rw [e1] at a1
    rw [e2] at a5
    rw [e3] at a1
    obtain ⟨x, hx⟩ := a1
    obtain ⟨y, hy⟩ := a3
    obtain ⟨z, hz'⟩ := a5
    obtain ⟨w, hw⟩ := a6
    refine ⟨x + y + z + w, ?_⟩
    rw [Int.mul_add, Int.mul_add, Int.mul_add]
    omega
  -- so v is short
  have hsh : ∀ m, H.length - 1 ≤ m → at' (vee S T E2 G H p) m = 0 := by
    intro m hm
    refine short_of (ng := G.length - 1) (nh := H.length - 1) ov hg1 (fun j hj => at_out (by omega)) (fun k hk => ?_) (by omega) (vee S T E2 G H p).length m (Nat.le_add_left _ _) hm
    obtain ⟨x, hx⟩ := hsum (k + (G.length - 1))
    obtain ⟨y, hy⟩ := hE2 (k + (G.length - 1)) (by omega)
    have hz0 : cv (at' (dr (om T E2 p) G p)) (at' H) (k + (G.length - 1)) = 0 := by
      unfold cv
      refine sm_zero _ fun i hi => ?_
      by_cases h3 : G.length - 1 ≤ i
      · rw [hu0 i h3, Int.zero_mul]
      · rw [at_out (L := H) (by omega), Int.mul_zero]
    rw [hz0] at hx
    show p ∣ cv (at' (vee S T E2 G H p)) (at' G) (k + (G.length - 1))
    exact ⟨x + y, by rw [Int.mul_add]; omega⟩
  have hcl : (vee S T E2 G H p).length = 1 ∨ (vee S T E2 G H p)[(vee S T E2 G H p).length - 1]? ≠ some 0 := smt_clean _ _ _
  have hlen : (vee S T E2 G H p).length ≤ H.length - 1 := by
    by_cases hk : (vee S T E2 G H p).length ≤ H.length - 1
    · exact hk
    · exfalso
      rcases hcl with hc | hc
      · omega
      · apply hc
        rw [at_some _ _ (by have h9 : 1 ≤ (vee S T E2 G H p).length := ov.1; omega), hsh _ (by omega)]
  refine ⟨?_, ov, hlen⟩
  have hid : dr (vee S T E2 G H p) H p = vee S T E2 G H p := by
    rw [(dr_id (A := vee S T E2 G H p) (B := H) (by omega)).1]
    exact trim_id (ne_of_len ov.1) hcl
  rw [← hid]
  refine rest_eq hp (om_ov (by omega) h1 hJ.1).1 ov hH (by rw [hh1]; decide) ?_
  have b1 := iv_im (E1 := E1) (E2 := E2) hJ hz.iv.2 hE (X := om E1 J p) (Y := om S E2 p) (fun m => om_dvd (by omega) h1 hJ.1 m) hs
  have b2 := ((Im.base (at' H) p).mul (at' (dq (om T E2 p) G p)) (N := (dq (om T E2 p) G p).length) (fun _ hi => at_out hi)).scale (-1)
  refine (b1.add b2).of fun m => ?_
  show p ∣ (at' (om E1 J p) m - at' (vee S T E2 G H p) m) - ((at' (om E1 J p) m - at' (om S E2 p) m) + -1 * cv (at' (dq (om T E2 p) G p)) (at' H) m)
  obtain ⟨x, hx⟩ := hv m
  obtain ⟨y, hy⟩ := hq m
  have hx' : at' (vee S T E2 G H p) m - (at' (om S E2 p) m + at' (om (dq (om T E2 p) G p) H p) m) = p * x := hx
  exact ⟨-x - y, by rw [Int.mul_sub, Int.mul_neg]; omega⟩
end Go.Pl
