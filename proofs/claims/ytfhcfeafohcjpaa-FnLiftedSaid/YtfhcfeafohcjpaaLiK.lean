/- Lifting two factors, pure: when it is done, and that both sides then add the same. No program is spoken of. -/
import Derived.Test.YtfhcfeafohcjpaaLiU
namespace Go.Pl

theorem Im.under {b d : Nat → Int} {p : Int} {D : Nat → Int} (h : Im b p D) (hb : Im d p b) : Im d p D := by
  obtain ⟨n, q, hq⟩ := h
  exact (hb.smul q n).of hq
theorem at_zero1 (m : Nat) : at' [0] m = 0 := by rw [at_single, Int.zero_mul]
theorem cgo_im {p : Int} (hp : isP p = true) : ∀ (f : Nat) (A B : List Int), mu B ≤ f → Gd A p → Gd B p → Im (at' (cgo p f A B)) p (at' A) ∧ Im (at' (cgo p f A B)) p (at' B)
  | 0, A, B, h, _, hB => by
    have h0 : B = [0] := Classical.byContradiction fun h0 => by rw [mu_pos h0] at h; have := hB.1.1; omega
    rw [h0, cgo_stop]
    exact ⟨Im.base _ _, Im.zero fun m => by rw [at_zero1]; exact Int.dvd_zero p⟩
  | f + 1, A, B, h, hA, hB => by
    have hp2 := isP_le hp
    by_cases h0 : B = [0]
    · rw [h0, cgo_stop]
      exact ⟨Im.base _ _, Im.zero fun m => by rw [at_zero1]; exact Int.dvd_zero p⟩
    · have hm := mu_step hp hA.1 hB.1 hB.2.2 h0
      rw [cgo_step h0]
      obtain ⟨i1, i2⟩ := cgo_im hp f B (dr A B p) (by omega) hB (Gd.rest hp hA hB h0)
      refine ⟨?_, i1⟩
      have h1 := (dr_im (A := A) (B := B) (p := p) (by omega) hA.1.1 hB.1.1).under i1
      refine (h1.add i2).of fun m => ?_
      show p ∣ at' A m - ((at' A m - at' (dr A B p) m) + at' (dr A B p) m)
      rw [show at' A m - ((at' A m - at' (dr A B p) m) + at' (dr A B p) m) = 0 by omega]
      exact Int.dvd_zero p
theorem cgo_ne {p : Int} : ∀ (f : Nat) (A B : List Int), A ≠ [0] → cgo p f A B ≠ [0]
  | 0, A, B, h => h
  | f + 1, A, B, h => by
    by_cases h0 : B = [0]
    · rw [h0, cgo_stop]; exact h
    · rw [cgo_step h0]; exact cgo_ne f _ _ h0
theorem len1 {L : List Int} (h : L.length = 1) : ∃ c, L = [c] := by
  match L, h with
  | [c], _ => exact ⟨c, rfl⟩
theorem single_in {c p : Int} (h : Gd [c] p) (h0 : [c] ≠ [0]) : 0 < c ∧ c < p := by
  have h1 := h.1.2 c (by simp)
  have : c ≠ 0 := fun e => h0 (by rw [e])
  omega
theorem ov_c {c p : Int} (h : 0 ≤ c ∧ c < p) : Ov [c] p := ⟨by simp, fun z hz => by rw [List.mem_singleton] at hz; omega⟩
theorem tk_start {G H : List Int} {p : Int} (hp : isP p = true) (hG : Gd G p) (hH : Gd H p) : Tk p 20 G [0] H [1] ∧ Tk p 20 G [1] H [0] := by
  have hp2 := isP_le hp
  have h1 := hG.2.1
  have h2 := hH.2.1
  have o0 := ov_c (c := 0) (p := p) (by omega)
  have o1 := ov_c (c := 1) (p := p) (by omega)
  exact ⟨⟨hG, hH, o0, o1, by simp; omega, by simp; omega, by simp; omega⟩, ⟨hG, hH, o1, o0, by simp; omega, by simp; omega, by simp; omega⟩⟩
theorem ez_start {G H : List Int} {p : Int} : Ez (at' G) (at' H) p G [1] [0] ∧ Ez (at' G) (at' H) p H [0] [1] := by
  refine ⟨⟨by simp, by simp, fun m => ?_⟩, ⟨by simp, by simp, fun m => ?_⟩⟩
  · rw [cv_single, cv_single, show 1 * at' G m + 0 * at' H m - at' G m = 0 by omega]; exact Int.dvd_zero p
  · rw [cv_single, cv_single, show 0 * at' G m + 1 * at' H m - at' H m = 0 by omega]; exact Int.dvd_zero p
theorem kv_start {G H : List Int} {p : Int} (hG : 1 ≤ G.length) (hH : 1 ≤ H.length) : Kv (at' G) (at' H) p G [0] ∧ Kv (at' G) (at' H) p H [1] := by
  refine ⟨⟨hG, by simp, ((Im.base (at' G) p).scale (-1)).of fun m => ?_⟩, ⟨hH, by simp, Im.zero fun m => ?_⟩⟩
  · rw [cv_single, show (0 * at' H m - at' G m) - -1 * at' G m = 0 by omega]; exact Int.dvd_zero p
  · rw [cv_single, show 1 * at' H m - at' H m = 0 by omega]; exact Int.dvd_zero p
theorem bez_start {G H : List Int} {p : Int} (hp : isP p = true) (hG : Gd G p) (hH : Gd H p) :
    (bez p (mu H) G H [1] [0] [0] [1]).1 = cgo p (mu H) G H ∧ Ov (bez p (mu H) G H [1] [0] [0] [1]).2.1 p ∧ (bez p (mu H) G H [1] [0] [0] [1]).2.1.length ≤ 20 ∧ Ov (bez p (mu H) G H [1] [0] [0] [1]).2.2 p ∧ (bez p (mu H) G H [1] [0] [0] [1]).2.2.length ≤ 20 ∧
      Ez (at' G) (at' H) p (bez p (mu H) G H [1] [0] [0] [1]).1 (bez p (mu H) G H [1] [0] [0] [1]).2.1 (bez p (mu H) G H [1] [0] [0] [1]).2.2 := by
  have ht := tk_start hp hG hH
  obtain ⟨h1, _, h3, h4, h5, h6, h7⟩ := bez_ok (g := at' G) (h := at' H) hp (mu H) G H [1] [0] [0] [1] ⟨ht.2, ht.1⟩ ez_start.1 ez_start.2
  exact ⟨h1, h3, h4, h5, h6, h7⟩
/-- no common factor: whatever the order -/
theorem cgo_swap {G H : List Int} {p : Int} (hp : isP p = true) (hG : Gd G p) (hH : Gd H p) (g0 : G ≠ [0]) (h0 : H ≠ [0]) (h : (cgo p (mu H) G H).length = 1) : (cgo p (mu G) H G).length = 1 := by
  have hp2 := isP_le hp
  have hD := cgo_gd hp (mu G) H G hH hG
  have hDn := cgo_ne (p := p) (mu G) H G h0
  obtain ⟨iH, iG⟩ := cgo_im hp (mu G) H G (Nat.le_refl _) hH hG
  obtain ⟨c, hc⟩ := len1 h
  have hcr := single_in (by rw [← hc]; exact cgo_gd hp _ _ _ hG hH) (by rw [← hc]; exact cgo_ne _ _ _ g0)
  obtain ⟨b1, _, _, _, _, b7⟩ := bez_start hp hG hH
  rw [b1, hc] at b7
  generalize cgo p (mu G) H G = D at *
  have e1 := iG.mul (at' (bez p (mu H) G H [1] [0] [0] [1]).2.1) (N := (bez p (mu H) G H [1] [0] [0] [1]).2.1.length) (fun i hi => at_out hi)
  have e2 := iH.mul (at' (bez p (mu H) G H [1] [0] [0] [1]).2.2) (N := (bez p (mu H) G H [1] [0] [0] [1]).2.2.length) (fun i hi => at_out hi)
  have e3 : Im (at' D) p (fun m => c * one m) := (e1.add e2).of fun m => by
    have := b7.2.2 m
    rw [at_single] at this
    obtain ⟨x, hx⟩ := this
    exact ⟨-x, by rw [Int.mul_neg]; omega⟩
  have hl := clean_last hD.2.2 hDn hD.1.1
  have hlr := hD.1.2.at (by omega) (by omega) (D.length - 1)
  have hu := inv_dvd (x := at' D (D.length - 1)) hp (by omega)
  obtain ⟨N, q, hq⟩ := e3
  by_cases h1 : D.length = 1
  · exact h1
  · exfalso
    have hD1 := hD.1.1
    have hs := Im.short (n := 0) (nb := D.length - 1) hu (fun j hj => at_out (by omega)) N q (fun m hm => by
      unfold one; rw [if_neg (by omega), Int.mul_zero]; exact Int.dvd_zero p) hq 0
    unfold one at hs
    rw [if_pos rfl, Int.mul_one] at hs
    obtain ⟨x, hx⟩ := hs
    have : p * x = c := hx.symm
    by_cases h1 : 1 ≤ x
    · have : p * 1 ≤ p * x := Int.mul_le_mul_of_nonneg_left h1 (by omega)
      omega
    · have : p * x ≤ p * 0 := Int.mul_le_mul_of_nonneg_left (by omega) (by omega)
      omega

/-- what is asked of what is lifted -/
structure LK (P G H : List Int) (p : Int) : Prop where
  isp : isP p = true
  og : Gd G p
  oh : Gd H p
  vp : Val P
  g2 : 2 ≤ G.length
  h2 : 2 ≤ H.length
  gl : at' G (G.length - 1) = 1
  hl : at' H (H.length - 1) = 1
  pl : at' P (P.length - 1) = 1
  p9 : P.length ≤ 9
  same : trim (mods (prod G H) p) = trim (mods P p)
  co : (cgo p (mu H) G H).length = 1
theorem prod_top {G H : List Int} (hg : 1 ≤ G.length) (hh : 1 ≤ H.length) : at' (prod G H) (G.length + H.length - 2) = at' G (G.length - 1) * at' H (H.length - 1) := by
  rw [prod_cv hh]
  unfold cv
  rw [← sm_one (G.length - 1) (at' G (G.length - 1) * at' H (H.length - 1)) (G.length + H.length - 2 + 1) (by omega)]
  refine sm_congr _ fun i hi => ?_
  by_cases h1 : i = G.length - 1
  · rw [h1, if_pos rfl, show G.length + H.length - 2 - (G.length - 1) = H.length - 1 by omega]
  · rw [if_neg h1]
    by_cases h2 : i < G.length - 1
    · rw [at_out (L := H) (by omega), Int.mul_zero]
    · rw [at_out (L := G) (by omega), Int.zero_mul]
theorem md_one {p : Int} (hp : 2 ≤ p) : md 1 p = 1 := by
  rw [md_pos (by omega) (by omega)]
  exact Int.tmod_eq_of_lt (by omega) (by omega)
theorem mods_clean {L : List Int} {p : Int} (hp : 2 ≤ p) (h1 : 1 ≤ L.length) (hl : at' L (L.length - 1) = 1) : trim (mods L p) = mods L p := by
  refine trim_id (ne_of_len (by rw [mods_len]; exact h1)) (.inr ?_)
  rw [mods_len, at_some _ _ (by rw [mods_len]; omega), mods_at, hl, md_one hp]
  decide
theorem LK.mods {P G H : List Int} {p : Int} (h : LK P G H p) : Go.Pl.mods (prod G H) p = Go.Pl.mods P p ∧ P.length = G.length + H.length - 1 := by
  have hp2 := isP_le h.isp
  have h1 := h.g2
  have h2 := h.h2
  have hpp := h.vp.1
  have e1 : trim (Go.Pl.mods (prod G H) p) = Go.Pl.mods (prod G H) p := mods_clean (by omega) (by rw [prod_len]; omega) (by
    rw [prod_len, show G.length + H.length - 1 - 1 = G.length + H.length - 2 by omega, prod_top (by omega) (by omega), h.gl, h.hl]; rfl)
  have e2 : trim (Go.Pl.mods P p) = Go.Pl.mods P p := mods_clean (by omega) hpp h.pl
  have e3 := h.same
  rw [e1, e2] at e3
  refine ⟨e3, ?_⟩
  have := congrArg List.length e3
  rw [mods_len, mods_len, prod_len] at this
  omega
/-- what the product misses -/
def mis (P G H : List Int) (p : Int) : List Int := (List.range (prod G H).length).map fun k => Int.tdiv (at' P k - at' (prod G H) k) p
def eps0 (P G H : List Int) (p : Int) : List Int := (List.range P.length).map fun k => md (Int.tdiv (md (at' P k - at' (prod G H) k) (p * p)) p) p
def eps (P G H : List Int) (p : Int) : List Int := trim (eps0 P G H p)
theorem range_at (n : Nat) (f : Nat → Int) (k : Nat) (h : k < n) : at' ((List.range n).map f) k = f k := at_get (by simp [h])
theorem LK.dvd {P G H : List Int} {p : Int} (h : LK P G H p) (k : Nat) : p ∣ at' P k - at' (prod G H) k := by
  have hp2 := isP_le h.isp
  have e := congrArg (fun L => at' L k) h.mods.1
  simp only [mods_at] at e
  obtain ⟨x, hx⟩ := md_dvd (at' P k) (p := p) (by omega)
  obtain ⟨y, hy⟩ := md_dvd (at' (prod G H) k) (p := p) (by omega)
  exact ⟨y - x, by rw [Int.mul_sub]; omega⟩
theorem tdiv_mul {p q : Int} (hp : 2 ≤ p) : Int.tdiv (p * q) p = q := Int.mul_tdiv_cancel_left q (by omega)
theorem LK.miss {P G H : List Int} {p : Int} (h : LK P G H p) (m : Nat) : p ∣ at' (mis P G H p) m - at' (eps P G H p) m := by
  have hp2 := isP_le h.isp
  have hl := h.mods.2
  have hpp := h.vp.1
  have h1 := h.g2
  unfold eps
  rw [trim_at (ne_of_len (by simp [eps0]; omega))]
  by_cases hm : m < P.length
  · unfold mis eps0
    rw [range_at _ _ _ (by rw [prod_len]; omega), range_at _ _ _ hm]
    obtain ⟨q, hq⟩ := h.dvd m
    rw [hq, tdiv_mul (by omega)]
    obtain ⟨t, ht⟩ := md_dvd (p * q) (p := p * p) (Int.mul_pos (by omega) (by omega))
    have e : md (p * q) (p * p) = p * (q + p * t) := by rw [Int.mul_add, ← Int.mul_assoc]; omega
    rw [e, tdiv_mul (by omega)]
    obtain ⟨s, hs⟩ := md_dvd (q + p * t) (p := p) (by omega)
    exact ⟨-t - s, by rw [Int.mul_sub, Int.mul_neg]; omega⟩
  · rw [at_out (by simp [mis, prod_len]; omega), at_out (by simp [eps0]; omega)]
    exact Int.dvd_zero p
theorem LK.high {P G H : List Int} {p : Int} (h : LK P G H p) (m : Nat) (hm : G.length - 1 + (H.length - 1) ≤ m) : p ∣ at' (eps P G H p) m := by
  have hp2 := isP_le h.isp
  have hl := h.mods.2
  have hpp := h.vp.1
  have h1 := h.g2
  have h2 := h.h2
  unfold eps
  rw [trim_at (ne_of_len (by simp [eps0]; omega))]
  by_cases hm2 : m < P.length
  · have e : m = G.length + H.length - 2 := by omega
    unfold eps0
    rw [range_at _ _ _ hm2, e, prod_top (by omega) (by omega), h.gl, h.hl, show G.length + H.length - 2 = P.length - 1 by omega, h.pl]
    have : md (Int.tdiv (md (1 - 1 * 1) (p * p)) p) p = 0 := by
      rw [show (1 : Int) - 1 * 1 = 0 by decide, md_zero, Int.zero_tdiv, md_zero]
    rw [this]; exact Int.dvd_zero p
  · rw [at_out (by simp [eps0]; omega)]
    exact Int.dvd_zero p

/-- the model's two -/
def bzS (G H : List Int) (p : Int) : List Int := om [inv (at' (cgo p (mu H) G H) 0) p] (bez p (mu H) G H [1] [0] [0] [1]).2.1 p
def bzT (G H : List Int) (p : Int) : List Int := om [inv (at' (cgo p (mu H) G H) 0) p] (bez p (mu H) G H [1] [0] [0] [1]).2.2 p
def uU (P G H : List Int) (p : Int) : List Int := dr (om (bzT G H p) (eps P G H p) p) G p
def vV (P G H : List Int) (p : Int) : List Int := vee (bzS G H p) (bzT G H p) (eps P G H p) G H p
theorem LK.ne {P G H : List Int} {p : Int} (h : LK P G H p) : G ≠ [0] ∧ H ≠ [0] :=
  ⟨fun e => by have := h.g2; rw [e] at this; simp at this, fun e => by have := h.h2; rw [e] at this; simp at this⟩
theorem LK.unit {P G H : List Int} {p : Int} (h : LK P G H p) : ∃ c, cgo p (mu H) G H = [c] ∧ 0 < c ∧ c < p := by
  obtain ⟨c, hc⟩ := len1 h.co
  exact ⟨c, hc, single_in (by rw [← hc]; exact cgo_gd h.isp _ _ _ h.og h.oh) (by rw [← hc]; exact cgo_ne _ _ _ h.ne.1)⟩
theorem LK.unit' {P G H : List Int} {p : Int} (h : LK P G H p) : ∃ c, cgo p (mu G) H G = [c] ∧ 0 < c ∧ c < p := by
  obtain ⟨c, hc⟩ := len1 (cgo_swap h.isp h.og h.oh h.ne.1 h.ne.2 h.co)
  exact ⟨c, hc, single_in (by rw [← hc]; exact cgo_gd h.isp _ _ _ h.oh h.og) (by rw [← hc]; exact cgo_ne _ _ _ h.ne.2)⟩
theorem LK.ez {P G H : List Int} {p : Int} (h : LK P G H p) : Ez (at' G) (at' H) p [1] (bzS G H p) (bzT G H p) := by
  obtain ⟨c, hc, hcr⟩ := h.unit
  obtain ⟨b1, _, _, _, _, b7⟩ := bez_start h.isp h.og h.oh
  rw [b1, hc] at b7
  unfold bzS bzT
  rw [hc]
  exact Ez.one h.isp hcr b7
/-- the program's inverse is one -/
theorem ivm_iv {G H : List Int} {p c : Int} (hp : isP p = true) (hG : Gd G p) (hH : Gd H p) (hc : cgo p (mu H) G H = [c]) (hcr : 0 < c ∧ c < p) :
    ∃ T, ivm p (mu H) G [0] H [1] = ([c], T) ∧ Ov T p ∧ T.length ≤ 20 ∧ Iv (at' G) (at' H) p (om T [inv c p] p) := by
  have hp2 := isP_le hp
  have ks := kv_start (p := p) hG.1.1 hH.1.1
  obtain ⟨i1, _, i3, i4, i5⟩ := ivm_ok (g := at' G) (h := at' H) hp (mu H) G [0] H [1] (tk_start hp hG hH).1 ks.1 ks.2
  rw [hc] at i1
  generalize hI : ivm p (mu H) G [0] H [1] = I at *
  obtain ⟨I1, T⟩ := I
  simp only at i1 i3 i4 i5
  subst i1
  refine ⟨T, rfl, i3, i4, Kv.iv hp hcr i5 (om_ov (by omega) i3.1 (by simp)).1.1 fun m => ?_⟩
  have := om_dvd (A := T) (B := [inv c p]) (p := p) (by omega) i3.1 (by simp) m
  rw [cv_comm, cv_single] at this
  exact this
theorem LK.len_mis {P G H : List Int} {p : Int} (h : LK P G H p) : 1 ≤ (mis P G H p).length ∧ (mis P G H p).length ≤ 9 ∧ 1 ≤ (eps P G H p).length ∧ (eps P G H p).length ≤ 9 := by
  have h1 := h.g2
  have h2 := h.h2
  have h3 := h.mods.2
  have h4 := h.p9
  have hpp := h.vp.1
  have e : (mis P G H p).length = G.length + H.length - 1 := by simp [mis, prod_len]
  have e2 : (eps P G H p).length ≤ (eps0 P G H p).length := trim_le (ne_of_len (by simp [eps0]; omega))
  have e3 : (eps0 P G H p).length = P.length := by simp [eps0]
  have e4 : 1 ≤ (eps P G H p).length := trim_pos _
  omega
theorem LK.u_eq {P G H : List Int} {p : Int} (h : LK P G H p) : ∃ c T, ivm p (mu H) G [0] H [1] = ([c], T) ∧ (0 < c ∧ c < p) ∧ Ov T p ∧ T.length ≤ 20 ∧ dr (om (mis P G H p) (om T [inv c p] p) p) G p = uU P G H p := by
  obtain ⟨c, hc, hcr⟩ := h.unit
  obtain ⟨T, h1, h2, h3, h4⟩ := ivm_iv h.isp h.og h.oh hc hcr
  have hl := h.len_mis
  exact ⟨c, T, h1, hcr, h2, h3, lift_u h.isp h.og.1 (by rw [h.gl]; decide) h4 h.ez.iv.1 h.miss hl.1 hl.2.2.1⟩
theorem LK.v_eq {P G H : List Int} {p : Int} (h : LK P G H p) : ∃ c T, ivm p (mu G) H [0] G [1] = ([c], T) ∧ (0 < c ∧ c < p) ∧ Ov T p ∧ T.length ≤ 20 ∧ dr (om (mis P G H p) (om T [inv c p] p) p) H p = vV P G H p := by
  obtain ⟨c, hc, hcr⟩ := h.unit'
  obtain ⟨T, h1, h2, h3, h4⟩ := ivm_iv h.isp h.oh h.og hc hcr
  have hl := h.len_mis
  exact ⟨c, T, h1, hcr, h2, h3, (lift_v h.isp h.og.1 h.oh.1 h.gl h.hl h.h2 h.g2 h4 h.ez h.miss hl.1 hl.2.2.1 h.high).1⟩
end Go.Pl
