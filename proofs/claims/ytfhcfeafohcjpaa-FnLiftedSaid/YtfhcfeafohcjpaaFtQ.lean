/- FnLifted, pure: what the law's own checks read. No program is spoken of. -/
import Derived.Test.YtfhcfeafohcjpaaFtP
import Derived.Test.YtfhcfeafohcjpaaMulWholesF
namespace Go.Proofs.Ytfhcfeafohcjpaa.ft
open Go.Pl Go.Proofs.Ytfhcfeafohcjpaa

/-- what is drawn: two to four terms over a prime to 7 -/
def Dg (p : Int) (L : List Int) : Prop := 2 ≤ L.length ∧ L.length ≤ 4 ∧ inR 0 (p - 1) L
theorem setAt (L : List Int) (k : Nat) (z : Int) (j : Nat) (hk : k < L.length) : at' (L.set k z) j = if j = k then z else at' L j := by
  unfold at'
  rw [List.getElem?_set]
  by_cases h : k = j
  · subst h; simp [hk]
  · rw [if_neg h, if_neg (fun e => h e.symm)]
/-- with 1 at last -/
def top1 (L : List Int) : List Int := L.set (L.length - 1) 1
theorem top1_len (L : List Int) : (top1 L).length = L.length := by simp [top1]
theorem top1_at {L : List Int} (h : 1 ≤ L.length) (j : Nat) : at' (top1 L) j = if j = L.length - 1 then 1 else at' L j := setAt L _ 1 j (by omega)
theorem top1_in {p : Int} {L : List Int} (hp : 2 ≤ p) (h : Dg p L) : inR 0 (p - 1) (top1 L) := inR_of fun k z hk hz => by
  have e := top1_at (L := L) (by have := h.1; omega) k
  rw [at_get hz] at e
  have h1 := h.2.2.at (by omega) (by omega) k
  by_cases hj : k = L.length - 1
  · rw [if_pos hj] at e; omega
  · rw [if_neg hj] at e; omega
theorem top1_last {L : List Int} (h : 1 ≤ L.length) : at' (top1 L) (L.length - 1) = 1 := by rw [top1_at h, if_pos rfl]
theorem last_ne1 {L : List Int} (h : at' L (L.length - 1) = 1) : L.length = 1 ∨ L[L.length - 1]? ≠ some 0 := .inr fun e => by rw [at_get e] at h; cases h
theorem val_in {L : List Int} {T : Int} (hT : T ≤ 1000000) (h1 : 1 ≤ L.length) (h2 : L.length ≤ 17) (hr : inR (-T) T L) (hl : at' L (L.length - 1) = 1) : Val L :=
  ⟨h1, h2, fun z hz => by have := hr z hz; omega, last_ne1 hl⟩
/-- products of lists of up to four terms -/
theorem prod_in4 {A B : List Int} {T : Int} (hT : 0 ≤ T) (ha : A.length ≤ 4) (hb1 : 1 ≤ B.length) (hA : inR 0 T A) (hB : inR 0 T B) (m : Nat) : 0 ≤ at' (prod A B) m ∧ at' (prod A B) m ≤ 4 * (T * T) := by
  have e : at' (prod A B) m = sm (fun i => at' A i * sh (at' B) i m) A.length := by
    rw [prod_cv hb1]
    unfold cv
    have h1 : sm (fun i => at' A i * at' B (m - i)) (m + 1) = sm (fun i => at' A i * sh (at' B) i m) (m + 1) := sm_congr _ fun i hi => by unfold sh; rw [if_pos (by omega)]
    rw [h1]
    by_cases hm : m + 1 ≤ A.length
    · exact (sm_more A.length hm (fun i h1 _ => by unfold sh; rw [if_neg (by omega), Int.mul_zero])).symm
    · exact sm_more (m + 1) (by omega) (fun i h1 _ => by rw [at_out h1, Int.zero_mul])
  have step : ∀ i, 0 ≤ at' A i * sh (at' B) i m ∧ at' A i * sh (at' B) i m ≤ T * T := by
    intro i
    have h1 := hA.at (by omega) hT i
    have h2 : 0 ≤ sh (at' B) i m ∧ sh (at' B) i m ≤ T := by
      unfold sh
      split
      · exact hB.at (by omega) hT _
      · omega
    refine ⟨Int.mul_nonneg h1.1 h2.1, ?_⟩
    have h3 : at' A i * sh (at' B) i m ≤ T * sh (at' B) i m := Int.mul_le_mul_of_nonneg_right h1.2 h2.1
    have h4 : T * sh (at' B) i m ≤ T * T := Int.mul_le_mul_of_nonneg_left h2.2 hT
    omega
  have bd : ∀ n : Nat, 0 ≤ sm (fun i => at' A i * sh (at' B) i m) n ∧ sm (fun i => at' A i * sh (at' B) i m) n ≤ (n : Int) * (T * T) := by
    intro n
    induction n with
    | zero => simp [sm]
    | succ n ih =>
      have h := step n
      rw [sm_succ, show ((n + 1 : Nat) : Int) * (T * T) = (n : Int) * (T * T) + T * T by rw [Int.natCast_add, Int.add_mul]; simp]
      omega
  have h := bd A.length
  rw [e]
  refine ⟨h.1, Int.le_trans h.2 ?_⟩
  exact Int.mul_le_mul_of_nonneg_right (by omega) (Int.mul_nonneg hT hT)
theorem prod_last1 {A B : List Int} (ha : 1 ≤ A.length) (hb : 1 ≤ B.length) (h1 : at' A (A.length - 1) = 1) (h2 : at' B (B.length - 1) = 1) : at' (prod A B) ((prod A B).length - 1) = 1 := by
  rw [prod_len, show A.length + B.length - 1 - 1 = A.length + B.length - 2 by omega, prod_top ha hb, h1, h2]; rfl
theorem mulw {A B : List Int} {T : Int} (hT0 : 0 ≤ T) (hT : 4 * (T * T) ≤ 1000000) (hTT : T ≤ 1000000) (ha : 1 ≤ A.length ∧ A.length ≤ 4) (hb : 1 ≤ B.length ∧ B.length ≤ 4) (hA : inR 0 T A) (hB : inR 0 T B)
    (h1 : at' A (A.length - 1) = 1) (h2 : at' B (B.length - 1) = 1) : fMulWholes.R A B = prod A B ∧ fMulWholes.ok A B = true := by
  have hvA : Val A := val_in (T := T) hTT ha.1 (by omega) (fun z hz => by have := hA z hz; omega) h1
  have hvB : Val B := val_in (T := T) hTT hb.1 (by omega) (fun z hz => by have := hB z hz; omega) h2
  have hl := prod_last1 ha.1 hb.1 h1 h2
  have hv : Val (prod A B) := val_in (T := 1000000) (by omega) (by rw [prod_len]; omega) (by rw [prod_len]; omega)
    (inR_of fun k z _ hz => by have := prod_in4 hT0 ha.2 hb.1 hA hB k; rw [at_get hz] at this; omega) hl
  have ht := trim_val hv
  refine ⟨?_, ?_⟩
  · unfold fMulWholes.R
    rw [if_pos ⟨val_iff.2 hvA, val_iff.2 hvB⟩, gv_yes (by rw [ht]; exact val_iff.2 hv), ht]
  · unfold fMulWholes.ok
    rw [val_iff.2 hvA, val_iff.2 hvB, ht, val_iff.2 hv]; rfl
/-- what is drawn, 1 put at last -/
theorem draw_facts {p : Int} {G0 H0 G H : List Int} {ng nh np : Nat} (hg : Dg p G0) (hh : Dg p H0) (hp : 2 ≤ p ∧ p ≤ 7) (lg : G0.length = ng + 1) (lh : H0.length = nh + 1) (eg : G = top1 G0) (eh : H = top1 H0) (hnp : np = ng + nh) :
    (G.length = ng + 1 ∧ H.length = nh + 1) ∧ (1 ≤ ng ∧ ng ≤ 3 ∧ 1 ≤ nh ∧ nh ≤ 3) ∧ fMulWholes.R G H = prod G H ∧ fMulWholes.ok G H = true ∧ (prod G H).length = np + 1 ∧ (∀ j, 0 ≤ at' (prod G H) j ∧ at' (prod G H) j ≤ 144) := by
  have g1 := hg.1
  have g2 := hg.2.1
  have h1 := hh.1
  have h2 := hh.2.1
  have e1 : G.length = ng + 1 := by rw [eg, top1_len]; exact lg
  have e2 : H.length = nh + 1 := by rw [eh, top1_len]; exact lh
  have i1 : inR 0 6 G := by rw [eg]; exact (top1_in hp.1 hg).mono (by omega) (by omega)
  have i2 : inR 0 6 H := by rw [eh]; exact (top1_in hp.1 hh).mono (by omega) (by omega)
  have t1 : at' G (G.length - 1) = 1 := by rw [eg, top1_len]; exact top1_last (by omega)
  have t2 : at' H (H.length - 1) = 1 := by rw [eh, top1_len]; exact top1_last (by omega)
  have m := mulw (T := 6) (by omega) (by decide) (by omega) (by omega) (by omega) i1 i2 t1 t2
  exact ⟨⟨e1, e2⟩, by omega, m.1, m.2, by rw [prod_len]; omega, fun j => prod_in4 (T := 6) (by omega) (by omega) (by omega) i1 i2 j⟩
/-- what the law reads of what is lifted -/
theorem lifted_read {P G H : List Int} {p : Int} (hk : fLiftPair.chk P G H p = true) (hp7 : p ≤ 7) (hg : G.length ≤ 4) (hh : H.length ≤ 4) {U V : List Int} (hU : U = fLiftPair.R P G H p) (hV : V = fLiftPair.R2 P G H p) :
    U.length = G.length ∧ V.length = H.length ∧ (prod U V).length = P.length ∧ (2 ≤ G.length ∧ 2 ≤ H.length) ∧
    (∀ i, i < G.length → 0 ≤ at' U i ∧ at' U i < p * p ∧ Int.tmod (at' U i) p = at' G i) ∧ (∀ i, i < H.length → 0 ≤ at' V i ∧ at' V i < p * p ∧ Int.tmod (at' V i) p = at' H i) ∧
    fMulWholes.R U V = prod U V ∧ fMulWholes.ok U V = true ∧ (∀ m, 0 ≤ at' (prod U V) m ∧ at' (prod U V) m ≤ 10000) ∧ ∀ m, Int.tmod (at' (prod U V) m - at' P m) (p * p) = 0 := by
  have k := fLiftPair.lk_of hk
  have hp2 := isP_le k.isp
  have g2 := k.g2
  have h2 := k.h2
  obtain ⟨l1, l2, t1, t2, l3⟩ := lifted_ok k
  have eU : U = weigh G (uU P G H p) 1 p := by rw [hU]; unfold fLiftPair.R; rw [if_pos hk]
  have eV : V = weigh H (vV P G H p) 1 p := by rw [hV]; unfold fLiftPair.R2; rw [if_pos hk]
  rw [← eU] at l1 t1 l3
  rw [← eV] at l2 t2 l3
  have hpp : p * p ≤ 49 := by
    have a := Int.mul_le_mul_of_nonneg_left hp7 (by omega : (0 : Int) ≤ p)
    omega
  have inU : inR 0 48 U := inR_of fun i z hi hz => by have := l1.2 i (by rw [← l1.1]; exact hi); rw [at_get hz] at this; omega
  have inV : inR 0 48 V := inR_of fun i z hi hz => by have := l2.2 i (by rw [← l2.1]; exact hi); rw [at_get hz] at this; omega
  have lu : at' U (U.length - 1) = 1 := by rw [l1.1]; exact t1
  have lv : at' V (V.length - 1) = 1 := by rw [l2.1]; exact t2
  have b1 := l1.1
  have b2 := l2.1
  have mw := mulw (T := 48) (by omega) (by decide) (by omega) (by omega) (by omega) inU inV lu lv
  refine ⟨b1, b2, by rw [prod_len, k.mods.2]; omega, ⟨g2, h2⟩, l1.2, l2.2, mw.1, mw.2, fun m => ?_, fun m => ?_⟩
  · have := prod_in4 (T := 48) (by omega) (by omega) (by omega) inU inV m
    omega
  · exact Int.tmod_eq_zero_of_dvd (l3 m)
end Go.Proofs.Ytfhcfeafohcjpaa.ft
