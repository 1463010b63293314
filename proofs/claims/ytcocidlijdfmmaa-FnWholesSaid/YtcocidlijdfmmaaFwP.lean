/- The law of wholes: products are divided again, values of products, slopes: what it needs of lists alone. No program is spoken of, but for the functions' answers. -/
import Derived.Test.YtcocidlijdfmmaaPi
import Derived.Test.YtcocidlijdfmmaaMulWholesF
import Derived.Test.YtcocidlijdfmmaaExactQuotientF
import Derived.Test.YtcocidlijdfmmaaWholeAtF
import Derived.Test.YtcocidlijdfmmaaAddWholesF
import Derived.Test.YtcocidlijdfmmaaContentOfF
import Derived.Test.YtcocidlijdfmmaaPrimitiveOfF
import Derived.Test.YtcocidlijdfmmaaSlopeWholeF
import Derived.Test.YtcocidlijdfmmaaWholeFromF
namespace Go.Proofs.Ytcocidlijdfmmaa.fw
open Go.RowKit Go.Pl Go.Proofs.Ytcocidlijdfmmaa.wh

/-- a drawn whole -/
def Dr (L : List Int) : Prop := 2 ≤ L.length ∧ L.length ≤ 5 ∧ inR (-5) 5 L ∧ at' L (L.length - 1) ≠ 0
theorem last_ne {L : List Int} (h : at' L (L.length - 1) ≠ 0) : L[L.length - 1]? ≠ some 0 := fun e => h (at_get e)
theorem val_of {L : List Int} {T : Int} (hT : T ≤ 1000000) (hp : 1 ≤ L.length) (hl : L.length ≤ 17) (hr : inR (-T) T L) (h : L.length = 1 ∨ at' L (L.length - 1) ≠ 0) : Val L :=
  ⟨hp, hl, fun z hz => by have := hr z hz; omega, h.imp id last_ne⟩
theorem Dr.val {L : List Int} (h : Dr L) : Val L := val_of (T := 5) (by omega) (by have := h.1; omega) (by have := h.2.1; omega) h.2.2.1 (.inr h.2.2.2)
theorem ne_len {L : List Int} (h : 1 ≤ L.length) : L ≠ [] := fun e => by rw [e] at h; simp at h
theorem val_trim {L : List Int} {T : Int} (hT : T ≤ 1000000) (hp : 1 ≤ L.length) (hl : L.length ≤ 17) (hr : inR (-T) T L) : Val (trim L) := by
  have h1 := trim_pos L
  have h2 : (trim L).length ≤ L.length := by rw [trim_len (ne_len hp)]; exact tlen_le _ _
  refine ⟨h1, by omega, fun z hz => ?_, trim_clean L⟩
  obtain ⟨k, hk⟩ := List.mem_iff_getElem?.1 hz
  have := hr.get (trim_get (ne_len hp) hk)
  omega

theorem sm_swap (f : Nat → Nat → Int) (N : Nat) : ∀ n, sm (fun m => sm (fun i => f i m) n) N = sm (fun i => sm (fun m => f i m) N) n
  | 0 => by rw [sm]; exact sm_zero _ fun _ _ => rfl
  | n + 1 => by rw [sm_succ, ← sm_swap f N n, ← sm_add]; rfl
theorem sm_sh (b g : Nat → Int) (i : Nat) : ∀ l, sm (fun m => sh b i m * g m) (i + l) = sm (fun q => b q * g (i + q)) l
  | 0 => by rw [sm]; exact sm_zero _ fun m hm => by unfold sh; rw [if_neg (by omega), Int.zero_mul]
  | l + 1 => by
    rw [show i + (l + 1) = (i + l) + 1 by omega, sm_succ, sm_sh b g i l, sm_succ]
    have : sh b i (i + l) = b l := by unfold sh; rw [if_pos (by omega), show i + l - i = l by omega]
    rw [this]
/-- the terms, weighed -/
def fi (g : Nat → Int) (L : List Int) : Int := sm (fun j => at' L j * g j) L.length
theorem fi_more (g : Nat → Int) (L : List Int) (n : Nat) (h : L.length ≤ n) : sm (fun j => at' L j * g j) n = fi g L :=
  sm_more _ h fun i h1 _ => by rw [at_out h1, Int.zero_mul]
theorem fi_same (g : Nat → Int) {L M : List Int} (h : ∀ m, at' L m = at' M m) : fi g L = fi g M := by
  rw [← fi_more g L (max L.length M.length) (by omega), ← fi_more g M (max L.length M.length) (by omega)]
  exact sm_congr _ fun i _ => by rw [h]
theorem fi_trim (g : Nat → Int) {L : List Int} (h : L ≠ []) : fi g (trim L) = fi g L := fi_same g (trim_at h)
theorem prod_at {a b : List Int} (hb : 1 ≤ b.length) (m : Nat) : at' (prod a b) m = sm (fun i => at' a i * sh (at' b) i m) a.length := by
  have := mrows_at a b (List.replicate (a.length + b.length - 1) 0) (by simp) hb a.length (Nat.le_refl _) m
  rw [rep_at, Int.zero_add] at this
  exact this
theorem fi_prod (g : Nat → Int) {a b : List Int} (hb : 1 ≤ b.length) : fi g (prod a b) = sm (fun i => at' a i * sm (fun q => at' b q * g (i + q)) b.length) a.length := by
  unfold fi
  rw [sm_congr (g := fun m => sm (fun i => at' a i * (sh (at' b) i m * g m)) a.length) _ (fun m _ => by
    rw [prod_at hb, Int.mul_comm, ← sm_mul]
    exact sm_congr _ fun i _ => by grind)]
  rw [sm_swap]
  refine sm_congr _ fun i hi => ?_
  rw [sm_mul, prod_len, ← sm_sh (at' b) g i b.length]
  congr 1
  exact sm_more _ (by omega) fun m h1 _ => by unfold sh; rw [if_pos (by omega), at_out (L := b) (by omega), Int.zero_mul]

def pw (x : Int) : Nat → Int
  | 0 => 1
  | n + 1 => x * pw x n
def dp (x : Int) : Nat → Int
  | 0 => 0
  | n + 1 => pw x n + x * dp x n
theorem pw_add (x : Int) (q : Nat) : ∀ i, pw x (i + q) = pw x i * pw x q
  | 0 => by rw [Nat.zero_add, pw, Int.one_mul]
  | i + 1 => by rw [show i + 1 + q = (i + q) + 1 by omega, pw, pw, pw_add x q i, Int.mul_assoc]
theorem dp_add (x : Int) (q : Nat) : ∀ i, dp x (i + q) = dp x i * pw x q + pw x i * dp x q
  | 0 => by rw [Nat.zero_add, dp, pw]; omega
  | i + 1 => by
    rw [show i + 1 + q = (i + q) + 1 by omega, dp, dp, pw, dp_add x q i, pw_add x q i]
    grind
theorem dp_pw (x : Int) : ∀ n : Nat, dp x (n + 1) = ((n : Int) + 1) * pw x n
  | 0 => by simp [dp, pw]
  | n + 1 => by
    rw [dp, dp_pw x n, pw]
    have : ((n + 1 : Nat) : Int) = (n : Int) + 1 := by omega
    rw [this]
    grind
def ev (x : Int) (L : List Int) : Int := fi (pw x) L
def dv (x : Int) (L : List Int) : Int := fi (dp x) L
theorem ev_prod (x : Int) {a b : List Int} (hb : 1 ≤ b.length) : ev x (prod a b) = ev x a * ev x b := by
  unfold ev
  rw [fi_prod _ hb]
  rw [sm_congr (g := fun i => fi (pw x) b * (at' a i * pw x i)) _ (fun i _ => by
    rw [sm_congr (g := fun q => pw x i * (at' b q * pw x q)) _ (fun q _ => by rw [pw_add]; grind), sm_mul]
    show _ = fi (pw x) b * (at' a i * pw x i)
    unfold fi
    grind)]
  rw [sm_mul, Int.mul_comm]
  rfl
theorem dv_prod (x : Int) {a b : List Int} (hb : 1 ≤ b.length) : dv x (prod a b) = dv x a * ev x b + ev x a * dv x b := by
  unfold dv ev
  rw [fi_prod _ hb]
  rw [sm_congr (g := fun i => fi (pw x) b * (at' a i * dp x i) + fi (dp x) b * (at' a i * pw x i)) _ (fun i _ => by
    rw [sm_congr (g := fun q => dp x i * (at' b q * pw x q) + pw x i * (at' b q * dp x q)) _ (fun q _ => by rw [dp_add]; grind), sm_add, sm_mul, sm_mul]
    show _ = fi (pw x) b * (at' a i * dp x i) + fi (dp x) b * (at' a i * pw x i)
    unfold fi
    grind)]
  rw [sm_add, sm_mul, sm_mul]
  show fi (pw x) b * fi (dp x) a + fi (dp x) b * fi (pw x) a = _
  grind
theorem weigh_at (a b : List Int) (x y : Int) (k : Nat) : at' (weigh a b x y) k = x * at' a k + y * at' b k := by
  by_cases h : k < max a.length b.length
  · exact at_get (weigh_get a b x y h)
  · rw [at_out (by rw [weigh_len]; omega), at_out (L := a) (by omega), at_out (L := b) (by omega)]; simp
theorem fi_weigh (g : Nat → Int) (a b : List Int) (x y : Int) : fi g (weigh a b x y) = x * fi g a + y * fi g b := by
  unfold fi
  rw [weigh_len]
  rw [sm_congr (g := fun j => x * (at' a j * g j) + y * (at' b j * g j)) _ (fun j _ => by rw [weigh_at]; grind), sm_add, sm_mul, sm_mul, fi_more g a _ (by omega), fi_more g b _ (by omega)]
  rfl
theorem slope_at {L : List Int} (k : Nat) : at' (slope L) k = ((k : Int) + 1) * at' L (k + 1) := by
  by_cases h : k < L.length - 1
  · exact at_get (slope_get L k h)
  · rw [at_out (by rw [slope_len]; omega), at_out (L := L) (by omega), Int.mul_zero]
theorem ev_slope (x : Int) {L : List Int} (h : 1 ≤ L.length) : ev x (slope L) = dv x L := by
  unfold ev dv fi
  rw [slope_len, show L.length = (L.length - 1) + 1 by omega, sm_front]
  show _ = at' L 0 * 0 + _
  rw [Int.mul_zero, Int.zero_add, show L.length - 1 + 1 - 1 = L.length - 1 by omega]
  exact sm_congr _ fun k _ => by rw [slope_at, dp_pw]; grind

/-- the nested value of the highest k terms -/
def hv (L : List Int) (x : Int) : Nat → Int
  | 0 => 0
  | k + 1 => hv L x k * x + at' L (L.length - 1 - k)
theorem hv_sm (L : List Int) (x : Int) : ∀ k, k ≤ L.length → hv L x k = sm (fun q => at' L (L.length - k + q) * pw x q) k
  | 0, _ => rfl
  | k + 1, h => by
    rw [hv, hv_sm L x k (by omega), sm_front]
    show _ = at' L (L.length - (k + 1) + 0) * 1 + sm (fun q => at' L (L.length - (k + 1) + (q + 1)) * (x * pw x q)) k
    rw [sm_congr (f := fun q => at' L (L.length - (k + 1) + (q + 1)) * (x * pw x q)) (g := fun q => x * (at' L (L.length - k + q) * pw x q)) k (fun q _ => by
      rw [show L.length - (k + 1) + (q + 1) = L.length - k + q by omega]; grind), sm_mul, show L.length - (k + 1) + 0 = L.length - 1 - k by omega]
    grind
theorem hv_ev (L : List Int) (x : Int) : hv L x L.length = ev x L := by
  rw [hv_sm L x L.length (Nat.le_refl _)]
  unfold ev fi
  exact sm_congr _ fun q _ => by rw [show L.length - L.length + q = q by omega]
theorem hv_bd {L : List Int} {x : Int} {T : Nat} (hx : -4 ≤ x ∧ x ≤ 4) (hr : inR (-(T : Int)) T L) : ∀ k : Nat, -((T * 5 ^ k : Nat) : Int) ≤ hv L x k ∧ hv L x k ≤ ((T * 5 ^ k : Nat) : Int)
  | 0 => by rw [hv]; omega
  | k + 1 => by
    have h1 := hv_bd hx hr k
    have h2 := mul_le h1 hx
    have h3 := hr.at (by omega) (by omega) (L.length - 1 - k)
    have h4 : T * 5 ^ (k + 1) = T * 5 ^ k * 5 := by rw [Nat.pow_succ, Nat.mul_assoc]
    have h5 : T ≤ T * 5 ^ k := Nat.le_mul_of_pos_right _ (Nat.pow_pos (by omega))
    rw [hv, h4]
    omega
theorem hv_le {L : List Int} {x : Int} {T n : Nat} (hx : -4 ≤ x ∧ x ≤ 4) (hr : inR (-(T : Int)) T L) {k : Nat} (hk : k ≤ n) : -((T * 5 ^ n : Nat) : Int) ≤ hv L x k ∧ hv L x k ≤ ((T * 5 ^ n : Nat) : Int) := by
  have h := hv_bd hx hr k
  have : T * 5 ^ k ≤ T * 5 ^ n := Nat.mul_le_mul_left _ (Nat.pow_le_pow_right (by omega) hk)
  omega
theorem at_ok {L : List Int} {x : Int} (hv' : Val L) (h9 : L.length ≤ 9) (hx : -4 ≤ x ∧ x ≤ 4) : fWholeAt.ok L x = true ∧ fWholeAt.z L x = ev x L := by
  have hr : inR (-((1000000 : Nat) : Int)) ((1000000 : Nat) : Int) L := fun z hz => hv'.2.2.1 z hz
  have go : ∀ k, k ≤ L.length → fWholeAt.ho L x k = some (hv L x k) := by
    intro k
    induction k with
    | zero => intro _; rfl
    | succ k ih =>
      intro hk
      rw [fWholeAt.ho_succ (ih (by omega))]
      have hb := hv_le (n := 9) hx hr (k := k + 1) (by omega)
      rw [hv] at hb
      have : fWholeAt.inB (hv L x k * x + at' L (L.length - 1 - k)) = true := decide_eq_true (by omega)
      rw [this]
      rfl
  have := fWholeAt.yes (val_iff.2 hv') (decide_eq_true (by omega) : fWholeAt.rg x = true) (go L.length (Nat.le_refl _))
  rw [hv_ev] at this
  exact this
theorem ev_bd {L : List Int} {x : Int} {T n : Nat} (hx : -4 ≤ x ∧ x ≤ 4) (hr : inR (-(T : Int)) T L) (hn : L.length ≤ n) : -((T * 5 ^ n : Nat) : Int) ≤ ev x L ∧ ev x L ≤ ((T * 5 ^ n : Nat) : Int) := by
  rw [← hv_ev]; exact hv_le hx hr hn

/-- one round of long division without remainders -/
theorem aw_at (R b : List Int) (i : Nat) (q : Int) : ∀ c m, i + c ≤ R.length → at' (aw (fun x => x) R b i q c) m = at' R m - (if i ≤ m ∧ m < i + c then q * at' b (m - i) else 0)
  | 0, m, _ => by rw [if_neg (by omega), aw_zero]; omega
  | c + 1, m, h => by
    rw [aw_succ]
    by_cases e : m = i + c
    · subst e
      rw [set_at _ (by rw [aw_len]; omega), aw_at R b i q c (i + c) (by omega), if_neg (by omega), if_pos ⟨by omega, by omega⟩, show i + c - i = c by omega]
      omega
    · rw [set_at_ne _ (by omega), aw_at R b i q c m (by omega)]
      by_cases h2 : i ≤ m ∧ m < i + c
      · rw [if_pos h2, if_pos ⟨h2.1, by omega⟩]
      · rw [if_neg h2, if_neg (by omega)]
theorem ext_at {L M : List Int} (hl : L.length = M.length) (h : ∀ j, at' L j = at' M j) : L = M := by
  refine List.ext_getElem? fun j => ?_
  by_cases hj : j < L.length
  · rw [at_some L j hj, at_some M j (by omega), h]
  · rw [List.getElem?_eq_none (by omega), List.getElem?_eq_none (by omega)]
/-- a product, divided again, row by row -/
theorem ldv_back {a b : List Int} {n : Nat} (hn : b.length = n + 1) (hb : at' b n ≠ 0) (ha : inR (-1000000) 1000000 a) : ∀ (k : Nat) (Q R : List Int), k ≤ a.length → Q.length = a.length → (∀ j, k ≤ j → at' Q j = at' a j) → R.length = a.length + n → (∀ m, at' R m = sm (fun i => at' a i * sh (at' b) i m) k) →
    ∃ S, ldv (gox (at' b n)) (fun x => x) b n k Q R = some S ∧ S.1 = a ∧ S.2.length = a.length + n ∧ ∀ m, at' S.2 m = 0
  | 0, Q, R, _, hq, hqa, hl, hr => ⟨(Q, R), rfl, ext_at hq fun j => hqa j (by omega), hl, fun m => by rw [hr m, sm]⟩
  | k + 1, Q, R, hk, hq, hqa, hl, hr => by
    have hx : at' R (k + n) = at' a k * at' b n := by
      rw [hr, sm_succ, sm_zero k fun i hi => by unfold sh; rw [if_pos (by omega), at_out (L := b) (by omega), Int.mul_zero]]
      unfold sh
      rw [if_pos (by omega), show k + n - k = n by omega, Int.zero_add]
    have ht : Int.tdiv (at' a k * at' b n) (at' b n) = at' a k := Int.mul_tdiv_cancel _ hb
    have hg : gox (at' b n) (at' R (k + n)) = some (at' a k) := by
      have h1 := ha.at (by omega) (by omega) k
      unfold gox gbx
      rw [hx, ht, if_pos (by simp; omega)]
    rw [ldv_some hg]
    refine ldv_back hn hb ha k _ _ (by omega) (by rw [List.length_set]; exact hq) (fun j hj => ?_) (by rw [aw_len]; exact hl) fun m => ?_
    · by_cases e : j = k
      · subst e; rw [set_at _ (by omega)]
      · rw [set_at_ne _ (by omega)]; exact hqa j (by omega)
    · rw [aw_at _ _ _ _ _ _ (by omega), hr m, sm_succ]
      have : (if k ≤ m ∧ m < k + (n + 1) then at' a k * at' b (m - k) else 0) = at' a k * sh (at' b) k m := by
        unfold sh
        by_cases h1 : k ≤ m
        · rw [if_pos h1]
          by_cases h2 : m < k + (n + 1)
          · rw [if_pos ⟨h1, h2⟩]
          · rw [if_neg (by omega), at_out (L := b) (by omega), Int.mul_zero]
        · rw [if_neg h1, if_neg (by omega), Int.mul_zero]
      rw [this]; omega
theorem exr_prod {a b : List Int} (ha1 : 1 ≤ a.length) (hb1 : 1 ≤ b.length) (hb : at' b (b.length - 1) ≠ 0) (ha : inR (-1000000) 1000000 a) : exok (prod a b) b = true ∧ exq (prod a b) b = a := by
  obtain ⟨S, h1, h2, h3, h4⟩ := ldv_back (a := a) (b := b) (n := b.length - 1) (by omega) hb ha a.length (List.replicate (max 1 a.length) 0) (prod a b) (Nat.le_refl _) (by simp; omega)
    (fun j hj => by rw [rep_at, at_out hj]) (by rw [prod_len]; omega) (fun m => prod_at hb1 m)
  have he : exr (prod a b) b = some S := by
    unfold exr
    rw [prod_len, show a.length + b.length - 1 - (b.length - 1) = a.length by omega]
    exact h1
  obtain ⟨e1, e2⟩ := ex_some he
  exact ⟨by rw [e1]; exact decide_eq_true ((trim_zero (ne_len (by omega))).2 fun j _ => h4 j), by rw [e2]; exact h2⟩

/-- what the law's numbers and lists are -/
theorem prod_top {a b : List Int} (ha : 1 ≤ a.length) (hb : 1 ≤ b.length) : at' (prod a b) ((prod a b).length - 1) = at' a (a.length - 1) * at' b (b.length - 1) := by
  obtain ⟨n, hn⟩ : ∃ n, a.length = n + 1 := ⟨a.length - 1, by omega⟩
  rw [prod_at hb, prod_len, hn, sm_succ, sm_zero n fun i hi => by unfold sh; rw [if_pos (by omega), at_out (L := b) (by omega), Int.mul_zero]]
  unfold sh
  rw [if_pos (by omega), Int.zero_add, show n + 1 + b.length - 1 - 1 - n = b.length - 1 by omega]
  rfl
theorem prod_in {a b : List Int} (ha : Dr a) (hb : Dr b) : inR (-((625 : Nat) : Int)) ((625 : Nat) : Int) (prod a b) := by
  have h := mrows_bd (a := a) (b := b) (P := List.replicate (a.length + b.length - 1) 0) (T := 0) (M := 25) (m := 5) hb.2.1 (by omega) (by omega)
    (fun z hz => by have := (List.mem_replicate.1 hz).2; omega) (fun i k => mul_le (A := 5) (B := 5) (ha.2.2.1.at (by omega) (by omega) i) (hb.2.2.1.at (by omega) (by omega) k)) a.length
  have hl := ha.2.1
  exact h.mono (by omega) (by omega)
theorem prod_val {a b : List Int} (ha : Dr a) (hb : Dr b) : Val (prod a b) := by
  have h1 := ha.1
  have h2 := hb.1
  have h3 := ha.2.1
  have h4 := hb.2.1
  refine val_of (T := 625) (by omega) (by rw [prod_len]; omega) (by rw [prod_len]; omega) (prod_in ha hb) (.inr ?_)
  rw [prod_top (by omega) (by omega)]
  exact Int.mul_ne_zero ha.2.2.2 hb.2.2.2
theorem mul_ok {a b : List Int} (ha : Dr a) (hb : Dr b) : fMulWholes.R a b = prod a b ∧ fMulWholes.ok a b = true := by
  have hv := prod_val ha hb
  have ht := trim_val hv
  refine ⟨?_, ?_⟩
  · unfold fMulWholes.R
    rw [if_pos ⟨val_iff.2 ha.val, val_iff.2 hb.val⟩, gv_yes (by rw [ht]; exact val_iff.2 hv), ht]
  · unfold fMulWholes.ok
    rw [val_iff.2 ha.val, val_iff.2 hb.val, ht, val_iff.2 hv]; rfl
theorem back_ok {a b : List Int} (ha : Dr a) (hb : Dr b) : fExactQuotient.R (prod a b) b = a ∧ fExactQuotient.ok (prod a b) b = true := by
  have h1 := ha.1
  have h2 := hb.1
  have hz : fExactQuotient.zr b = false := decide_eq_false fun e => by rw [e] at h2; simp at h2
  obtain ⟨e1, e2⟩ := exr_prod (a := a) (b := b) (by omega) (by omega) hb.2.2.2 (ha.2.2.1.mono (by omega) (by omega))
  have ht := trim_val ha.val
  refine ⟨?_, ?_⟩
  · unfold fExactQuotient.R
    rw [if_pos ⟨val_iff.2 (prod_val ha hb), val_iff.2 hb.val, hz, e1⟩, e2, gv_yes (by rw [ht]; exact val_iff.2 ha.val), ht]
  · unfold fExactQuotient.ok
    rw [val_iff.2 (prod_val ha hb), val_iff.2 hb.val, hz, e1, e2, ht, val_iff.2 ha.val]; rfl
theorem weigh_in {a b : List Int} (ha : Dr a) (hb : Dr b) : inR (-25) 25 (weigh a b 2 (-3)) := inR_of fun k z hk hz => by
  have h := weigh_at a b 2 (-3) k
  rw [at_get hz] at h
  have h1 := ha.2.2.1.at (by omega) (by omega) k
  have h2 := hb.2.2.1.at (by omega) (by omega) k
  omega
theorem add_ok {a b : List Int} (ha : Dr a) (hb : Dr b) (x : Int) : fAddWholes.ok a b 2 (-3) = true ∧ Val (fAddWholes.R a b 2 (-3)) ∧ (fAddWholes.R a b 2 (-3)).length ≤ 9 ∧ ev x (fAddWholes.R a b 2 (-3)) = 2 * ev x a - 3 * ev x b := by
  have h1 := ha.1
  have h3 := ha.2.1
  have h4 := hb.2.1
  have hl : (weigh a b 2 (-3)).length = max a.length b.length := weigh_len _ _ _ _
  have hv := val_trim (T := 25) (by omega) (by omega) (by omega) (weigh_in ha hb)
  have e : fAddWholes.R a b 2 (-3) = trim (weigh a b 2 (-3)) := by
    unfold fAddWholes.R
    rw [if_pos ⟨val_iff.2 ha.val, val_iff.2 hb.val, by decide, by decide⟩, gv_yes (val_iff.2 hv)]
  have hn : weigh a b 2 (-3) ≠ [] := ne_len (by omega)
  refine ⟨?_, by rw [e]; exact hv, ?_, ?_⟩
  · unfold fAddWholes.ok
    rw [val_iff.2 ha.val, val_iff.2 hb.val, val_iff.2 hv]; rfl
  · rw [e, trim_len hn]
    have := tlen_le (weigh a b 2 (-3)) (weigh a b 2 (-3)).length
    omega
  · rw [e]
    unfold ev
    rw [fi_trim _ hn, fi_weigh]
    omega
theorem slope_ok {L : List Int} {T : Int} (hT : 8 * T ≤ 1000000) (hv : Val L) (h2 : 2 ≤ L.length) (h9 : L.length ≤ 9) (hr : inR (-T) T L) (x : Int) :
    fSlopeWhole.ok L = true ∧ Val (fSlopeWhole.R L) ∧ (fSlopeWhole.R L).length ≤ 9 ∧ ev x (fSlopeWhole.R L) = dv x L := by
  have hne : slope L ≠ [] := ne_len (by rw [slope_len]; omega)
  have hT0 : 0 ≤ T := by
    have := hr.get (at_some L 0 (by omega))
    omega
  have hin : inR (-(8 * T)) (8 * T) (slope L) := inR_of fun k z hk hz => by
    rw [slope_len] at hk
    have h := slope_at (L := L) k
    rw [at_get hz] at h
    have h1 := hr.at (by omega) hT0 (k + 1)
    have h5 := mul_le (a := (k : Int) + 1) (A := 8) (by omega) h1
    omega
  have hvt : Val (trim (slope1 L)) := by
    rw [slope_trim]
    exact val_trim hT (by rw [slope_len]; omega) (by rw [slope_len]; omega) hin
  have e : fSlopeWhole.R L = trim (slope L) := by
    unfold fSlopeWhole.R
    rw [if_pos (val_iff.2 hv), gv_yes (val_iff.2 hvt), slope_trim]
  refine ⟨?_, by rw [e, ← slope_trim]; exact hvt, ?_, ?_⟩
  · unfold fSlopeWhole.ok
    rw [val_iff.2 hv, val_iff.2 hvt]; rfl
  · rw [e, trim_len hne]
    have := tlen_le (slope L) (slope L).length
    rw [slope_len] at this ⊢
    omega
  · rw [e]
    show fi (pw x) _ = _
    rw [fi_trim _ hne]
    exact ev_slope x (by omega)
theorem cont_dvd (L : List Int) : ∀ k j, j < k → cont L k ∣ at' L j
  | k + 1, j, h => by
    by_cases e : j = k
    · subst e; exact Int.gcd_dvd_right _ _
    · exact Int.dvd_trans (Int.gcd_dvd_left _ _) (cont_dvd L k j (by omega))
theorem prim_ok {P : List Int} (hv : Val P) (h2 : 2 ≤ P.length) : fContentOf.ok P = true ∧ 1 ≤ fContentOf.z P ∧ fContentOf.z P ≤ 1000000 ∧ fPrimitiveOf.ok P = true ∧ (fPrimitiveOf.R P).length = P.length ∧ inR (-1000000) 1000000 (fPrimitiveOf.R P) ∧
    ∀ j, at' (fPrimitiveOf.R P) j * fContentOf.z P = at' P j ∨ at' (fPrimitiveOf.R P) j * fContentOf.z P = -at' P j := by
  have hc := cont_bd (M := 1000000) (by omega) hv.2.2.1 P.length
  have hne : content P ≠ 0 := fun h => by
    have := content_zero hv h
    rw [this] at h2
    simp at h2
  have ez : fContentOf.z P = content P := by unfold fContentOf.z; rw [if_pos (val_iff.2 hv)]
  have hcc : 0 ≤ content P ∧ content P ≤ 1000000 := hc
  have hat : ∀ j, at' (prim P) j * content P = at' P j ∨ at' (prim P) j * content P = -at' P j := fun j => by
    by_cases hj : j < P.length
    · have hd : content P ∣ at' P j := cont_dvd P P.length j hj
      rw [at_get (prim_get hne (at_some P j hj))]
      unfold pc
      split
      · right
        rw [Int.tdiv_neg, Int.neg_mul, Int.tdiv_mul_cancel hd]
      · left
        exact Int.tdiv_mul_cancel hd
    · left
      rw [at_out (by rw [prim_len]; omega), at_out (L := P) (by omega), Int.zero_mul]
  have hin : inR (-1000000) 1000000 (prim P) := inR_of fun k z hk hz => by
    rw [prim_len] at hk
    have h1 := prim_get hne (at_some P k hk)
    rw [hz] at h1
    have h3 : z = Int.tdiv (at' P k) (pc P) := by injection h1
    rw [h3]
    exact tdiv_bd _ _ (hv.get (at_some P k hk))
  have hlast : at' (prim P) ((prim P).length - 1) ≠ 0 := fun h => by
    rw [prim_len] at h
    have h1 := hat (P.length - 1)
    rw [h, Int.zero_mul] at h1
    have h3 : at' P (P.length - 1) = 0 := by omega
    rcases hv.2.2.2 with h4 | h4
    · omega
    · exact h4 (by rw [at_some P _ (by omega), h3])
  have hvp : Val (prim P) := val_of (T := 1000000) (by omega) (by rw [prim_len]; omega) (by rw [prim_len]; exact hv.le) hin (.inr hlast)
  have ht := trim_val hvp
  have er : fPrimitiveOf.R P = prim P := by
    unfold fPrimitiveOf.R
    rw [if_pos (val_iff.2 hv), gv_yes (by rw [ht]; exact val_iff.2 hvp), ht]
  rw [er, ez]
  refine ⟨val_iff.2 hv, by omega, hcc.2, ?_, prim_len P, hin, hat⟩
  unfold fPrimitiveOf.ok
  rw [val_iff.2 hv, ht, val_iff.2 hvp]; rfl
theorem from_ok {a : List Int} (ha : Dr a) : fWholeFrom.R (a ++ [0, 0]) = a ∧ fWholeFrom.ok (a ++ [0, 0]) = true := by
  have h1 := ha.1
  have hne : a ++ [0, 0] ≠ [] := ne_len (by simp)
  have hl : (a ++ [0, 0]).length = a.length + 2 := by simp
  have z1 : (a ++ [(0 : Int), 0])[a.length + 2 - 1]? = some 0 := by rw [List.getElem?_append_right (by omega)]; simp
  have z2 : (a ++ [(0 : Int), 0])[a.length + 1 - 1]? = some 0 := by rw [List.getElem?_append_right (by omega)]; simp
  have z3 : (a ++ [(0 : Int), 0])[a.length - 1]? ≠ some 0 := by
    rw [List.getElem?_append_left (by omega)]
    exact last_ne ha.2.2.2
  have e : trim (a ++ [0, 0]) = a := by
    rw [trim_ne hne, hl, tlen_zero _ (by omega) z1, show a.length + 2 - 1 = a.length + 1 by omega, tlen_zero _ (by omega) z2, show a.length + 1 - 1 = a.length by omega, tlen_stop _ (by omega) z3]
    simp
  refine ⟨?_, ?_⟩
  · unfold fWholeFrom.R
    rw [if_neg hne, gv_yes (by rw [e]; exact val_iff.2 ha.val), e]
  · unfold fWholeFrom.ok
    rw [if_neg hne, e]
    exact val_iff.2 ha.val
end Go.Proofs.Ytcocidlijdfmmaa.fw
