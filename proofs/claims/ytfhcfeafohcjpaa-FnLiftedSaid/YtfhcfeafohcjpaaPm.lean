/- Over primes: terms with the last one 1; values and roots. No program is spoken of. -/
import Derived.Test.YtfhcfeafohcjpaaPo
namespace Go.Pl

/-- each term times i, over p -/
def scl (L : List Int) (i p : Int) : List Int := L.map fun z => Int.tmod (z * i) p
theorem scl_len (L : List Int) (i p : Int) : (scl L i p).length = L.length := by simp [scl]
theorem scl_get {L : List Int} {i p : Int} {k : Nat} {z : Int} (h : L[k]? = some z) : (scl L i p)[k]? = some (Int.tmod (z * i) p) := by simp [scl, h]
/-- with the last one 1 -/
def mon (L : List Int) (p : Int) : List Int := if L = [0] then [0] else scl L (inv (at' L (L.length - 1)) p) p

theorem mrow1_at (x i : Int) (m : Nat) (P : List Int) (hm : m < P.length) (j : Nat) : at' (mrow x [i] m P 1) j = if j = m then at' P m + x * i else at' P j := by
  show at' ((mrow x [i] m P 0).set (m + 0) (at' (mrow x [i] m P 0) (m + 0) + x * at' [i] 0)) j = _
  rw [show mrow x [i] m P 0 = P from rfl, Nat.add_zero, show at' [i] 0 = i from rfl]
  by_cases e : j = m
  · rw [if_pos e, e, set_at _ hm]
  · rw [if_neg e, set_at_ne _ (by omega)]
theorem mrows1_at (a : List Int) (i : Int) (P : List Int) (hP : ∀ j, at' P j = 0) (hl : P.length = a.length) : ∀ k, k ≤ a.length → ∀ j, at' (mrows a [i] P k) j = if j < k then at' a j * i else 0
  | 0, _, j => by rw [if_neg (by omega)]; exact hP j
  | k + 1, hk, j => by
    show at' (mrow (at' a k) [i] k (mrows a [i] P k) 1) j = _
    rw [mrow1_at _ _ _ _ (by rw [mrows_len]; omega)]
    by_cases e : j = k
    · rw [if_pos e, e, mrows1_at a i P hP hl k (by omega) k, if_neg (by omega), if_pos (by omega)]; omega
    · rw [if_neg e, mrows1_at a i P hP hl k (by omega) j]
      by_cases h : j < k
      · rw [if_pos h, if_pos (by omega)]
      · rw [if_neg h, if_neg (by omega)]
theorem ext_at {L M : List Int} (hl : L.length = M.length) (h : ∀ j, j < L.length → at' L j = at' M j) : L = M := by
  apply List.ext_getElem?
  intro j
  by_cases hj : j < L.length
  · rw [at_some L j hj, at_some M j (by omega), h j hj]
  · rw [List.getElem?_eq_none (by omega), List.getElem?_eq_none (by omega)]
theorem rep_at (n m : Nat) : at' (List.replicate n (0 : Int)) m = 0 := by
  unfold at'
  rw [List.getElem?_replicate]
  split <;> rfl
theorem prod1 (L : List Int) (i : Int) : prod L [i] = L.map (· * i) := by
  refine ext_at (by rw [prod_len]; simp) fun j hj => ?_
  rw [prod_len] at hj
  simp only [List.length_cons, List.length_nil] at hj
  have hjl : j < L.length := by omega
  show at' (mrows L [i] (List.replicate (L.length + [i].length - 1) 0) L.length) j = _
  rw [mrows1_at L i _ (rep_at _) (by simp) L.length (Nat.le_refl _) j, if_pos hjl]
  have : (L.map (· * i))[j]? = some (at' L j * i) := by rw [List.getElem?_map, at_some L j hjl]; rfl
  rw [at_get this]
theorem md_pos {x p : Int} (hp : 0 < p) (hx : 0 ≤ x) : md x p = Int.tmod x p := by
  unfold md
  have h1 := Int.tmod_nonneg p hx
  have h2 := Int.tmod_lt_of_pos x hp
  rw [Int.tmod_eq_emod_of_nonneg (by omega), Int.add_emod_right, Int.emod_eq_of_lt h1 h2]
theorem mods_prod1 {L : List Int} {i p : Int} (hp : 0 < p) (hL : inR 0 (p - 1) L) (hi : 0 ≤ i) : mods (prod L [i]) p = scl L i p := by
  rw [prod1]
  unfold mods scl
  rw [List.map_map]
  apply List.map_congr_left
  intro z hz
  exact md_pos hp (Int.mul_nonneg (hL z hz).1 hi)
/-- the program's way to it -/
theorem mon_trim {L : List Int} {p : Int} (hp : isP p = true) (hL : Ov L p) (hc : L.length = 1 ∨ L[L.length - 1]? ≠ some 0) (h : L ≠ [0]) : trim (mods (prod L [inv (at' L (L.length - 1)) p]) p) = mon L p ∧ Ov (mon L p) p ∧ ((mon L p).length = 1 ∨ (mon L p)[(mon L p).length - 1]? ≠ some 0) := by
  have hp2 := isP_le hp
  have hl := clean_last hc h hL.1
  have hr := hL.2.at (by omega) (by omega) (L.length - 1)
  obtain ⟨i1, i2, i3⟩ := inv_ok hp (x := at' L (L.length - 1)) (by omega)
  have hm : mon L p = scl L (inv (at' L (L.length - 1)) p) p := if_neg h
  rw [mods_prod1 (by omega) hL.2 (by omega), hm]
  have hlen := scl_len L (inv (at' L (L.length - 1)) p) p
  have h1 := hL.1
  have hcl : (scl L (inv (at' L (L.length - 1)) p) p)[(scl L (inv (at' L (L.length - 1)) p) p).length - 1]? ≠ some 0 := by
    rw [hlen, scl_get (at_some L (L.length - 1) (by omega)), i3]
    decide
  refine ⟨trim_id (ne_of_len (by omega)) (.inr hcl), ⟨by omega, fun z hz => ?_⟩, .inr hcl⟩
  unfold scl at hz
  obtain ⟨y, hy, rfl⟩ := List.mem_map.1 hz
  have h0 : 0 ≤ y * inv (at' L (L.length - 1)) p := Int.mul_nonneg (hL.2 y hy).1 (by omega)
  have h2 := Int.tmod_nonneg p h0
  have h3 := Int.tmod_lt_of_pos (y * inv (at' L (L.length - 1)) p) (show 0 < p by omega)
  omega

/-- what the walks of greatest common ones keep -/
def Gd (L : List Int) (p : Int) : Prop := Ov L p ∧ L.length ≤ 17 ∧ (L.length = 1 ∨ L[L.length - 1]? ≠ some 0)
theorem Gd.of_over {L : List Int} {p : Int} (h : over L p = true) : Gd L p := ⟨over_ov h, (over_val h).2.1.le, val_clean (over_val h).2.1⟩
theorem Gd.rest {A B : List Int} {p : Int} (hp : isP p = true) (hA : Gd A p) (hB : Gd B p) (h : B ≠ [0]) : Gd (dr A B p) p := by
  obtain ⟨_, h2, _, h4, _⟩ := dv_ok hp hA.1 hB.1 (clean_last hB.2.2 h hB.1.1)
  exact ⟨h2, by have := hA.2.1; omega, dr_clean A B p⟩
theorem Gd.quo {A B : List Int} {p : Int} (hp : isP p = true) (hA : Gd A p) (hB : Gd B p) (h : B ≠ [0]) : Gd (dq A B p) p := by
  obtain ⟨h1, _, h3, _, _⟩ := dv_ok hp hA.1 hB.1 (clean_last hB.2.2 h hB.1.1)
  exact ⟨h1, by have := hA.2.1; omega, dq_clean A B p⟩
theorem Gd.val {L : List Int} {p : Int} (hp : isP p = true) (h : Gd L p) : Val L := ov_val (isP_le hp) h.1 h.2.1 h.2.2
theorem Gd.mon {L : List Int} {p : Int} (hp : isP p = true) (h : Gd L p) : Gd (mon L p) p := by
  by_cases h0 : L = [0]
  · have e : Pl.mon L p = [0] := if_pos h0
    rw [e, ← h0]; exact h
  · obtain ⟨_, h2, h3⟩ := mon_trim hp h.1 h.2.2 h0
    refine ⟨h2, ?_, h3⟩
    have e : Pl.mon L p = scl L (inv (at' L (L.length - 1)) p) p := if_neg h0
    rw [e, scl_len]
    exact h.2.1
theorem cgo_gd {p : Int} (hp : isP p = true) : ∀ (f : Nat) (A B : List Int), Gd A p → Gd B p → Gd (cgo p f A B) p
  | 0, A, B, hA, _ => hA
  | f + 1, A, B, hA, hB => by
    by_cases h : B = [0]
    · rw [h, cgo_stop]; exact hA
    · rw [cgo_step h]
      exact cgo_gd hp f B _ hB (Gd.rest hp hA hB h)

/-- the value at x over p of the highest k terms -/
def hm (A : List Int) (x p : Int) : Nat → Int
  | 0 => 0
  | k + 1 => Int.tmod (hm A x p k * x + at' A (A.length - 1 - k)) p
theorem hm_succ (A : List Int) (x p : Int) (k : Nat) : hm A x p (k + 1) = Int.tmod (hm A x p k * x + at' A (A.length - 1 - k)) p := rfl
theorem hm_bd {A : List Int} {x p : Int} (hp : 0 < p) (hA : inR 0 (p - 1) A) (hx : 0 ≤ x) : ∀ k, 0 ≤ hm A x p k ∧ hm A x p k < p
  | 0 => ⟨by rw [hm]; omega, by rw [hm]; omega⟩
  | k + 1 => by
    have h1 := hm_bd hp hA hx k
    have h2 := hA.at (by omega) (by omega) (A.length - 1 - k)
    have h3 : 0 ≤ hm A x p k * x := Int.mul_nonneg h1.1 hx
    rw [hm_succ]
    exact ⟨Int.tmod_nonneg p (by omega), Int.tmod_lt_of_pos _ hp⟩
theorem lin_ck : ∀ p ∈ [2, 3, 5, 7, 11, 13], ∀ a ∈ List.range p, ∀ s ∈ List.range p, ∀ x ∈ List.range p, md ((a : Int) - (s : Int) * md (-(x : Int)) p) p = Int.tmod ((s : Int) * (x : Int) + (a : Int)) p := by decide +kernel
theorem lin_ok {p a s x : Int} (hp : isP p = true) (ha : 0 ≤ a ∧ a < p) (hs : 0 ≤ s ∧ s < p) (hx : 0 ≤ x ∧ x < p) : md (a - s * md (-x) p) p = Int.tmod (s * x + a) p := by
  obtain ⟨n, rfl, hn⟩ := isP_nat hp
  obtain ⟨a, rfl⟩ := nat_of (x := a) (by omega)
  obtain ⟨s, rfl⟩ := nat_of (x := s) (by omega)
  obtain ⟨x, rfl⟩ := nat_of (x := x) (by omega)
  exact lin_ck n hn a (List.mem_range.2 (by omega)) s (List.mem_range.2 (by omega)) x (List.mem_range.2 (by omega))
theorem inv1_ck : ∀ p ∈ [2, 3, 5, 7, 11, 13], inv 1 (p : Nat) = 1 := by decide +kernel
theorem inv1 {p : Int} (hp : isP p = true) : inv 1 p = 1 := by
  obtain ⟨n, rfl, hn⟩ := isP_nat hp
  exact inv1_ck n hn
theorem ldv_hm {A : List Int} {x p : Int} (hp : isP p = true) (hA : inR 0 (p - 1) A) (hx : 0 ≤ x ∧ x < p) : ∀ (k : Nat) (Q R : List Int) {S : List Int × List Int}, R.length = A.length → k < A.length → (∀ j, j < k → at' R j = at' A j) → at' R k = hm A x p (A.length - k) → (∀ j, k < j → at' R j = 0) →
    ldv (goo 1 p) (fun x => md x p) [md (-x) p, 1] 1 k Q R = some S → at' S.2 0 = hm A x p A.length ∧ ∀ j, 0 < j → at' S.2 j = 0
  | 0, Q, R, S, _, _, _, h2, h3, h => by
    rw [ldv_zero] at h
    injection h with h
    subst h
    exact ⟨h2, h3⟩
  | k + 1, Q, R, S, hR, hk, h1, h2, h3, h => by
    have hp2 := isP_le hp
    have hs := hm_bd (p := p) (by omega) hA hx.1 (A.length - (k + 1))
    have ha := hA.at (by omega) (by omega) k
    rw [ldv_some (goo_eq _ _ _), Int.mul_one, h2] at h
    have ht : Int.tmod (hm A x p (A.length - (k + 1))) p = hm A x p (A.length - (k + 1)) := by
      rw [Int.tmod_eq_emod_of_nonneg hs.1, Int.emod_eq_of_lt hs.1 hs.2]
    rw [ht] at h
    have e : aw (fun x => md x p) R [md (-x) p, 1] k (hm A x p (A.length - (k + 1))) (1 + 1) = (R.set k (md (at' R k - hm A x p (A.length - (k + 1)) * md (-x) p) p)).set (k + 1) (md (at' (R.set k (md (at' R k - hm A x p (A.length - (k + 1)) * md (-x) p) p)) (k + 1) - hm A x p (A.length - (k + 1)) * 1) p) := rfl
    rw [e] at h
    refine ldv_hm hp hA hx k _ _ (by rw [List.length_set, List.length_set]; exact hR) (by omega) (fun j hj => ?_) ?_ (fun j hj => ?_) h
    · rw [set_at_ne _ (by omega), set_at_ne _ (by omega)]
      exact h1 j (by omega)
    · rw [set_at_ne _ (by omega), set_at _ (by omega), h1 k (by omega), lin_ok hp ⟨ha.1, by omega⟩ hs hx]
      have : A.length - k = A.length - (k + 1) + 1 := by omega
      rw [this, hm_succ]
      rw [show A.length - 1 - (A.length - (k + 1)) = k by omega]
    · by_cases hj1 : j = k + 1
      · subst hj1
        rw [set_at _ (by rw [List.length_set]; omega), set_at_ne _ (by omega), h2, Int.mul_one, Int.sub_self]
        unfold md
        rw [Int.zero_tmod, Int.zero_add, Int.tmod_self]
      · rw [set_at_ne _ (by omega), set_at_ne _ (by omega)]
        exact h3 j (by omega)
theorem root_iff {A : List Int} {x p : Int} (hp : isP p = true) (hA : Ov A p) (hx : 0 ≤ x ∧ x < p) : dr A [md (-x) p, 1] p = [0] ↔ hm A x p A.length = 0 := by
  have hp2 := isP_le hp
  obtain ⟨S, hS⟩ := dvo_some A [md (-x) p, 1] p
  have h1 := hA.1
  rw [(dq_of hS).2]
  unfold dvo at hS
  rw [show at' [md (-x) p, 1] ([md (-x) p, 1].length - 1) = 1 from rfl, inv1 hp, show [md (-x) p, 1].length - 1 = 1 from rfl] at hS
  have hl := (ldv_len _ _ _ hS).2
  have hne : S.2 ≠ [] := ne_of_len (by omega)
  have ht : at' A (A.length - 1) = hm A x p (A.length - (A.length - 1)) := by
    rw [show A.length - (A.length - 1) = 0 + 1 by omega, hm_succ, show hm A x p 0 = 0 from rfl, Int.zero_mul, Int.zero_add, Nat.sub_zero]
    have := hA.2.at (by omega) (by omega) (A.length - 1)
    rw [Int.tmod_eq_emod_of_nonneg this.1, Int.emod_eq_of_lt this.1 (by omega)]
  obtain ⟨k1, k2⟩ := ldv_hm hp hA.2 hx (A.length - 1) _ A rfl (by omega) (fun _ _ => rfl) ht (fun j hj => at_out (by omega)) hS
  rw [trim_zero hne, ← k1]
  constructor
  · intro h
    exact h 0 (by omega)
  · intro h j hj
    by_cases hj0 : j = 0
    · rw [hj0]; exact h
    · exact k2 j (by omega)
/-- the roots of the first numbers -/
def rts (A : List Int) (p : Int) (n : Nat) : List Int := ((List.range n).filter fun x : Nat => decide (hm A (x : Int) p A.length = 0)).map fun x : Nat => (x : Int)
theorem rts_yes {A : List Int} {p : Int} {n : Nat} (h : hm A (n : Int) p A.length = 0) : rts A p (n + 1) = rts A p n ++ [(n : Int)] := by
  simp [rts, List.range_succ, List.filter_append, h]
theorem rts_no {A : List Int} {p : Int} {n : Nat} (h : ¬ hm A (n : Int) p A.length = 0) : rts A p (n + 1) = rts A p n := by
  simp [rts, List.range_succ, List.filter_append, h]
theorem rts_len (A : List Int) (p : Int) (n : Nat) : (rts A p n).length ≤ n := by
  unfold rts
  rw [List.length_map]
  have := List.length_filter_le (fun x : Nat => decide (hm A (x : Int) p A.length = 0)) (List.range n)
  rw [List.length_range] at this
  exact this
end Go.Pl
