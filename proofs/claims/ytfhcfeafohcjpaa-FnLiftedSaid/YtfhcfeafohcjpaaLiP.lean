/- Lifting two factors, pure: products are associative, quotients and rests make their whole again over a prime, inverses modulo one are one, and what both sides' inverses are. No program is spoken of. -/
import Derived.Test.YtfhcfeafohcjpaaPp
namespace Go.Pl

theorem sm_swap3 (f : Nat → Nat → Int) (N : Nat) : ∀ n, sm (fun m => sm (fun i => f i m) n) N = sm (fun i => sm (fun m => f i m) N) n
  | 0 => by rw [sm]; exact sm_zero _ fun _ _ => rfl
  | n + 1 => by rw [sm_succ, ← sm_swap3 f N n, ← sm_add]; rfl
theorem cv_sh (a b : Nat → Int) {m N : Nat} (h : m < N) : cv a b m = sm (fun i => a i * sh b i m) N := by
  rw [sm_more (f := fun i => a i * sh b i m) (m := m + 1) N h (fun i h1 _ => by unfold sh; rw [if_neg (by omega), Int.mul_zero])]
  exact sm_congr _ fun i hi => by unfold sh; rw [if_pos (by omega)]
theorem cv_assoc (a b c : Nat → Int) (m : Nat) : cv a (cv b c) m = cv (cv a b) c m := by
  have e1 : cv a (cv b c) m = sm (fun i => sm (fun k => a i * (c k * (if i + k ≤ m then b (m - (i + k)) else 0))) (m + 1)) (m + 1) := by
    rw [cv_sh a (cv b c) (Nat.lt_succ_self m)]
    refine sm_congr _ fun i hi => ?_
    rw [sm_mul]
    congr 1
    unfold sh
    rw [if_pos (by omega), cv_comm b c, cv_sh c b (N := m + 1) (by omega)]
    refine sm_congr _ fun k hk => ?_
    unfold sh
    by_cases h : i + k ≤ m
    · rw [if_pos h, if_pos (by omega), show m - i - k = m - (i + k) by omega]
    · rw [if_neg h, if_neg (by omega)]
  have e2 : cv (cv a b) c m = sm (fun k => sm (fun i => a i * (c k * (if i + k ≤ m then b (m - (i + k)) else 0))) (m + 1)) (m + 1) := by
    rw [cv_comm, cv_sh c (cv a b) (Nat.lt_succ_self m)]
    refine sm_congr _ fun k hk => ?_
    unfold sh
    rw [if_pos (by omega), cv_sh a b (m := m - k) (N := m + 1) (by omega), ← sm_mul]
    refine sm_congr _ fun i hi => ?_
    unfold sh
    by_cases h : i + k ≤ m
    · rw [if_pos h, if_pos (by omega), show m - k - i = m - (i + k) by omega]; grind
    · rw [if_neg h, if_neg (by omega)]; simp
  rw [e1, e2, sm_swap3]
theorem cv_mod {a a' b : Nat → Int} {p : Int} (h : ∀ m, p ∣ a m - a' m) (m : Nat) : p ∣ cv a b m - cv a' b m := by
  rw [cv_comm a b, cv_comm a' b, ← cv_sub_r]
  exact sm_dvd _ fun i _ => Int.dvd_trans (h _) (Int.dvd_mul_left _ _)
theorem cv_mod_r {a b b' : Nat → Int} {p : Int} (h : ∀ m, p ∣ b m - b' m) (m : Nat) : p ∣ cv a b m - cv a b' m := by
  rw [cv_comm a b, cv_comm a b']; exact cv_mod h m
def one (m : Nat) : Int := if m = 0 then 1 else 0
theorem cv_one (t : Nat → Int) (m : Nat) : cv t one m = t m := by
  unfold cv
  rw [sm_succ, sm_zero m fun i hi => by unfold one; rw [if_neg (by omega), Int.mul_zero]]
  unfold one
  rw [Nat.sub_self, if_pos rfl]; omega
/-- two inverses of h modulo g are one -/
theorem inv_same {g h t u : Nat → Int} {p : Int} {N : Nat} (ht0 : ∀ i, N ≤ i → t i = 0) (hu0 : ∀ i, N ≤ i → u i = 0) (ht : Im g p (fun m => cv t h m - one m)) (hu : Im g p (fun m => cv u h m - one m)) : Im g p (fun m => t m - u m) := by
  have h1 := ht.mul u hu0
  have h2 := (hu.mul t ht0).scale (-1)
  refine (h1.add h2).of fun m => ?_
  show p ∣ (t m - u m) - (cv u (fun m => cv t h m - one m) m + -1 * cv t (fun m => cv u h m - one m) m)
  rw [cv_sub_r, cv_sub_r, cv_one, cv_one]
  have e : cv t (cv u h) m = cv u (cv t h) m := by
    rw [cv_assoc, cv_assoc]
    have : cv t u = cv u t := funext fun j => cv_comm t u j
    rw [this]
  rw [e, show (t m - u m) - (cv u (cv t h) m - u m + -1 * (cv u (cv t h) m - t m)) = 0 by omega]
  exact Int.dvd_zero p

theorem sm_one (k : Nat) (x : Int) : ∀ N, k < N → sm (fun i => if i = k then x else 0) N = x
  | N + 1, h => by
    by_cases e : k = N
    · subst e
      rw [sm_succ, sm_zero k fun i hi => if_neg (by omega), if_pos rfl]; omega
    · rw [sm_succ, sm_one k x N (by omega), if_neg (by omega)]; omega
theorem cv_set (Q : List Int) {k : Nat} (t : Int) (b : Nat → Int) (m : Nat) (hk : k < Q.length) : cv (at' (Q.set k t)) b m = cv (at' Q) b m + (t - at' Q k) * sh b k m := by
  have hN : m < max (m + 1) (k + 1) := by omega
  rw [cv_sh _ b hN, cv_sh _ b hN, ← sm_one k ((t - at' Q k) * sh b k m) (max (m + 1) (k + 1)) (by omega), ← sm_add]
  refine sm_congr _ fun i _ => ?_
  by_cases e : i = k
  · subst e
    rw [set_at _ hk, if_pos rfl, ← Int.add_mul, show at' Q i + (t - at' Q i) = t by omega]
  · rw [set_at_ne _ (fun e' => e e'.symm), if_neg e, Int.add_zero]
theorem ldv_quo {p i : Int} (hp : 0 < p) {b : List Int} {n : Nat} (hb : b.length = n + 1) : ∀ (k : Nat) (Q R : List Int) {S : List Int × List Int}, (k = 0 ∨ k + n ≤ R.length) → k ≤ Q.length → (∀ j, j < k → at' Q j = 0) → ldv (goo i p) (fun x => md x p) b n k Q R = some S →
    ∀ m, p ∣ (at' R m + cv (at' Q) (at' b) m) - (at' S.2 m + cv (at' S.1) (at' b) m)
  | 0, Q, R, S, _, _, _, h, m => by
    rw [ldv_zero] at h; injection h with h; rw [← h]
    rw [Int.sub_self]; exact Int.dvd_zero p
  | k + 1, Q, R, S, hk, hq, hz, h, m => by
    rw [ldv_some (goo_eq i p _)] at h
    have ih := ldv_quo hp hb k _ _ (by rw [aw_len]; omega) (by rw [List.length_set]; omega) (fun j hj => by rw [set_at_ne _ (by omega)]; exact hz j (by omega)) h m
    have h2 := aw_im hp (R := R) (k := k) (t := Int.tmod (at' R (k + n) * i) p) (by omega) hb m
    rw [cv_set Q _ _ _ (by omega), hz k (by omega), Int.sub_zero] at ih
    obtain ⟨x, hx⟩ := ih
    obtain ⟨y, hy⟩ := h2
    refine ⟨x - y, ?_⟩
    rw [Int.mul_sub]
    omega
/-- a whole is its quotient times, and its rest -/
theorem dq_dr {A B : List Int} {p : Int} (hp : 0 < p) (hA : 1 ≤ A.length) (hB : 1 ≤ B.length) (m : Nat) : p ∣ at' A m - (at' (dr A B p) m + cv (at' (dq A B p)) (at' B) m) := by
  obtain ⟨S, hS⟩ := dvo_some A B p
  obtain ⟨h1, h2⟩ := dq_of hS
  unfold dvo at hS
  have hl := ldv_len _ _ _ hS
  have := ldv_quo hp (n := B.length - 1) (by omega) _ _ _ (by omega) (by simp; omega) (fun j _ => rep_at _ j) hS m
  have e1 : at' (dr A B p) m = at' S.2 m := by rw [h2]; exact trim_at (ne_of_len (by omega)) m
  have hne : S.1 ≠ [] := ne_of_len (by rw [hl.1]; simp; omega)
  have e2 : at' (dq A B p) = at' S.1 := funext fun j => by rw [h1]; exact trim_at hne j
  have e3 : cv (at' (List.replicate (max 1 (A.length - (B.length - 1))) (0 : Int))) (at' B) m = 0 := sm_zero _ fun i _ => by rw [rep_at, Int.zero_mul]
  rw [e3, Int.add_zero] at this
  rw [e1, e2]
  exact this

/-- a less b times, over p -/
def sbt (X Y : List Int) (p : Int) : List Int := trim (mods (weigh X Y 1 (-1)) p)
theorem sbt_dvd {X Y : List Int} {p : Int} (hp : 0 < p) (hX : 1 ≤ X.length) (m : Nat) : p ∣ at' (sbt X Y p) m - (at' X m - at' Y m) := by
  unfold sbt
  rw [trim_at (ne_of_len (by rw [mods_len, weigh_len]; omega)), mods_at]
  have h1 := md_dvd (at' (weigh X Y 1 (-1)) m) hp
  have h2 : at' (weigh X Y 1 (-1)) m = at' X m - at' Y m := by
    by_cases hk : m < max X.length Y.length
    · rw [at_get (weigh_get X Y 1 (-1) hk)]; omega
    · rw [at_out (by rw [weigh_len]; omega), at_out (L := X) (by omega), at_out (L := Y) (by omega)]; rfl
  rw [h2] at h1 ⊢
  exact h1
/-- the program's way: rests of g and h, each with what times h is it modulo g -/
def ivm (p : Int) : Nat → List Int → List Int → List Int → List Int → List Int × List Int
  | 0, A, tA, _, _ => (A, tA)
  | f + 1, A, tA, B, tB => if B = [0] then (A, tA) else ivm p f B tB (dr A B p) (sbt tA (om (dq A B p) tB p) p)
/-- what the rests and their times keep -/
def Kv (g h : Nat → Int) (p : Int) (A t : List Int) : Prop := 1 ≤ A.length ∧ 1 ≤ t.length ∧ Im g p (fun m => cv (at' t) h m - at' A m)
theorem Kv.step {g h : Nat → Int} {p : Int} {A tA B tB : List Int} (hp : 0 < p) (hA : Kv g h p A tA) (hB : Kv g h p B tB) (hr : 1 ≤ (dr A B p).length) (hq : 1 ≤ (dq A B p).length) : Kv g h p (dr A B p) (sbt tA (om (dq A B p) tB p) p) := by
  refine ⟨hr, by unfold sbt; exact trim_pos _, ?_⟩
  have h1 := hA.2.2
  have h2 := (hB.2.2.mul (at' (dq A B p)) (N := (dq A B p).length) (fun i hi => at_out hi)).scale (-1)
  refine (h1.add h2).of fun m => ?_
  show p ∣ (cv (at' (sbt tA (om (dq A B p) tB p) p)) h m - at' (dr A B p) m) - ((cv (at' tA) h m - at' A m) + -1 * cv (at' (dq A B p)) (fun m => cv (at' tB) h m - at' B m) m)
  rw [cv_sub_r]
  have k1 : p ∣ cv (at' (sbt tA (om (dq A B p) tB p) p)) h m - (cv (at' tA) h m - cv (cv (at' (dq A B p)) (at' tB)) h m) := by
    have t1 := cv_mod (a := at' (sbt tA (om (dq A B p) tB p) p)) (a' := fun j => at' tA j - at' (om (dq A B p) tB p) j) (b := h) (fun j => sbt_dvd hp hA.2.1 j) m
    have t2 := cv_mod (a := at' (om (dq A B p) tB p)) (a' := cv (at' (dq A B p)) (at' tB)) (b := h) (fun j => om_dvd hp hq hB.2.1 j) m
    have t3 : cv (fun j => at' tA j - at' (om (dq A B p) tB p) j) h m = cv (at' tA) h m - cv (at' (om (dq A B p) tB p)) h m := by
      rw [cv_comm, cv_sub_r, cv_comm h, cv_comm h]
    rw [t3] at t1
    obtain ⟨x, hx⟩ := t1
    obtain ⟨y, hy⟩ := t2
    exact ⟨x - y, by rw [Int.mul_sub]; omega⟩
  have k2 := dq_dr (B := B) hp hA.1 hB.1 m (A := A)
  rw [← cv_assoc] at k1
  obtain ⟨x, hx⟩ := k1
  obtain ⟨y, hy⟩ := k2
  refine ⟨x + y, ?_⟩
  rw [Int.mul_add]
  omega
end Go.Pl
