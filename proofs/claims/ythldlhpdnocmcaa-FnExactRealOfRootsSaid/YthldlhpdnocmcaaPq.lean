/- Division by d x less n, step by step from the last term on: what it is, and that it is exact long division. No program is spoken of. -/
import Derived.Test.YthldlhpdnocmcaaLd
import Derived.Test.YthldlhpdnocmcaaPr
namespace Go.Pl

/-- y goes into by d, within the bound -/
def gpx (d y : Int) : Bool := decide (Int.tmod y d = 0) && decide (-1000000000 ≤ Int.tdiv y d ∧ Int.tdiv y d ≤ 1000000000)
/-- k steps are left; Q is the quotient so far, x its last term so far -/
def prt (L : List Int) (n d : Int) : Nat → List Int → Int → Option (List Int × Int)
  | 0, Q, x => some (Q, x)
  | k + 1, Q, x => if gpx d (at' L (k + 1) + n * x) = true then prt L n d k (Q.set k (Int.tdiv (at' L (k + 1) + n * x) d)) (Int.tdiv (at' L (k + 1) + n * x) d) else none
theorem prt_zero (L : List Int) (n d : Int) (Q : List Int) (x : Int) : prt L n d 0 Q x = some (Q, x) := rfl
theorem prt_yes {L : List Int} {n d : Int} {k : Nat} {Q : List Int} {x : Int} (h : gpx d (at' L (k + 1) + n * x) = true) : prt L n d (k + 1) Q x = prt L n d k (Q.set k (Int.tdiv (at' L (k + 1) + n * x) d)) (Int.tdiv (at' L (k + 1) + n * x) d) := by rw [prt, if_pos h]
theorem prt_no {L : List Int} {n d : Int} {k : Nat} {Q : List Int} {x : Int} (h : gpx d (at' L (k + 1) + n * x) = false) : prt L n d (k + 1) Q x = none := by rw [prt, if_neg (by rw [h]; decide)]
theorem gpx_bd {d y : Int} (h : gpx d y = true) : -1000000000 ≤ Int.tdiv y d ∧ Int.tdiv y d ≤ 1000000000 := by
  unfold gpx at h
  rw [Bool.and_eq_true] at h
  exact of_decide_eq_true h.2
theorem gpx_of {d y : Int} (h : gbx d y = true) : gpx d y = true := by
  have h1 := gbx_bd h
  unfold gbx at h
  rw [Bool.and_eq_true] at h
  unfold gpx
  rw [Bool.and_eq_true]
  exact ⟨decide_eq_true ((tdiv_iff y d).1 (of_decide_eq_true h.1)), decide_eq_true (by omega)⟩
theorem gpx_more {d y : Int} (h : gbx d y = false) (h2 : gpx d y = true) : Int.tdiv y d < -1000000 ∨ 1000000 < Int.tdiv y d := by
  unfold gpx at h2
  rw [Bool.and_eq_true] at h2
  have h3 := (tdiv_iff y d).2 (of_decide_eq_true h2.1)
  unfold gbx at h
  rw [decide_eq_true h3, Bool.true_and] at h
  have := of_decide_eq_false h
  omega
theorem set_at1 {L : List Int} {k : Nat} (z : Int) (h : k < L.length) : at' (L.set k z) k = z := by
  unfold at'
  rw [List.getElem?_set_self h]; rfl
theorem set_at2 {L : List Int} {k j : Nat} (z : Int) (h : k ≠ j) : at' (L.set k z) j = at' L j := by
  unfold at'
  rw [List.getElem?_set_ne h]
theorem prt_len {L : List Int} {n d : Int} : ∀ (k : Nat) (Q : List Int) (x : Int) {S : List Int × Int}, prt L n d k Q x = some S → S.1.length = Q.length
  | 0, Q, x, S, h => by rw [prt_zero] at h; injection h with h; rw [← h]
  | k + 1, Q, x, S, h => by
    cases hg : gpx d (at' L (k + 1) + n * x) with
    | false => rw [prt_no hg] at h; cases h
    | true =>
      rw [prt_yes hg] at h
      have := prt_len k _ _ h
      rw [List.length_set] at this
      exact this
theorem prt_keep {L : List Int} {n d : Int} : ∀ (k : Nat) (Q : List Int) (x : Int) {S : List Int × Int}, prt L n d k Q x = some S → ∀ j, k ≤ j → at' S.1 j = at' Q j
  | 0, Q, x, S, h => by rw [prt_zero] at h; injection h with h; rw [← h]; intro j _; rfl
  | k + 1, Q, x, S, h => by
    cases hg : gpx d (at' L (k + 1) + n * x) with
    | false => rw [prt_no hg] at h; cases h
    | true =>
      rw [prt_yes hg] at h
      intro j hj
      rw [prt_keep k _ _ h j (by omega), set_at2 _ (by omega)]
theorem two_at (n d : Int) : at' [-n, d] 0 = -n ∧ at' [-n, d] 1 = d := ⟨rfl, rfl⟩
theorem ldv_prt {L : List Int} {n d : Int} : ∀ (k : Nat) (Q R : List Int) (x : Int), R.length = L.length → k < L.length → k ≤ Q.length → (∀ j, j < k → at' R j = at' L j) → at' R k = at' L k + n * x → (∀ j, k < j → at' R j = 0) →
    (∀ S, ldv (gox d) (fun x => x) [-n, d] 1 k Q R = some S → ∃ y, prt L n d k Q x = some (S.1, y) ∧ at' S.2 0 = at' L 0 + n * y ∧ ∀ j, 0 < j → at' S.2 j = 0) ∧
    (ldv (gox d) (fun x => x) [-n, d] 1 k Q R = none → ∀ S, prt L n d k Q x = some S → ∃ j, at' S.1 j < -1000000 ∨ 1000000 < at' S.1 j)
  | 0, Q, R, x, _, _, _, _, h2, h3 => by
    refine ⟨fun S h => ?_, fun h => ?_⟩
    · rw [ldv_zero] at h
      injection h with h
      subst h
      exact ⟨x, prt_zero _ _ _ _ _, h2, h3⟩
    · rw [ldv_zero] at h
      cases h
  | k + 1, Q, R, x, hR, hk, hQ, h1, h2, h3 => by
    cases hg : gbx d (at' R (k + 1)) with
    | true =>
      have hgo : gox d (at' R (k + 1)) = some (Int.tdiv (at' R (k + 1)) d) := by unfold gox; rw [if_pos hg]
      rw [ldv_some hgo]
      have hp : gpx d (at' L (k + 1) + n * x) = true := by rw [← h2]; exact gpx_of hg
      rw [prt_yes hp, ← h2]
      have hex : Int.tdiv (at' R (k + 1)) d * d = at' R (k + 1) := by
        unfold gbx at hg
        rw [Bool.and_eq_true] at hg
        exact of_decide_eq_true hg.1
      obtain ⟨t, ht⟩ : ∃ t, t = Int.tdiv (at' R (k + 1)) d := ⟨_, rfl⟩
      rw [← ht] at hex ⊢
      have e : aw (fun x => x) R [-n, d] k t 2 = (R.set k (at' R k - t * -n)).set (k + 1) (at' (R.set k (at' R k - t * -n)) (k + 1) - t * d) := rfl
      rw [show (1 : Nat) + 1 = 2 from rfl, e]
      refine ldv_prt k _ _ t (by rw [List.length_set, List.length_set]; exact hR) (by omega) (by rw [List.length_set]; omega) (fun j hj => ?_) ?_ (fun j hj => ?_)
      · rw [set_at2 _ (by omega), set_at2 _ (by omega)]
        exact h1 j (by omega)
      · rw [set_at2 _ (by omega), set_at1 _ (by omega), h1 k (by omega), Int.mul_neg, Int.mul_comm t n]
        omega
      · by_cases hj1 : j = k + 1
        · subst hj1
          rw [set_at1 _ (by rw [List.length_set]; omega), set_at2 _ (by omega), hex]
          omega
        · rw [set_at2 _ (by omega), set_at2 _ (by omega)]
          exact h3 j (by omega)
    | false =>
      have hgo : gox d (at' R (k + 1)) = none := by unfold gox; rw [if_neg (by rw [hg]; decide)]
      rw [ldv_none hgo]
      refine ⟨fun S h => (by cases h), fun _ S h => ?_⟩
      cases hp : gpx d (at' L (k + 1) + n * x) with
      | false => rw [prt_no hp] at h; cases h
      | true =>
        rw [prt_yes hp] at h
        refine ⟨k, ?_⟩
        rw [prt_keep k _ _ h k (Nat.le_refl _), set_at1 _ (by omega)]
        rw [← h2] at hp ⊢
        exact gpx_more hg hp
theorem dvr_yes {L : List Int} {n d : Int} (h2 : 2 ≤ L.length) (h : exok L [-n, d] = true) : ∃ x, prt L n d (L.length - 1) (List.replicate (L.length - 1) 0) 0 = some (exq L [-n, d], x) ∧ at' L 0 + n * x = 0 := by
  have key := ldv_prt (L := L) (n := n) (d := d) (L.length - 1) (List.replicate (L.length - 1) 0) L 0 rfl (by omega) (by simp) (fun _ _ => rfl) (by rw [Int.mul_zero, Int.add_zero]) (fun j hj => at_out (by omega))
  have hr : exr L [-n, d] = ldv (gox d) (fun x => x) [-n, d] 1 (L.length - 1) (List.replicate (L.length - 1) 0) L := by
    unfold exr
    rw [show max 1 (L.length - ([-n, d].length - 1)) = L.length - 1 by simp; omega]
    rfl
  cases he : exr L [-n, d] with
  | none => rw [ex_none he] at h; cases h
  | some S =>
    have h3 := ex_some he
    rw [h3.1] at h
    have h4 := of_decide_eq_true h
    rw [hr] at he
    obtain ⟨y, k1, k2, k3⟩ := key.1 S he
    have hl := (ldv_len _ _ _ he).2
    refine ⟨y, by rw [h3.2]; exact k1, ?_⟩
    have hne : S.2 ≠ [] := fun e => by rw [e] at hl; simp at hl; omega
    rw [← k2]
    exact (trim_zero hne).1 h4 0 (by omega)
theorem dvr_no {L : List Int} {n d : Int} (h2 : 2 ≤ L.length) (h : exok L [-n, d] = false) {S : List Int × Int} (hp : prt L n d (L.length - 1) (List.replicate (L.length - 1) 0) 0 = some S) (hz : at' L 0 + n * S.2 = 0) : ∃ j, at' S.1 j < -1000000 ∨ 1000000 < at' S.1 j := by
  have key := ldv_prt (L := L) (n := n) (d := d) (L.length - 1) (List.replicate (L.length - 1) 0) L 0 rfl (by omega) (by simp) (fun _ _ => rfl) (by rw [Int.mul_zero, Int.add_zero]) (fun j hj => at_out (by omega))
  have hr : exr L [-n, d] = ldv (gox d) (fun x => x) [-n, d] 1 (L.length - 1) (List.replicate (L.length - 1) 0) L := by
    unfold exr
    rw [show max 1 (L.length - ([-n, d].length - 1)) = L.length - 1 by simp; omega]
    rfl
  cases he : exr L [-n, d] with
  | none =>
    rw [hr] at he
    exact key.2 he S hp
  | some T =>
    exfalso
    have h3 := ex_some he
    rw [h3.1] at h
    have h4 := of_decide_eq_false h
    rw [hr] at he
    obtain ⟨y, k1, k2, k3⟩ := key.1 T he
    rw [hp] at k1
    injection k1 with k1
    have hy : S.2 = y := by rw [k1]
    rw [hy, ← k2] at hz
    have hl := (ldv_len _ _ _ he).2
    have hne : T.2 ≠ [] := fun e => by rw [e] at hl; simp at hl; omega
    exact h4 ((trim_zero hne).2 fun j hj => by
      by_cases hj0 : j = 0
      · rw [hj0]; exact hz
      · exact k3 j (by omega))
theorem ex_one {c n d : Int} (hc : c ≠ 0) : exok [c] [-n, d] = false :=
  ex_short (by simp) (fun h => hc (by
    have h1 : trim [c] = [c] := rfl
    rw [h1] at h
    injection h))
end Go.Pl
