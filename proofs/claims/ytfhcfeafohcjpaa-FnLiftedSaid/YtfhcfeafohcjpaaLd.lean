/- Long division of lists of integers: what it is, and how great its numbers become. No program is spoken of. -/
import Derived.Test.YtfhcfeafohcjpaaPl
namespace Go.Pl

/-- q times the terms of b, before the index j, taken away at i; of each difference kp is kept -/
def aw (kp : Int → Int) (R b : List Int) (i : Nat) (q : Int) : Nat → List Int
  | 0 => R
  | j + 1 => (aw kp R b i q j).set (i + j) (kp (at' (aw kp R b i q j) (i + j) - q * at' b j))
theorem aw_zero (kp : Int → Int) (R b : List Int) (i : Nat) (q : Int) : aw kp R b i q 0 = R := rfl
theorem aw_succ (kp : Int → Int) (R b : List Int) (i : Nat) (q : Int) (j : Nat) : aw kp R b i q (j + 1) = (aw kp R b i q j).set (i + j) (kp (at' (aw kp R b i q j) (i + j) - q * at' b j)) := rfl
theorem aw_len (kp : Int → Int) (R b : List Int) (i : Nat) (q : Int) : ∀ j, (aw kp R b i q j).length = R.length
  | 0 => rfl
  | j + 1 => by rw [aw_succ, List.length_set, aw_len kp R b i q j]

/-- as far as k steps are left: the quotient Q so far, the rest R so far; none if the last term doesn't go -/
def ldv (go : Int → Option Int) (kp : Int → Int) (b : List Int) (n : Nat) : Nat → List Int → List Int → Option (List Int × List Int)
  | 0, Q, R => some (Q, R)
  | k + 1, Q, R =>
    match go (at' R (k + n)) with
    | none => none
    | some t => ldv go kp b n k (Q.set k t) (aw kp R b k t (n + 1))
theorem ldv_zero (go : Int → Option Int) (kp : Int → Int) (b : List Int) (n : Nat) (Q R : List Int) : ldv go kp b n 0 Q R = some (Q, R) := rfl
theorem ldv_none {go : Int → Option Int} {kp : Int → Int} {b : List Int} {n k : Nat} {Q R : List Int} (h : go (at' R (k + n)) = none) : ldv go kp b n (k + 1) Q R = none := by rw [ldv, h]
theorem ldv_some {go : Int → Option Int} {kp : Int → Int} {b : List Int} {n k : Nat} {Q R : List Int} {t : Int} (h : go (at' R (k + n)) = some t) : ldv go kp b n (k + 1) Q R = ldv go kp b n k (Q.set k t) (aw kp R b k t (n + 1)) := by rw [ldv, h]
theorem ldv_len {go : Int → Option Int} {kp : Int → Int} {b : List Int} {n : Nat} : ∀ (k : Nat) (Q R : List Int) {S : List Int × List Int}, ldv go kp b n k Q R = some S → S.1.length = Q.length ∧ S.2.length = R.length
  | 0, Q, R, S, h => by rw [ldv_zero] at h; injection h with h; rw [← h]; exact ⟨rfl, rfl⟩
  | k + 1, Q, R, S, h => by
    cases hg : go (at' R (k + n)) with
    | none => rw [ldv_none hg] at h; cases h
    | some t =>
      rw [ldv_some hg] at h
      have := ldv_len k _ _ h
      rw [List.length_set, aw_len] at this
      exact this

/-- all terms are from -M to M -/
def Bd (M : Int) (L : List Int) : Prop := ∀ k, -M ≤ at' L k ∧ at' L k ≤ M
theorem Bd.mono {M M' : Int} {L : List Int} (h : Bd M L) (hm : M ≤ M') : Bd M' L := fun k => by have := h k; omega
theorem Bd.set {M : Int} {L : List Int} (h : Bd M L) (i : Nat) {z : Int} (hz : -M ≤ z ∧ z ≤ M) : Bd M (L.set i z) := fun k => by
  unfold at'
  by_cases e : k = i
  · subst e
    by_cases hl : k < L.length
    · rw [List.getElem?_set_self hl]; exact hz
    · have h1 := h k
      rw [at_out (by omega)] at h1
      rw [List.getElem?_eq_none (by rw [List.length_set]; omega)]
      exact h1
  · rw [List.getElem?_set_ne (by omega)]; exact h k
theorem Bd.rep {M : Int} (hM : 0 ≤ M) (n : Nat) : Bd M (List.replicate n 0) := fun k => by
  unfold at'
  by_cases hl : k < n
  · rw [List.getElem?_replicate]; simp [hl]; omega
  · rw [List.getElem?_eq_none (by simp; omega)]; simp; omega
theorem inR.bd {M : Int} {L : List Int} (h : inR (-M) M L) (hM : 0 ≤ M) : Bd M L := fun k => h.at (by omega) (by omega) k

/-- what is kept is hardly greater -/
def Kp (kp : Int → Int) : Prop := ∀ (x M : Int), -M ≤ x → x ≤ M → -(M + 13) ≤ kp x ∧ kp x ≤ M + 13
theorem Kp.id : Kp (fun x => x) := fun x M h1 h2 => ⟨by show -(M + 13) ≤ x; omega, by show x ≤ M + 13; omega⟩
theorem aw_bd {kp : Int → Int} (hk : Kp kp) {R b : List Int} {i : Nat} {q M C : Int} (hR : Bd M R) (hC0 : 0 ≤ C) (hC : ∀ k, -C ≤ q * at' b k ∧ q * at' b k ≤ C) : ∀ j : Nat, Bd (M + (j : Int) * (C + 13)) (aw kp R b i q j)
  | 0 => by rw [aw_zero]; exact hR.mono (by simp)
  | j + 1 => by
    have h := aw_bd hk hR hC0 hC (i := i) j
    have h1 := h (i + j)
    have h2 := hC j
    have e : ((j + 1 : Nat) : Int) * (C + 13) = (j : Int) * (C + 13) + (C + 13) := by
      rw [show ((j + 1 : Nat) : Int) = (j : Int) + 1 by omega, Int.add_mul]; omega
    rw [aw_succ, e]
    generalize (j : Int) * (C + 13) = P at *
    have h3 := hk (at' (aw kp R b i q j) (i + j) - q * at' b j) (M + P + C) (by omega) (by omega)
    exact (h.mono (by omega)).set _ (by omega)

/-- goes into by a last term, exactly -/
def gbx (last x : Int) : Bool := decide (Int.tdiv x last * last = x) && decide (-1000000 ≤ Int.tdiv x last ∧ Int.tdiv x last ≤ 1000000)
def gox (last x : Int) : Option Int := if gbx last x = true then some (Int.tdiv x last) else none
theorem gbx_bd {last x : Int} (h : gbx last x = true) : -1000000 ≤ Int.tdiv x last ∧ Int.tdiv x last ≤ 1000000 := by
  unfold gbx at h
  rw [Bool.and_eq_true] at h
  exact of_decide_eq_true h.2
theorem tdiv_le (x last : Int) : (Int.tdiv x last).natAbs ≤ x.natAbs := by
  rw [Int.natAbs_tdiv]; exact Nat.div_le_self _ _
theorem tdiv_mul_le (x last : Int) : (Int.tdiv x last * last).natAbs ≤ x.natAbs := by
  rw [Int.natAbs_mul, Int.natAbs_tdiv]; exact Nat.div_mul_le_self _ _
theorem tdiv_iff (x last : Int) : Int.tdiv x last * last = x ↔ Int.tmod x last = 0 := by
  have := Int.mul_tdiv_add_tmod x last
  rw [Int.mul_comm] at this
  constructor <;> intro h <;> omega

/-- exact division -/
def exr (A B : List Int) : Option (List Int × List Int) := ldv (gox (at' B (B.length - 1))) (fun x => x) B (B.length - 1) (A.length - (B.length - 1)) (List.replicate (max 1 (A.length - (B.length - 1))) 0) A
def exok (A B : List Int) : Bool := match exr A B with | none => false | some S => decide (trim S.2 = [0])
def exq (A B : List Int) : List Int := match exr A B with | none => [] | some S => S.1
theorem ex_none {A B : List Int} (h : exr A B = none) : exok A B = false := by unfold exok; rw [h]
theorem ex_some {A B : List Int} {S : List Int × List Int} (h : exr A B = some S) : exok A B = decide (trim S.2 = [0]) ∧ exq A B = S.1 := by unfold exok exq; rw [h]; exact ⟨rfl, rfl⟩
theorem trim_last {R : List Int} : at' (trim R) ((trim R).length - 1) = 0 ↔ trim R = [0] := by
  constructor
  · intro h
    have hp := trim_pos R
    rcases trim_clean R with h1 | h1
    · have h2 := at_some (trim R) 0 (by omega)
      rw [show (trim R).length - 1 = 0 by omega] at h
      rw [h] at h2
      apply List.ext_getElem?
      intro j
      by_cases hj : j = 0
      · subst hj; rw [h2]; rfl
      · rw [List.getElem?_eq_none (by omega), List.getElem?_eq_none (by simp; omega)]
    · exact absurd (by rw [at_some _ _ (by omega), h]) h1
  · intro h; rw [h]; rfl
theorem tlen_le1 {R : List Int} : ∀ n, (∀ j, j < n → at' R j = 0) → n ≤ R.length → tlen R n ≤ 1
  | 0, _, _ => by rw [tlen]; omega
  | 1, _, _ => by rw [tlen]; omega
  | n + 2, h, hl => by
    rw [tlen, if_pos (by rw [at_some R (n + 1) (by omega), h (n + 1) (by omega)])]
    exact tlen_le1 (n + 1) (fun j hj => h j (by omega)) (by omega)
theorem trim_zero {R : List Int} (h0 : R ≠ []) : trim R = [0] ↔ ∀ j, j < R.length → at' R j = 0 := by
  constructor
  · intro h j hj
    have hl := congrArg List.length h
    rw [trim_len h0] at hl
    have hz : ∀ n, tlen R n ≤ 1 → n ≤ R.length → ∀ j, 1 ≤ j → j < n → at' R j = 0 := by
      intro n
      induction n with
      | zero => intro _ _ j _ hj; omega
      | succ n ih =>
        intro ht hn j h1 hj
        cases n with
        | zero => omega
        | succ n =>
          by_cases hz : R[n + 1]? = some 0
          · rw [tlen_zero R (by omega) hz] at ht
            by_cases hjn : j = n + 1
            · rw [hjn]; exact at_get hz
            · exact ih (by simpa using ht) (by omega) j h1 (by omega)
          · rw [tlen_stop R (by omega) hz] at ht; omega
    by_cases hj0 : j = 0
    · subst hj0
      have h2 : (trim R)[0]? = some 0 := by rw [h]; rfl
      exact at_get (trim_get h0 h2)
    · exact hz R.length (by rw [hl]; simp) (Nat.le_refl _) j (by omega) hj
  · intro h
    have h1 := tlen_le1 R.length h (Nat.le_refl _)
    have h2 := tlen_pos R R.length (len_pos h0)
    have hp := len_pos h0
    have h3 := at_some R 0 (by omega)
    rw [h 0 (by omega)] at h3
    rw [trim_ne h0, show tlen R R.length = 1 by omega]
    apply List.ext_getElem?
    intro j
    by_cases hj : j = 0
    · subst hj; rw [List.getElem?_take, if_pos (by omega), h3]; rfl
    · rw [List.getElem?_eq_none (by rw [List.length_take]; omega), List.getElem?_eq_none (by simp; omega)]
theorem ex_zero {B : List Int} (hB : 1 ≤ B.length) : exok [0] B = true ∧ exq [0] B = [0] := by
  by_cases h : B.length = 1
  · have hr : exr [0] B = some ([0], [0]) := by
      have e1 : B.length - 1 = 0 := by omega
      unfold exr
      rw [e1]
      show ldv _ _ B 0 1 [0] [0] = _
      have hg : gox (at' B 0) (at' [0] (0 + 0)) = some 0 := by
        unfold gox
        rw [if_pos (by simp [gbx, at'])]
        simp [at']
      rw [ldv_some hg]
      show ldv _ _ B 0 0 ([0].set 0 0) (aw _ [0] B 0 0 1) = _
      rw [ldv_zero, aw_succ, aw_zero]
      simp [at']
    have := ex_some hr
    exact ⟨by rw [this.1]; rfl, this.2⟩
  · have hr : exr [0] B = some ([0], [0]) := by
      unfold exr
      rw [show ([0] : List Int).length - (B.length - 1) = 0 by simp; omega]
      rfl
    have := ex_some hr
    exact ⟨by rw [this.1]; rfl, this.2⟩
theorem ex_short {A B : List Int} (h : A.length < B.length) (ht : trim A ≠ [0]) : exok A B = false := by
  have hr : exr A B = some (List.replicate 1 0, A) := by
    unfold exr
    rw [show A.length - (B.length - 1) = 0 by omega]
    rfl
  rw [(ex_some hr).1]
  exact decide_eq_false ht
end Go.Pl
