/- Division of lists of integers over primes: what it is, that its terms are remainders, and that the rest is short. No program is spoken of. -/
import Derived.Test.YtfhcfeafohcjpaaLd
import Derived.Test.YtfhcfeafohcjpaaFnM
namespace Go.Pl

/-- the first of f numbers from y on which times x leaves 1 -/
def invf (x p : Int) : Nat → Int → Int
  | 0, y => y
  | f + 1, y => if Int.tmod (x * y) p = 1 then y else invf x p f (y + 1)
def inv (x p : Int) : Int := invf x p 12 1
theorem invf_yes {x p y : Int} {f : Nat} (h : Int.tmod (x * y) p = 1) : invf x p (f + 1) y = y := by rw [invf, if_pos h]
theorem invf_no {x p y : Int} {f : Nat} (h : ¬ Int.tmod (x * y) p = 1) : invf x p (f + 1) y = invf x p f (y + 1) := by rw [invf, if_neg h]
theorem invf_ge (x p : Int) : ∀ (f : Nat) (y : Int), y ≤ invf x p f y
  | 0, y => by rw [invf]; omega
  | f + 1, y => by
    rw [invf]
    split
    · omega
    · have := invf_ge x p f (y + 1); omega
theorem nat_of {x : Int} (h : 0 ≤ x) : ∃ n : Nat, x = (n : Int) := ⟨x.toNat, by omega⟩
theorem inv_ck : ∀ p ∈ [2, 3, 5, 7, 11, 13], ∀ x ∈ List.range p, x ≠ 0 → 1 ≤ inv x p ∧ inv x p < (p : Int) ∧ Int.tmod ((x : Int) * inv x p) p = 1 := by decide +kernel
theorem rest_ck : ∀ p ∈ [2, 3, 5, 7, 11, 13], ∀ x ∈ List.range p, ∀ b ∈ List.range p, b ≠ 0 → md ((x : Int) - Int.tmod ((x : Int) * inv b p) p * (b : Int)) p = 0 := by decide +kernel
theorem isP_nat {p : Int} (h : isP p = true) : ∃ n : Nat, p = (n : Int) ∧ n ∈ [2, 3, 5, 7, 11, 13] := by
  unfold isP at h
  rw [decide_eq_true_iff] at h
  rcases h with h | h | h | h | h | h
  · exact ⟨2, h, by decide⟩
  · exact ⟨3, h, by decide⟩
  · exact ⟨5, h, by decide⟩
  · exact ⟨7, h, by decide⟩
  · exact ⟨11, h, by decide⟩
  · exact ⟨13, h, by decide⟩
theorem inv_ok {x p : Int} (hp : isP p = true) (h : 0 < x ∧ x < p) : 1 ≤ inv x p ∧ inv x p < p ∧ Int.tmod (x * inv x p) p = 1 := by
  obtain ⟨n, rfl, hn⟩ := isP_nat hp
  obtain ⟨m, rfl⟩ := nat_of (x := x) (by omega)
  exact inv_ck n hn m (List.mem_range.2 (by omega)) (by omega)
theorem rest_ok {x b p : Int} (hp : isP p = true) (hx : 0 ≤ x ∧ x < p) (hb : 0 < b ∧ b < p) : md (x - Int.tmod (x * inv b p) p * b) p = 0 := by
  obtain ⟨n, rfl, hn⟩ := isP_nat hp
  obtain ⟨m, rfl⟩ := nat_of (x := x) (by omega)
  obtain ⟨k, rfl⟩ := nat_of (x := b) (by omega)
  exact rest_ck n hn m (List.mem_range.2 (by omega)) k (List.mem_range.2 (by omega)) (by omega)

/-- goes into, over a prime: always -/
def gbt (_ : Int) : Bool := true
def goo (i p x : Int) : Option Int := if gbt x = true then some (Int.tmod (x * i) p) else none
theorem goo_eq (i p x : Int) : goo i p x = some (Int.tmod (x * i) p) := if_pos rfl
theorem ldv_total (i p : Int) (kp : Int → Int) (b : List Int) (n : Nat) : ∀ (k : Nat) (Q R : List Int), ∃ S, ldv (goo i p) kp b n k Q R = some S
  | 0, Q, R => ⟨_, ldv_zero _ _ _ _ _ _⟩
  | k + 1, Q, R => by
    rw [ldv_some (goo_eq i p _)]
    exact ldv_total i p kp b n k _ _
theorem Kp.md {p : Int} (hp : 1 ≤ p ∧ p ≤ 13) : Kp (fun x => md x p) := fun x M h1 h2 => by
  have := md_range x (p := p) (by omega)
  show -(M + 13) ≤ Pl.md x p ∧ Pl.md x p ≤ M + 13
  omega
theorem tmod_bd13 {x p : Int} (hp : 1 ≤ p ∧ p ≤ 13) : -1000000 ≤ Int.tmod x p ∧ Int.tmod x p ≤ 1000000 := by
  have := tm_range x (p := p) (by omega)
  omega

/-- division over a prime: the quotient and the rest, with zeros -/
def dvo (A B : List Int) (p : Int) : Option (List Int × List Int) := ldv (goo (inv (at' B (B.length - 1)) p) p) (fun x => md x p) B (B.length - 1) (A.length - (B.length - 1)) (List.replicate (max 1 (A.length - (B.length - 1))) 0) A
def dq (A B : List Int) (p : Int) : List Int := match dvo A B p with | none => [0] | some S => trim S.1
def dr (A B : List Int) (p : Int) : List Int := match dvo A B p with | none => [0] | some S => trim S.2
theorem dvo_some (A B : List Int) (p : Int) : ∃ S, dvo A B p = some S := ldv_total _ _ _ _ _ _ _ _
theorem dq_of {A B : List Int} {p : Int} {S : List Int × List Int} (h : dvo A B p = some S) : dq A B p = trim S.1 ∧ dr A B p = trim S.2 := by unfold dq dr; rw [h]; exact ⟨rfl, rfl⟩

theorem aw_in {p : Int} (hp : 0 < p) {R b : List Int} {i : Nat} {q : Int} (h : inR 0 (p - 1) R) : ∀ j, inR 0 (p - 1) (aw (fun x => md x p) R b i q j)
  | 0 => by rw [aw_zero]; exact h
  | j + 1 => by
    rw [aw_succ]
    refine inR_set (aw_in hp h j) ?_
    have := md_range (at' (aw (fun x => md x p) R b i q j) (i + j) - q * at' b j) hp
    show 0 ≤ md _ p ∧ md _ p ≤ p - 1
    omega
theorem aw_far {kp : Int → Int} {R b : List Int} {i : Nat} {q : Int} {m : Nat} : ∀ j, (∀ k, k < j → i + k ≠ m) → at' (aw kp R b i q j) m = at' R m
  | 0, _ => by rw [aw_zero]
  | j + 1, h => by
    rw [aw_succ]
    unfold at'
    rw [List.getElem?_set_ne (h j (by omega))]
    exact aw_far j (fun k hk => h k (by omega))
theorem ldv_in {p i : Int} (hp : 0 < p) (hi : 0 ≤ i) {b : List Int} {n : Nat} : ∀ (k : Nat) (Q R : List Int) {S : List Int × List Int}, inR 0 (p - 1) Q → inR 0 (p - 1) R → ldv (goo i p) (fun x => md x p) b n k Q R = some S → inR 0 (p - 1) S.1 ∧ inR 0 (p - 1) S.2
  | 0, Q, R, S, hQ, hR, h => by rw [ldv_zero] at h; injection h with h; rw [← h]; exact ⟨hQ, hR⟩
  | k + 1, Q, R, S, hQ, hR, h => by
    rw [ldv_some (goo_eq i p _)] at h
    have hx := hR.at (by omega) (by omega) (k + n)
    have h0 : 0 ≤ at' R (k + n) * i := Int.mul_nonneg hx.1 hi
    refine ldv_in hp hi k _ _ (inR_set hQ ?_) (aw_in hp hR _) h
    have h1 := Int.tmod_nonneg p h0
    have h2 := Int.tmod_lt_of_pos (at' R (k + n) * i) hp
    omega
theorem set_at {L : List Int} {k : Nat} (z : Int) (h : k < L.length) : at' (L.set k z) k = z := by
  unfold at'
  rw [List.getElem?_set_self h]; rfl
theorem set_at_ne {L : List Int} {k j : Nat} (z : Int) (h : k ≠ j) : at' (L.set k z) j = at' L j := by
  unfold at'
  rw [List.getElem?_set_ne h]
theorem ldv_top {p : Int} (hp : isP p = true) {b : List Int} {n : Nat} (hb : 0 < at' b n ∧ at' b n < p) : ∀ (k : Nat) (Q R : List Int) {S : List Int × List Int}, inR 0 (p - 1) R → (∀ j, k + n ≤ j → at' R j = 0) → ldv (goo (inv (at' b n) p) p) (fun x => md x p) b n k Q R = some S → ∀ j, n ≤ j → at' S.2 j = 0
  | 0, Q, R, S, _, hz, h => by
    rw [ldv_zero] at h; injection h with h; rw [← h]
    intro j hj
    exact hz j (by omega)
  | k + 1, Q, R, S, hR, hz, h => by
    have hp2 := isP_le hp
    rw [ldv_some (goo_eq _ p _)] at h
    refine ldv_top hp hb k _ _ (aw_in (by omega) hR _) ?_ h
    intro j hj
    by_cases e : j = k + n
    · subst e
      rw [aw_succ]
      by_cases hl : k + n < R.length
      · rw [set_at _ (by rw [aw_len]; exact hl), aw_far n (fun i hi => by omega)]
        have hx := hR.at (by omega) (by omega) (k + n)
        exact rest_ok hp ⟨hx.1, by omega⟩ hb
      · rw [at_out (by rw [List.length_set, aw_len]; omega)]
    · rw [aw_far (n + 1) (fun i hi => by omega)]
      exact hz j (by omega)

/-- a list of remainders -/
def Ov (L : List Int) (p : Int) : Prop := 1 ≤ L.length ∧ inR 0 (p - 1) L
theorem trim_in {L : List Int} {lo hi : Int} (h : inR lo hi L) (h0 : L ≠ []) : inR lo hi (trim L) := by
  intro z hz
  obtain ⟨k, hk⟩ := List.mem_iff_getElem?.1 hz
  exact h.get (trim_get h0 hk)
theorem rep_in {p : Int} (hp : 0 < p) (n : Nat) : inR 0 (p - 1) (List.replicate n (0 : Int)) := by
  intro z hz
  have := (List.mem_replicate.1 hz).2
  omega
theorem ne_of_len {L : List Int} (h : 1 ≤ L.length) : L ≠ [] := fun e => by rw [e] at h; simp at h
/-- what division over a prime gives -/
theorem dv_ok {A B : List Int} {p : Int} (hp : isP p = true) (hA : Ov A p) (hB : Ov B p) (hl : at' B (B.length - 1) ≠ 0) :
    Ov (dq A B p) p ∧ Ov (dr A B p) p ∧ (dq A B p).length ≤ max 1 (A.length - (B.length - 1)) ∧ (dr A B p).length ≤ A.length ∧ ((dr A B p).length ≤ B.length - 1 ∨ dr A B p = [0]) := by
  have hp2 := isP_le hp
  obtain ⟨S, hS⟩ := dvo_some A B p
  obtain ⟨e1, e2⟩ := dq_of hS
  have hbl := hB.2.at (by omega) (by omega) (B.length - 1)
  have hb : 0 < at' B (B.length - 1) ∧ at' B (B.length - 1) < p := by omega
  have hinv := inv_ok hp hb
  unfold dvo at hS
  have hln := ldv_len _ _ _ hS
  have hin := ldv_in (by omega) (by omega) _ _ _ (rep_in (by omega) _) hA.2 hS
  have htop := ldv_top hp hb _ _ _ hA.2 (fun j hj => at_out (by omega)) hS
  rw [List.length_replicate] at hln
  have n1 : S.1 ≠ [] := ne_of_len (by omega)
  have n2 : S.2 ≠ [] := ne_of_len (by have := hA.1; omega)
  rw [e1, e2]
  refine ⟨⟨trim_pos _, trim_in hin.1 n1⟩, ⟨trim_pos _, trim_in hin.2 n2⟩, by have := trim_le n1; omega, by have := trim_le n2; omega, ?_⟩
  by_cases h0 : trim S.2 = [0]
  · exact .inr h0
  · refine .inl ?_
    have hc := trim_clean S.2
    have hl1 := trim_pos S.2
    by_cases hle : (trim S.2).length ≤ B.length - 1
    · exact hle
    · exfalso
      apply h0
      have hs := at_some (trim S.2) ((trim S.2).length - 1) (by omega)
      have hg := trim_get n2 hs
      have hz := htop ((trim S.2).length - 1) (by omega)
      rw [at_get hg] at hz
      exact trim_last.1 hz
theorem dr_id {A B : List Int} {p : Int} (h : A.length < B.length) : dr A B p = trim A ∧ dq A B p = [0] := by
  have hS : dvo A B p = some (List.replicate 1 0, A) := by
    unfold dvo
    rw [show A.length - (B.length - 1) = 0 by omega]
    rfl
  have := dq_of hS
  exact ⟨this.2, this.1⟩
theorem Ov.bd {L : List Int} {p : Int} (hp : 2 ≤ p ∧ p ≤ 13) (h : Ov L p) : Bd 1000000 L := fun k => by
  have := h.2.at (by omega) (by omega) k
  omega
theorem over_ov {L : List Int} {p : Int} (h : over L p = true) : Ov L p := ⟨(over_val h).2.1.1, (over_val h).2.2⟩
theorem clean_last {L : List Int} (hc : L.length = 1 ∨ L[L.length - 1]? ≠ some 0) (h : L ≠ [0]) (h1 : 1 ≤ L.length) : at' L (L.length - 1) ≠ 0 := fun e => by
  rcases hc with hc | hc
  · apply h
    obtain ⟨z, rfl⟩ : ∃ z, L = [z] := List.length_eq_one_iff.1 hc
    have : z = 0 := by simpa [at'] using e
    rw [this]
  · exact hc (by rw [at_some L _ (by omega), e])
theorem val_clean {L : List Int} (h : Val L) : L.length = 1 ∨ L[L.length - 1]? ≠ some 0 := h.2.2.2
theorem dr_clean (A B : List Int) (p : Int) : (dr A B p).length = 1 ∨ (dr A B p)[(dr A B p).length - 1]? ≠ some 0 := by
  obtain ⟨S, hS⟩ := dvo_some A B p
  rw [(dq_of hS).2]
  exact trim_clean _
theorem dq_clean (A B : List Int) (p : Int) : (dq A B p).length = 1 ∨ (dq A B p)[(dq A B p).length - 1]? ≠ some 0 := by
  obtain ⟨S, hS⟩ := dvo_some A B p
  rw [(dq_of hS).1]
  exact trim_clean _
theorem ov_val {L : List Int} {p : Int} (hp : 2 ≤ p ∧ p ≤ 13) (h : Ov L p) (hl : L.length ≤ 17) (hc : L.length = 1 ∨ L[L.length - 1]? ≠ some 0) : Val L :=
  ⟨h.1, hl, fun z hz => (by have := h.2 z hz; omega), hc⟩

/-- greatest common ones: f steps at most -/
def cgo (p : Int) : Nat → List Int → List Int → List Int
  | 0, A, _ => A
  | f + 1, A, B => if B = [0] then A else cgo p f B (dr A B p)
/-- how many steps are left at most -/
def mu (B : List Int) : Nat := if B = [0] then 0 else B.length
theorem mu_zero : mu [0] = 0 := rfl
theorem mu_le (B : List Int) : mu B ≤ B.length := by unfold mu; split <;> omega
theorem mu_pos {B : List Int} (h : B ≠ [0]) : mu B = B.length := if_neg h
theorem cgo_stop (p : Int) (f : Nat) (A : List Int) : cgo p f A [0] = A := by
  cases f with
  | zero => rfl
  | succ f => rw [cgo, if_pos rfl]
theorem cgo_step {p : Int} {f : Nat} {A B : List Int} (h : B ≠ [0]) : cgo p (f + 1) A B = cgo p f B (dr A B p) := by rw [cgo, if_neg h]
theorem mu_step {A B : List Int} {p : Int} (hp : isP p = true) (hA : Ov A p) (hB : Ov B p) (hc : B.length = 1 ∨ B[B.length - 1]? ≠ some 0) (h : B ≠ [0]) : mu (dr A B p) < mu B := by
  have hl := clean_last hc h hB.1
  obtain ⟨_, _, _, _, h5⟩ := dv_ok hp hA hB hl
  rw [mu_pos h]
  rcases h5 with h5 | h5
  · have := mu_le (dr A B p)
    have := hB.1
    omega
  · rw [h5, mu_zero]
    exact hB.1
end Go.Pl
