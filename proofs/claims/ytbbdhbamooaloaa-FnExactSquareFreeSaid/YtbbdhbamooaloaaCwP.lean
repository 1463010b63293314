/- Greatest common wholes: rests by products, without their contents. No program is spoken of. -/
import Derived.Test.YtbbdhbamooaloaaFnQ
import Derived.Test.YtbbdhbamooaloaaPm
namespace Go.Pl
/-- a, times the last term of b, less b, times the last term of a and moved to it; before it is trimmed -/
def wlt (A B : List Int) (k : Nat) : Int := at' A k * at' B (B.length - 1) - at' A (A.length - 1) * (if k < A.length - B.length then 0 else at' B (k - (A.length - B.length)))
def wlr (A B : List Int) : List Int := (List.range A.length).map fun k => wlt A B k
def wl (A B : List Int) : List Int := trim (wlr A B)
theorem wlr_len (A B : List Int) : (wlr A B).length = A.length := by simp [wlr]
theorem wlr_get (A B : List Int) {k : Nat} (h : k < A.length) : (wlr A B)[k]? = some (wlt A B k) := by simp [wlr, h]
theorem wlr_ne {A : List Int} (B : List Int) (h : 1 ≤ A.length) : wlr A B ≠ [] := ne_of_len (by rw [wlr_len]; exact h)
theorem wlr_last (A B : List Int) (hA : 1 ≤ A.length) (hB : 1 ≤ B.length) (hl : B.length ≤ A.length) : (wlr A B)[(wlr A B).length - 1]? = some 0 := by
  rw [wlr_len, wlr_get A B (by omega)]
  unfold wlt
  rw [if_neg (by omega)]
  have e : A.length - 1 - (A.length - B.length) = B.length - 1 := by omega
  rw [e]
  congr 1
  omega
theorem wlt_bd {A B : List Int} (hA : Val A) (hB : Val B) (k : Nat) : -2000000000000 ≤ wlt A B k ∧ wlt A B k ≤ 2000000000000 := by
  unfold wlt
  have h1 := val_prod hA hB k (B.length - 1)
  split
  · omega
  · have h2 := val_prod hA hB (A.length - 1) (k - (A.length - B.length))
    omega
/-- how many terms, none of 0 -/
def mv (A : List Int) : Nat := if A = [0] then 0 else A.length
theorem mv_le (A : List Int) : mv A ≤ A.length := by unfold mv; split <;> omega
theorem mv_zero : mv [0] = 0 := rfl
theorem mv_pos {A : List Int} (h : A ≠ [0]) : mv A = A.length := if_neg h
theorem wl_len {A B : List Int} (hA : 1 ≤ A.length) (hB : 1 ≤ B.length) (hl : B.length ≤ A.length) : (wl A B).length ≤ A.length ∧ mv (wl A B) < A.length := by
  have h0 := wlr_ne B hA
  have hz := wlr_last A B hA hB hl
  have ht : (wl A B).length = tlen (wlr A B) A.length := by
    unfold wl
    rw [trim_len h0, wlr_len]
  rw [wlr_len] at hz
  by_cases h1 : A.length = 1
  · have e : wl A B = [0] := by
      have hg : (wlr A B)[0]? = some 0 := by rw [h1] at hz; exact hz
      have hl1 : (wlr A B).length = 1 := by rw [wlr_len]; exact h1
      have e2 : wlr A B = [0] := by
        apply List.ext_getElem?
        intro j
        rcases j with _ | j
        · rw [hg]; rfl
        · rw [List.getElem?_eq_none (by omega), List.getElem?_eq_none (by simp)]
      unfold wl
      rw [e2]
      rfl
    rw [e, mv_zero]
    simp
    omega
  · rw [tlen_zero (wlr A B) (by omega) hz] at ht
    have := tlen_le (wlr A B) (A.length - 1)
    have h2 := mv_le (wl A B)
    omega
def wok (L : List Int) : Bool := decide (inR (-1000000) 1000000 L)
theorem wl_val {A B : List Int} (hA : Val A) (hB : Val B) (hl : B.length ≤ A.length) (h : wok (wl A B) = true) : Val (wl A B) :=
  ⟨trim_pos _, Nat.le_trans (wl_len hA.pos hB.pos hl).1 hA.le, of_decide_eq_true h, trim_clean _⟩
/-- the rest, by at most f steps; none: a term on the way is too great -/
def prs (B : List Int) : Nat → List Int → Option (List Int)
  | 0, A => some A
  | f + 1, A => if B.length ≤ A.length ∧ A ≠ [0] then (if wok (wl A B) = true then prs B f (wl A B) else none) else some A
theorem prs_end {A B : List Int} {f : Nat} (h : ¬ (B.length ≤ A.length ∧ A ≠ [0])) : prs B f A = some A := by
  cases f with
  | zero => rfl
  | succ f => rw [prs, if_neg h]
theorem prs_no {A B : List Int} {f : Nat} (h : B.length ≤ A.length ∧ A ≠ [0]) (hw : wok (wl A B) = false) : prs B (f + 1) A = none := by
  rw [prs, if_pos h, hw]; rfl
theorem prs_go {A B : List Int} {f : Nat} (h : B.length ≤ A.length ∧ A ≠ [0]) (hw : wok (wl A B) = true) : prs B (f + 1) A = prs B f (wl A B) := by
  rw [prs, if_pos h, if_pos hw]
theorem prs_val {B : List Int} (hB : Val B) : ∀ (f : Nat) (A R : List Int), Val A → mv A ≤ f → prs B f A = some R → Val R ∧ (R.length < B.length ∨ R = [0])
  | 0, A, R, hA, hm, h => by
    rw [prs] at h
    obtain rfl := Option.some.inj h
    refine ⟨hA, .inr ?_⟩
    by_cases h0 : A = [0]
    · exact h0
    · rw [mv_pos h0] at hm
      have := hA.pos
      omega
  | f + 1, A, R, hA, hm, h => by
    by_cases hc : B.length ≤ A.length ∧ A ≠ [0]
    · cases hw : wok (wl A B) with
      | false => rw [prs_no hc hw] at h; cases h
      | true =>
        rw [prs_go hc hw] at h
        have h1 := (wl_len hA.pos hB.pos hc.1).2
        rw [mv_pos hc.2] at hm
        exact prs_val hB f _ R (wl_val hA hB hc.1 hw) (by omega) h
    · rw [prs_end hc] at h
      obtain rfl := Option.some.inj h
      refine ⟨hA, ?_⟩
      by_cases h0 : A = [0]
      · exact .inr h0
      · exact .inl (by
          rcases Nat.lt_or_ge A.length B.length with h | h
          · exact h
          · exact absurd ⟨h, h0⟩ hc)

theorem cont_dvd (L : List Int) : ∀ n k, k < n → cont L n ∣ at' L k
  | 0, k, h => by omega
  | n + 1, k, h => by
    show ((Int.gcd (cont L n) (at' L n) : Nat) : Int) ∣ _
    by_cases e : k = n
    · subst e
      exact Int.gcd_dvd_right _ _
    · exact Int.dvd_trans (Int.gcd_dvd_left _ _) (cont_dvd L n k (by omega))
theorem prim_zero : prim [0] = [0] := by
  unfold prim
  rw [if_pos (by decide)]
theorem prim_val {L : List Int} (h : Val L) : Val (prim L) := by
  by_cases h0 : content L = 0
  · unfold prim
    rw [if_pos h0]
    exact h
  · refine ⟨by rw [prim_len]; exact h.pos, by rw [prim_len]; exact h.le, ?_, ?_⟩
    · intro z hz
      unfold prim at hz
      rw [if_neg h0] at hz
      obtain ⟨y, hy, rfl⟩ := List.mem_map.1 hz
      exact tdiv_bd _ _ (h.2.2.1 y hy)
    · rw [prim_len]
      rcases h.2.2.2 with h1 | h1
      · exact .inl h1
      · right
        have hp := h.pos
        rw [prim_get h0 (at_some L (L.length - 1) (by omega))]
        intro e
        have e := Option.some.inj e
        have hd : pc L ∣ at' L (L.length - 1) := by
          have := cont_dvd L L.length (L.length - 1) (by omega)
          unfold pc
          split
          · exact Int.neg_dvd.2 this
          · exact this
        have := Int.tdiv_mul_cancel hd
        rw [e, Int.zero_mul] at this
        exact h1 (by rw [at_some L (L.length - 1) (by omega), ← this])
theorem mv_prim {B R : List Int} (hB : B ≠ [0]) (hR : R.length < B.length ∨ R = [0]) (hB1 : 1 ≤ B.length) : mv (prim R) < mv B := by
  rw [mv_pos hB]
  rcases hR with h | h
  · have := mv_le (prim R)
    rw [prim_len] at this
    omega
  · rw [h, prim_zero, mv_zero]
    omega
/-- the greatest common one, but for its content -/
def cgw : Nat → List Int → List Int → Option (List Int)
  | 0, A, _ => some A
  | f + 1, A, B => if B = [0] then some A else match prs B (mv A) A with | none => none | some R => cgw f B (prim R)
theorem cgw_stop (f : Nat) (A : List Int) : cgw f A [0] = some A := by
  cases f with
  | zero => rfl
  | succ f => rw [cgw, if_pos rfl]
theorem cgw_no {f : Nat} {A B : List Int} (h : B ≠ [0]) (hp : prs B (mv A) A = none) : cgw (f + 1) A B = none := by
  rw [cgw, if_neg h, hp]
theorem cgw_go {f : Nat} {A B R : List Int} (h : B ≠ [0]) (hp : prs B (mv A) A = some R) : cgw (f + 1) A B = cgw f B (prim R) := by
  rw [cgw, if_neg h, hp]
theorem cgw_val : ∀ (f : Nat) (A B C : List Int), Val A → Val B → cgw f A B = some C → Val C
  | 0, A, B, C, hA, _, h => by rw [cgw] at h; obtain rfl := Option.some.inj h; exact hA
  | f + 1, A, B, C, hA, hB, h => by
    by_cases h0 : B = [0]
    · rw [h0, cgw_stop] at h
      obtain rfl := Option.some.inj h
      exact hA
    · cases hp : prs B (mv A) A with
      | none => rw [cgw_no h0 hp] at h; cases h
      | some R =>
        rw [cgw_go h0 hp] at h
        exact cgw_val f _ _ C hB (prim_val (prs_val hB _ _ _ hA (Nat.le_refl _) hp).1) h
/-- both ways to begin -/
theorem cgw_swap {B : List Int} (h1 : B.length = 1) (h0 : B ≠ [0]) : cgw (mv B) [0] B = some B := by
  have e : mv B = 0 + 1 := by rw [mv_pos h0, h1]
  rw [e, cgw_go (R := [0]) h0 (prs_end (by simp)), prim_zero, cgw_stop]
/-- the longer one of both, and the shorter one -/
def lgr (A B : List Int) : List Int := if A.length < B.length then B else A
def shr (A B : List Int) : List Int := if A.length < B.length then A else B
def CW (A B : List Int) : Option (List Int) := (cgw (mv (prim (shr A B))) (prim (lgr A B)) (prim (shr A B))).map fun C => C.map (· * ((Int.gcd (content A) (content B) : Nat) : Int))
theorem lgr_val {A B : List Int} (hA : Val A) (hB : Val B) : Val (lgr A B) ∧ Val (shr A B) := by
  unfold lgr shr
  split
  · exact ⟨hB, hA⟩
  · exact ⟨hA, hB⟩
theorem gcd_bd {A B : List Int} (hA : Val A) (hB : Val B) : 0 ≤ ((Int.gcd (content A) (content B) : Nat) : Int) ∧ ((Int.gcd (content A) (content B) : Nat) : Int) ≤ 1000000 := by
  have h1 := cont_bd (L := A) (M := 1000000) (by omega) hA.2.2.1 A.length
  have h2 := cont_bd (L := B) (M := 1000000) (by omega) hB.2.2.1 B.length
  refine ⟨Int.natCast_nonneg _, gcd_le _ _ _ ?_ ?_⟩
  · unfold content; omega
  · unfold content; omega
theorem cont_bd6 {A : List Int} (hA : Val A) : 0 ≤ content A ∧ content A ≤ 1000000 := cont_bd (L := A) (M := 1000000) (by omega) hA.2.2.1 A.length
theorem CW_len {A B C : List Int} (hA : Val A) (hB : Val B) (h : CW A B = some C) : 1 ≤ C.length ∧ C.length ≤ 17 := by
  unfold CW at h
  cases hc : cgw (mv (prim (shr A B))) (prim (lgr A B)) (prim (shr A B)) with
  | none => rw [hc] at h; cases h
  | some D =>
    rw [hc] at h
    obtain rfl := Option.some.inj h
    have hv := cgw_val _ _ _ _ (prim_val (lgr_val hA hB).1) (prim_val (lgr_val hA hB).2) hc
    rw [List.length_map]
    exact ⟨hv.pos, hv.le⟩
end Go.Pl
