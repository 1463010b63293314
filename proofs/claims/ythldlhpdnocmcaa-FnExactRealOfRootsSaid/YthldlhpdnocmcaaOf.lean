/- How often a fraction is a root: quotients' terms stay small, so that both ways of dividing tell the same. No program is spoken of. -/
import Derived.Test.YthldlhpdnocmcaaPi
import Derived.Test.YthldlhpdnocmcaaPq
namespace Go.Pl

/-- the sum of what stands behind k, of nine -/
def su (f : Nat → Int) (k : Nat) : Int := sm (fun i => f (8 - i)) (8 - k)
theorem su_step (f : Nat → Int) {k : Nat} (h : k < 8) : su f k = su f (k + 1) + f (k + 1) := by
  unfold su
  rw [show 8 - k = (8 - (k + 1)) + 1 by omega, sm_succ, show 8 - (8 - (k + 1)) = k + 1 by omega]
/-- bounds of the m-th quotient's terms, from the top, and from the bottom -/
def tb : Nat → List Int
  | 0 => List.replicate 9 1000
  | m + 1 => (List.range 9).map fun k => su (at' (tb m)) k
def pb : Nat → List Int
  | 0 => List.replicate 9 1000
  | m + 1 => (List.range 9).map fun k => sm (at' (pb m)) (k + 1)
theorem tb_ck : ∀ m ∈ List.range 9, ∀ k ∈ List.range 9, at' (tb m) k ≤ 1000000 ∧ 0 ≤ at' (tb m) k := by decide +kernel
theorem pb_ck : ∀ m ∈ List.range 9, ∀ k ∈ List.range 9, (k + m ≤ 8 → at' (pb m) k ≤ 1000000) ∧ 0 ≤ at' (pb m) k := by decide +kernel
theorem tb_at (m k : Nat) (h : k < 9) : at' (tb (m + 1)) k = su (at' (tb m)) k := by
  have : (tb (m + 1))[k]? = some (su (at' (tb m)) k) := by
    show ((List.range 9).map fun k => su (at' (tb m)) k)[k]? = _
    rw [List.getElem?_map, List.getElem?_range h]; rfl
  exact at_get this
theorem pb_at (m k : Nat) (h : k < 9) : at' (pb (m + 1)) k = sm (at' (pb m)) (k + 1) := by
  have : (pb (m + 1))[k]? = some (sm (at' (pb m)) (k + 1)) := by
    show ((List.range 9).map fun k => sm (at' (pb m)) (k + 1))[k]? = _
    rw [List.getElem?_map, List.getElem?_range h]; rfl
  exact at_get this

/-- T is d x less n, times Q -/
def Fac (T Q : List Int) (n d : Int) : Prop := at' T 0 + n * at' Q 0 = 0 ∧ ∀ k, at' T (k + 1) + n * at' Q (k + 1) = d * at' Q k
/-- what division by d, of what is at most a times d, is at most -/
theorem div_le {q t n d b : Int} (hd : 1 ≤ d) (h : t + n * q = d * b) (hn : n.natAbs ≤ d.natAbs) : b.natAbs ≤ t.natAbs + q.natAbs := by
  have h1 : (d * b).natAbs = d.natAbs * b.natAbs := Int.natAbs_mul d b
  have h2 : (n * q).natAbs = n.natAbs * q.natAbs := Int.natAbs_mul n q
  have h3 : n.natAbs * q.natAbs ≤ d.natAbs * q.natAbs := Nat.mul_le_mul_right _ hn
  have h4 : d.natAbs * b.natAbs ≤ t.natAbs + d.natAbs * q.natAbs := by
    rw [← h1, ← h]
    have := Int.natAbs_add_le t (n * q)
    omega
  have h5 : t.natAbs ≤ d.natAbs * t.natAbs := Nat.le_mul_of_pos_left _ (by omega)
  have h6 : d.natAbs * b.natAbs ≤ d.natAbs * (t.natAbs + q.natAbs) := by rw [Nat.mul_add]; omega
  exact Nat.le_of_mul_le_mul_left h6 (by omega)
theorem div_le2 {q t n d b : Int} (hd : 1 ≤ d) (h : t + n * q = d * b) (hn : d.natAbs ≤ n.natAbs) : q.natAbs ≤ t.natAbs + b.natAbs := by
  have h1 : (d * b).natAbs = d.natAbs * b.natAbs := Int.natAbs_mul d b
  have h2 : (n * q).natAbs = n.natAbs * q.natAbs := Int.natAbs_mul n q
  have h3 : d.natAbs * b.natAbs ≤ n.natAbs * b.natAbs := Nat.mul_le_mul_right _ hn
  have h4 : n.natAbs * q.natAbs ≤ t.natAbs + n.natAbs * b.natAbs := by
    rw [← h2, show n * q = d * b - t by omega]
    have : (d * b - t).natAbs ≤ (d * b).natAbs + t.natAbs := by omega
    omega
  have h5 : t.natAbs ≤ n.natAbs * t.natAbs := Nat.le_mul_of_pos_left _ (by omega)
  have h6 : n.natAbs * q.natAbs ≤ n.natAbs * (t.natAbs + b.natAbs) := by rw [Nat.mul_add]; omega
  exact Nat.le_of_mul_le_mul_left h6 (by omega)
/-- the m-th quotient's bounds -/
def Sml (T : List Int) (n d : Int) (m : Nat) : Prop :=
  (n.natAbs ≤ d.natAbs → ∀ k, k < 9 → ((at' T k).natAbs : Int) ≤ at' (tb m) k) ∧ (d.natAbs ≤ n.natAbs → ∀ k, k < 9 → ((at' T k).natAbs : Int) ≤ at' (pb m) k)
theorem Sml.step {T Q : List Int} {n d : Int} {m : Nat} (hd : 1 ≤ d) (hQ : Q.length ≤ 8) (hf : Fac T Q n d) (h : Sml T n d m) : Sml Q n d (m + 1) := by
  refine ⟨fun hn => ?_, fun hn => ?_⟩
  · have h1 := h.1 hn
    have key : ∀ i k, k + i = 8 → ((at' Q k).natAbs : Int) ≤ at' (tb (m + 1)) k := by
      intro i
      induction i with
      | zero =>
        intro k hk
        rw [at_out (L := Q) (by omega), tb_at m k (by omega)]
        unfold su
        rw [show 8 - k = 0 by omega, sm]
        simp
      | succ i ih =>
        intro k hk
        have h2 := ih (k + 1) (by omega)
        have h3 := h1 (k + 1) (by omega)
        have h4 := div_le hd (hf.2 k) hn
        rw [tb_at m k (by omega), su_step _ (by omega), ← tb_at m (k + 1) (by omega)]
        omega
    intro k hk
    exact key (8 - k) k (by omega)
  · have h1 := h.2 hn
    intro k
    induction k with
    | zero =>
      intro _
      have h3 := h1 0 (by omega)
      have h4 := div_le2 (b := 0) hd (show at' T 0 + n * at' Q 0 = d * 0 by rw [Int.mul_zero]; exact hf.1) hn
      rw [pb_at m 0 (by omega), sm_succ, sm]
      simp only [Int.natAbs_zero] at h4
      omega
    | succ k ih =>
      intro hk
      have h2 := ih (by omega)
      have h3 := h1 (k + 1) (by omega)
      have h4 := div_le2 hd (hf.2 k) hn
      rw [pb_at m (k + 1) (by omega), sm_succ, ← pb_at m k (by omega)]
      omega
/-- so a quotient's terms are at most a million -/
theorem Sml.bd {Q : List Int} {n d : Int} {m : Nat} (h : Sml Q n d m) (hm : Q.length + m ≤ 9) (k : Nat) : -1000000 ≤ at' Q k ∧ at' Q k ≤ 1000000 := by
  by_cases hk : k < Q.length
  · rcases Nat.le_total n.natAbs d.natAbs with hn | hn
    · have h1 := h.1 hn k (by omega)
      have h2 := (tb_ck m (List.mem_range.2 (by omega)) k (List.mem_range.2 (by omega))).1
      omega
    · have h1 := h.2 hn k (by omega)
      have h2 := (pb_ck m (List.mem_range.2 (by omega)) k (List.mem_range.2 (by omega))).1 (by omega)
      omega
  · rw [at_out (by omega)]; omega
theorem rep9 (k : Nat) (h : k < 9) : at' (tb 0) k = 1000 ∧ at' (pb 0) k = 1000 := by
  have : ∀ k ∈ List.range 9, at' (tb 0) k = 1000 ∧ at' (pb 0) k = 1000 := by decide
  exact this k (List.mem_range.2 h)
theorem Sml.start {T : List Int} {n d : Int} (h : ValR T) : Sml T n d 0 :=
  ⟨fun _ k hk => by have := h.at k; rw [(rep9 k hk).1]; omega, fun _ k hk => by have := h.at k; rw [(rep9 k hk).2]; omega⟩
/-- what the steps give is a factor -/
theorem prt_fac {T : List Int} {n d : Int} : ∀ (k : Nat) (Q : List Int) (x : Int) {S : List Int × Int}, k ≤ Q.length → (∀ j, k ≤ j → at' T (j + 1) + n * at' Q (j + 1) = d * at' Q j) → x = at' Q k → prt T n d k Q x = some S → (∀ j, at' T (j + 1) + n * at' S.1 (j + 1) = d * at' S.1 j) ∧ S.2 = at' S.1 0
  | 0, Q, x, S, _, h, hx, hp => by
    rw [prt_zero] at hp; injection hp with hp; rw [← hp]
    exact ⟨fun j => h j (by omega), hx⟩
  | k + 1, Q, x, S, hk, h, hx, hp => by
    cases hg : gpx d (at' T (k + 1) + n * x) with
    | false => rw [prt_no hg] at hp; cases hp
    | true =>
      rw [prt_yes hg] at hp
      have hm : Int.tmod (at' T (k + 1) + n * x) d = 0 := by
        unfold gpx at hg
        rw [Bool.and_eq_true] at hg
        exact of_decide_eq_true hg.1
      have hq := Int.mul_tdiv_add_tmod (at' T (k + 1) + n * x) d
      rw [hm, Int.add_zero] at hq
      refine prt_fac k _ _ (by rw [List.length_set]; omega) (fun j hj => ?_) ?_ hp
      · by_cases e : j = k
        · subst e
          rw [set_at2 _ (by omega), set_at1 _ (by omega), ← hx, hq]
        · rw [set_at2 _ (by omega), set_at2 _ (by omega)]
          exact h j (by omega)
      · rw [set_at1 _ (by omega)]
/-- both ways tell the same of the m-th quotient -/
theorem often_step {T : List Int} {n d : Int} {m : Nat} (hd : 1 ≤ d) (h2 : 2 ≤ T.length) (hl : T.length + m ≤ 9) (hs : Sml T n d m) {S : List Int × Int} (hp : prt T n d (T.length - 1) (List.replicate (T.length - 1) 0) 0 = some S) (hz : at' T 0 + n * S.2 = 0) : exok T [-n, d] = true ∧ exq T [-n, d] = S.1 ∧ Sml S.1 n d (m + 1) ∧ S.1.length = T.length - 1 := by
  have hln := prt_len _ _ _ hp
  rw [List.length_replicate] at hln
  obtain ⟨f1, f2⟩ := prt_fac (T := T) (n := n) (d := d) (T.length - 1) _ 0 (by simp) (fun j hj => by
    rw [at_out (L := T) (by omega), rep_at, rep_at, Int.mul_zero, Int.mul_zero, Int.add_zero]) (by rw [rep_at]) hp
  have hf : Fac T S.1 n d := ⟨by rw [← f2]; exact hz, f1⟩
  have hsm := hs.step hd (by omega) hf
  cases he : exok T [-n, d] with
  | false =>
    exfalso
    obtain ⟨j, hj⟩ := dvr_no h2 he hp hz
    have := hsm.bd (by omega) j
    omega
  | true =>
    obtain ⟨x, hx, _⟩ := dvr_yes h2 he
    rw [hp] at hx
    injection hx with hx
    exact ⟨rfl, by rw [hx], hsm, hln⟩
end Go.Pl
