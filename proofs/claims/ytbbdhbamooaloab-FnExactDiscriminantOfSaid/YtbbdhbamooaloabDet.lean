/- Determinants: expanded by the first row, by the last one, and over sets of columns. No program is spoken of. -/
import Derived.Test.YtbbdhbamooaloabPi
namespace Go.Pl

/-- the sign of an index -/
def sg (i : Nat) : Int := if i % 2 = 0 then 1 else -1
theorem sg_add (i j : Nat) : sg (i + j) = sg i * sg j := by
  unfold sg
  rcases Nat.mod_two_eq_zero_or_one i with h1 | h1 <;> rcases Nat.mod_two_eq_zero_or_one j with h2 | h2 <;> simp [h1, h2, Nat.add_mod]
theorem sg_two (i : Nat) : sg (i + 2) = sg i := by unfold sg; rw [show (i + 2) % 2 = i % 2 by omega]
theorem sg_cases (i : Nat) : sg i = 1 ∨ sg i = -1 := by unfold sg; split <;> simp
def cl (cs : List Nat) (i : Nat) : Nat := (cs[i]?).getD 0
/-- the determinant of rows in columns, by the first row -/
def dt : List (List Int) → List Nat → Int
  | [], _ => 1
  | r :: rs, cs => sm (fun i => sg i * at' r (cl cs i) * dt rs (cs.eraseIdx i)) cs.length

theorem er_get (cs : List Nat) (a j : Nat) : (cs.eraseIdx a)[j]? = if j < a then cs[j]? else cs[j + 1]? := by
  rw [List.getElem?_eraseIdx]
theorem cl_er (cs : List Nat) (a j : Nat) : cl (cs.eraseIdx a) j = cl cs (if j < a then j else j + 1) := by
  unfold cl
  rw [er_get]
  split <;> rfl
/-- where b stands when a is gone -/
def un (a b : Nat) : Nat := if b < a then b else b - 1
theorem cl_un (cs : List Nat) {a b : Nat} (h : b ≠ a) : cl (cs.eraseIdx a) (un a b) = cl cs b := by
  rw [cl_er]
  unfold un
  by_cases h1 : b < a
  · rw [if_pos h1, if_pos h1]
  · rw [if_neg h1, if_neg (show ¬ b - 1 < a by omega), show b - 1 + 1 = b by omega]
theorem er_comm (cs : List Nat) {a b : Nat} (h : b ≠ a) : (cs.eraseIdx a).eraseIdx (un a b) = (cs.eraseIdx b).eraseIdx (un b a) := by
  refine List.ext_getElem? fun j => ?_
  rw [er_get, er_get, er_get, er_get, er_get, er_get]
  unfold un
  by_cases h1 : b < a
  · rw [if_pos h1, if_neg (show ¬ a < b by omega)]
    repeat' split
    all_goals first | rfl | omega
  · rw [if_neg h1, if_pos (show a < b by omega)]
    repeat' split
    all_goals first | rfl | omega
theorem er_len {cs : List Nat} {a : Nat} (h : a < cs.length) : (cs.eraseIdx a).length = cs.length - 1 := by
  rw [List.length_eraseIdx, if_pos h]
theorem skip_sum (f : Nat → Int) (a : Nat) : ∀ n, a < n → sm f (n - 1) = sm (fun b => if b = a then 0 else f (un a b)) n
  | n + 1, h => by
    by_cases e : a = n
    · subst e
      rw [sm_succ, if_pos rfl, Int.add_zero]
      exact sm_congr _ fun b hb => by rw [if_neg (by omega)]; unfold un; rw [if_pos (show b < a by omega)]
    · have ih := skip_sum f a n (by omega)
      rw [sm_succ, ← ih, if_neg (by omega)]
      unfold un
      rw [if_neg (by omega)]
      obtain ⟨m, rfl⟩ : ∃ m, n = m + 1 := ⟨n - 1, by omega⟩
      rfl
theorem sm_swap2 (f : Nat → Nat → Int) (N : Nat) : ∀ n, sm (fun m => sm (fun i => f i m) n) N = sm (fun i => sm (fun m => f i m) N) n
  | 0 => by rw [sm]; exact sm_zero _ fun _ _ => rfl
  | n + 1 => by rw [sm_succ, ← sm_swap2 f N n, ← sm_add]; rfl

/-- by the last row -/
theorem dt_last (l : List Int) : ∀ (rs : List (List Int)) (cs : List Nat), cs.length = rs.length + 1 → dt (rs ++ [l]) cs = sm (fun j => sg (rs.length + j) * at' l (cl cs j) * dt rs (cs.eraseIdx j)) cs.length
  | [], cs, h => by
    show sm (fun i => sg i * at' l (cl cs i) * dt [] (cs.eraseIdx i)) cs.length = _
    refine sm_congr _ fun i _ => ?_
    rw [show ([] : List (List Int)).length + i = i by simp]
  | r :: rs, cs, h => by
    have hn : cs.length = rs.length + 2 := by simpa using h
    show sm (fun i => sg i * at' r (cl cs i) * dt (rs ++ [l]) (cs.eraseIdx i)) cs.length = sm (fun j => sg (rs.length + 1 + j) * at' l (cl cs j) * dt (r :: rs) (cs.eraseIdx j)) cs.length
    have e1 : ∀ i, i < cs.length → sg i * at' r (cl cs i) * dt (rs ++ [l]) (cs.eraseIdx i) = sm (fun b => if b = i then 0 else sg i * at' r (cl cs i) * (sg (rs.length + un i b) * at' l (cl cs b) * dt rs ((cs.eraseIdx i).eraseIdx (un i b)))) cs.length := fun i hi => by
      rw [dt_last l rs (cs.eraseIdx i) (by rw [er_len hi]; omega), er_len hi, skip_sum _ i cs.length hi, ← sm_mul]
      refine sm_congr _ fun b _ => ?_
      by_cases hb : b = i
      · rw [if_pos hb, if_pos hb, Int.mul_zero]
      · rw [if_neg hb, if_neg hb, cl_un cs hb]
    have e2 : ∀ j, j < cs.length → sg (rs.length + 1 + j) * at' l (cl cs j) * dt (r :: rs) (cs.eraseIdx j) = sm (fun a => if j = a then 0 else sg (rs.length + 1 + j) * at' l (cl cs j) * (sg (un j a) * at' r (cl cs a) * dt rs ((cs.eraseIdx j).eraseIdx (un j a)))) cs.length := fun j hj => by
      show _ * sm (fun i => sg i * at' r (cl (cs.eraseIdx j) i) * dt rs ((cs.eraseIdx j).eraseIdx i)) (cs.eraseIdx j).length = _
      rw [er_len hj, skip_sum _ j cs.length hj, ← sm_mul]
      refine sm_congr _ fun a _ => ?_
      by_cases ha : a = j
      · rw [if_pos ha, if_pos ha.symm, Int.mul_zero]
      · rw [if_neg ha, if_neg (fun e => ha e.symm), cl_un cs ha]
    rw [sm_congr _ e1, sm_congr _ e2]
    rw [sm_swap2 (fun b i => if b = i then 0 else sg i * at' r (cl cs i) * (sg (rs.length + un i b) * at' l (cl cs b) * dt rs ((cs.eraseIdx i).eraseIdx (un i b)))) cs.length cs.length]
    refine sm_congr _ fun b _ => sm_congr _ fun a _ => ?_
    by_cases hb : b = a
    · rw [if_pos hb, if_pos hb]
    · rw [if_neg hb, if_neg hb, er_comm cs hb]
      have hs : sg a * sg (rs.length + un a b) = sg (rs.length + 1 + b) * sg (un b a) := by
        rw [← sg_add, ← sg_add]
        unfold un
        by_cases h1 : b < a
        · rw [if_pos h1, if_neg (by omega)]
          congr 1; omega
        · rw [if_neg h1, if_pos (by omega), ← sg_two]
          congr 1; omega
      generalize dt rs ((cs.eraseIdx b).eraseIdx (un b a)) = D
      generalize at' r (cl cs a) = X at *
      generalize at' l (cl cs b) = Y at *
      generalize sg a = s1 at *
      generalize sg (rs.length + un a b) = s2 at *
      generalize sg (rs.length + 1 + b) = s3 at *
      generalize sg (un b a) = s4 at *
      grind

/-- the columns of a set -/
def cols (s : Nat) : List Nat := (List.range 8).filter s.testBit
def cnt (s c : Nat) : Nat := ((List.range c).filter s.testBit).length
theorem filter_sum (p : Nat → Bool) (g : Nat → Nat → Int) : ∀ n, sm (fun j => g (cl ((List.range n).filter p) j) j) ((List.range n).filter p).length = sm (fun c => if p c = true then g c ((List.range c).filter p).length else 0) n
  | 0 => rfl
  | n + 1 => by
    rw [List.range_succ, List.filter_append, sm_succ, ← filter_sum p g n]
    cases hp : p n with
    | true =>
      rw [List.filter_cons_of_pos hp, List.filter_nil, List.length_append, if_pos rfl]
      show sm _ (((List.range n).filter p).length + 1) = _
      rw [sm_succ]
      congr 1
      · refine sm_congr _ fun j hj => ?_
        unfold cl
        rw [List.getElem?_append_left hj]
      · unfold cl
        rw [List.getElem?_append_right (Nat.le_refl _), Nat.sub_self]
        rfl
    | false =>
      rw [List.filter_cons_of_neg (by rw [hp]; decide), List.filter_nil, List.append_nil]
      simp
/-- the part of a set: as many rows, the first ones -/
def pt (rows : List (List Int)) (s : Nat) : Int := dt (rows.take (cols s).length) (cols s)
theorem set_facts : ∀ s < 256, ∀ c < 8, s.testBit c = true → (cols s).eraseIdx (cnt s c) = cols (s - 2 ^ c) ∧ (cols (s - 2 ^ c)).length + 1 = (cols s).length ∧ cnt s c < (cols s).length ∧ 2 ^ c ≤ s := by decide +kernel
theorem pt_zero (rows : List (List Int)) : pt rows 0 = 1 := by
  have : cols 0 = [] := by decide
  unfold pt
  rw [this]; rfl
theorem pt_go {rows : List (List Int)} {s k : Nat} (hs : s < 256) (hk : (cols s).length = k + 1) (hr : k < rows.length) :
    pt rows s = sm (fun c => if s.testBit c = true then sg (k + cnt s c) * (at' (rows[k]?.getD []) c * pt rows (s - 2 ^ c)) else 0) 8 := by
  obtain ⟨l, hl⟩ : ∃ l, rows[k]? = some l := ⟨rows[k], List.getElem?_eq_getElem hr⟩
  have e : rows.take (k + 1) = rows.take k ++ [l] := by rw [List.take_add_one, hl]; rfl
  have hlen : (rows.take k).length = k := by rw [List.length_take]; omega
  unfold pt
  rw [hk, e, dt_last l (rows.take k) (cols s) (by rw [hlen, hk]), hlen]
  have := filter_sum s.testBit (fun c j => sg (k + j) * at' l c * dt (rows.take k) ((cols s).eraseIdx j)) 8
  refine this.trans (sm_congr _ fun c hc => ?_)
  by_cases h : s.testBit c = true
  · obtain ⟨f1, f2, f3, f4⟩ := set_facts s hs c hc h
    rw [if_pos h, if_pos h, hl]
    show sg (k + cnt s c) * at' l c * dt (rows.take k) ((cols s).eraseIdx (cnt s c)) = sg (k + cnt s c) * (at' l c * dt (rows.take (cols (s - 2 ^ c)).length) (cols (s - 2 ^ c)))
    rw [f1, show (cols (s - 2 ^ c)).length = k by omega, Int.mul_assoc]
  · rw [if_neg h, if_neg h]

/-- how great a determinant is at most -/
def Rb (T : Int) (rs : List (List Int)) : Prop := ∀ r ∈ rs, ∀ j, -T ≤ at' r j ∧ at' r j ≤ T
theorem sm_bd {f : Nat → Int} {M : Int} : ∀ n : Nat, (∀ i, i < n → -M ≤ f i ∧ f i ≤ M) → -((n : Int) * M) ≤ sm f n ∧ sm f n ≤ (n : Int) * M
  | 0, _ => by simp [sm]
  | n + 1, h => by
    have h1 := sm_bd n fun i hi => h i (by omega)
    have h2 := h n (by omega)
    have e : ((n + 1 : Nat) : Int) * M = (n : Int) * M + M := by rw [show ((n + 1 : Nat) : Int) = (n : Int) + 1 by omega, Int.add_mul, Int.one_mul]
    rw [sm_succ, e]
    omega
theorem term_bd {k : Nat} {x d : Int} {M : Nat} (hx : -20 ≤ x ∧ x ≤ 20) (hd : -(M : Int) ≤ d ∧ d ≤ (M : Int)) : -((20 * M : Nat) : Int) ≤ sg k * x * d ∧ sg k * x * d ≤ ((20 * M : Nat) : Int) := by
  have h := mul_le hx hd
  have e : ((20 * M : Nat) : Int) = 20 * (M : Int) := by omega
  rw [e]
  rcases sg_cases k with h1 | h1 <;> rw [h1]
  · rw [Int.one_mul]; exact h
  · rw [Int.neg_mul, Int.one_mul, Int.neg_mul]; omega
theorem dt_bd : ∀ (rs : List (List Int)) (cs : List Nat), Rb 20 rs → cs.length ≤ 8 → -((160 ^ rs.length : Nat) : Int) ≤ dt rs cs ∧ dt rs cs ≤ ((160 ^ rs.length : Nat) : Int)
  | [], _, _, _ => by simp [dt]
  | r :: rs, cs, hr, hc => by
    have h := sm_bd (f := fun i => sg i * at' r (cl cs i) * dt rs (cs.eraseIdx i)) (M := ((20 * 160 ^ rs.length : Nat) : Int)) cs.length fun i _ =>
      term_bd (hr r (by simp) _) (dt_bd rs (cs.eraseIdx i) (fun q hq => hr q (by simp [hq])) (by have := List.length_eraseIdx_le cs i; omega))
    have h2 : (cs.length : Int) * ((20 * 160 ^ rs.length : Nat) : Int) ≤ ((160 ^ (rs.length + 1) : Nat) : Int) := by
      have h3 : cs.length * (20 * 160 ^ rs.length) ≤ 8 * (20 * 160 ^ rs.length) := Nat.mul_le_mul_right _ hc
      have h4 : 160 ^ (rs.length + 1) = 8 * (20 * 160 ^ rs.length) := by rw [Nat.pow_succ]; omega
      rw [h4]
      exact_mod_cast h3
    show _ ≤ sm _ cs.length ∧ sm _ cs.length ≤ _
    have e : (r :: rs).length = rs.length + 1 := rfl
    rw [e]
    omega
end Go.Pl
