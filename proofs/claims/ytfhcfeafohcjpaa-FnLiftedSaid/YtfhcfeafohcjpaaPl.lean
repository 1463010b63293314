/- Lists of integers as polynomials: validity, zeros behind the last term that is not, sums, products, remainders: what they are and how great they become. No program is spoken of. -/
import Derived.Test.YtfhcfeafohcjpaaRows
import Derived.RowKit
namespace Go.Pl

def Val (L : List Int) : Prop := 1 ≤ L.length ∧ L.length ≤ 17 ∧ (∀ z ∈ L, -1000000 ≤ z ∧ z ≤ 1000000) ∧ (L.length = 1 ∨ L[L.length - 1]? ≠ some 0)
instance (L : List Int) : Decidable (Val L) := by unfold Val; infer_instance
def val (L : List Int) : Bool := decide (Val L)
theorem val_iff {L : List Int} : val L = true ↔ Val L := decide_eq_true_iff
theorem val_no {L : List Int} (h : ¬ Val L) : val L = false := decide_eq_false h
theorem Val.pos {L : List Int} (h : Val L) : 1 ≤ L.length := h.1
theorem Val.le {L : List Int} (h : Val L) : L.length ≤ 17 := h.2.1
theorem Val.get {L : List Int} (h : Val L) {k : Nat} {z : Int} (hk : L[k]? = some z) : -1000000 ≤ z ∧ z ≤ 1000000 := h.2.2.1 z (List.mem_of_getElem? hk)
theorem Val.ne {L : List Int} (h : Val L) : L ≠ [] := by
  intro e
  have := h.1
  rw [e] at this
  simp at this

def inR (lo hi : Int) (L : List Int) : Prop := ∀ z ∈ L, lo ≤ z ∧ z ≤ hi
instance (lo hi : Int) (L : List Int) : Decidable (inR lo hi L) := by unfold inR; infer_instance
theorem inR.get {lo hi : Int} {L : List Int} (h : inR lo hi L) {k : Nat} {z : Int} (hk : L[k]? = some z) : lo ≤ z ∧ z ≤ hi := h z (List.mem_of_getElem? hk)
theorem inR_of {lo hi : Int} {L : List Int} (h : ∀ k z, k < L.length → L[k]? = some z → lo ≤ z ∧ z ≤ hi) : inR lo hi L := by
  intro z hz
  obtain ⟨k, hk⟩ := List.mem_iff_getElem?.1 hz
  exact h k z (List.getElem?_eq_some_iff.1 hk).1 hk
theorem inR_not {lo hi : Int} {L : List Int} {k : Nat} {z : Int} (hk : L[k]? = some z) (h : z < lo ∨ hi < z) : ¬ inR lo hi L := fun h' => by
  have := h'.get hk
  omega
theorem inR.mono {lo hi lo' hi' : Int} {L : List Int} (h : inR lo hi L) (h1 : lo' ≤ lo) (h2 : hi ≤ hi') : inR lo' hi' L := fun z hz => by
  have := h z hz
  omega

theorem get_some (L : List Int) (k : Nat) (h : k < L.length) : ∃ z, L[k]? = some z := ⟨L[k], List.getElem?_eq_getElem h⟩

/-- the element at k, 0 beyond -/
def at' (L : List Int) (k : Nat) : Int := (L[k]?).getD 0
theorem at_get {L : List Int} {k : Nat} {z : Int} (h : L[k]? = some z) : at' L k = z := by simp [at', h]
theorem at_out {L : List Int} {k : Nat} (h : L.length ≤ k) : at' L k = 0 := by simp [at', h]
theorem at_some (L : List Int) (k : Nat) (h : k < L.length) : L[k]? = some (at' L k) := by
  simp [at', List.getElem?_eq_getElem h]
theorem inR.at {lo hi : Int} {L : List Int} (h : inR lo hi L) (h0 : lo ≤ 0) (h1 : 0 ≤ hi) (k : Nat) : lo ≤ at' L k ∧ at' L k ≤ hi := by
  by_cases hk : k < L.length
  · exact h.get (at_some L k hk)
  · rw [at_out (by omega)]; exact ⟨h0, h1⟩

/-- how many terms are left without zeros behind the last one that is not, at least one -/
def tlen (L : List Int) : Nat → Nat
  | 0 => 0
  | 1 => 1
  | n + 2 => if L[n + 1]? = some 0 then tlen L (n + 1) else n + 2
theorem tlen_zero (L : List Int) {n : Nat} (h : 1 < n) (hz : L[n - 1]? = some 0) : tlen L n = tlen L (n - 1) := by
  obtain ⟨m, rfl⟩ : ∃ m, n = m + 2 := ⟨n - 2, by omega⟩
  show tlen L (m + 2) = tlen L (m + 1)
  rw [tlen, if_pos (show L[m + 1]? = some 0 from hz)]
theorem tlen_stop (L : List Int) {n : Nat} (h : 1 < n) (hz : L[n - 1]? ≠ some 0) : tlen L n = n := by
  obtain ⟨m, rfl⟩ : ∃ m, n = m + 2 := ⟨n - 2, by omega⟩
  rw [tlen, if_neg (show ¬ L[m + 1]? = some 0 from hz)]
theorem tlen_small (L : List Int) {n : Nat} (h : n ≤ 1) : tlen L n = n := by
  match n, h with
  | 0, _ => rfl
  | 1, _ => rfl
theorem tlen_le (L : List Int) : ∀ n, tlen L n ≤ n
  | 0 => Nat.le_refl _
  | 1 => Nat.le_refl _
  | n + 2 => by
    rw [tlen]
    split
    · have := tlen_le L (n + 1); omega
    · omega
theorem tlen_pos (L : List Int) : ∀ n, 1 ≤ n → 1 ≤ tlen L n
  | 1, _ => Nat.le_refl _
  | n + 2, _ => by
    rw [tlen]
    split
    · exact tlen_pos L (n + 1) (by omega)
    · omega
theorem tlen_last (L : List Int) : ∀ n, tlen L n ≤ 1 ∨ L[tlen L n - 1]? ≠ some 0
  | 0 => .inl (by rw [tlen]; omega)
  | 1 => .inl (by rw [tlen]; omega)
  | n + 2 => by
    by_cases h : L[n + 1]? = some 0
    · have := tlen_last L (n + 1)
      rw [tlen, if_pos h]; exact this
    · rw [tlen, if_neg h]; exact .inr h

/-- without zeros behind the last term that is not, at least one -/
def trim (L : List Int) : List Int := if L = [] then [0] else L.take (tlen L L.length)
theorem trim_nil : trim [] = [0] := rfl
theorem trim_ne {L : List Int} (h : L ≠ []) : trim L = L.take (tlen L L.length) := if_neg h
theorem len_pos {L : List Int} (h : L ≠ []) : 1 ≤ L.length := by
  cases L with
  | nil => exact absurd rfl h
  | cons a b => simp
theorem trim_len {L : List Int} (h : L ≠ []) : (trim L).length = tlen L L.length := by
  rw [trim_ne h, List.length_take]
  have := tlen_le L L.length
  omega
theorem trim_pos (L : List Int) : 1 ≤ (trim L).length := by
  by_cases h : L = []
  · rw [h]; decide
  · rw [trim_len h]; exact tlen_pos L _ (len_pos h)
theorem trim_get {L : List Int} (h : L ≠ []) {k : Nat} {z : Int} (hk : (trim L)[k]? = some z) : L[k]? = some z := by
  rw [trim_ne h, List.getElem?_take] at hk
  split at hk
  · exact hk
  · cases hk
theorem trim_clean (L : List Int) : (trim L).length = 1 ∨ (trim L)[(trim L).length - 1]? ≠ some 0 := by
  by_cases h : L = []
  · rw [h]; exact .inl rfl
  · have h1 := tlen_last L L.length
    have h2 := tlen_pos L L.length (len_pos h)
    rw [trim_len h]
    rcases h1 with h1 | h1
    · exact .inl (by omega)
    · refine .inr fun h3 => h1 (trim_get h h3)
theorem trim_id {L : List Int} (h : L ≠ []) (hc : L.length = 1 ∨ L[L.length - 1]? ≠ some 0) : trim L = L := by
  have hp := len_pos h
  rw [trim_ne h]
  have : tlen L L.length = L.length := by
    rcases hc with hc | hc
    · exact tlen_small L (by omega)
    · by_cases h1 : L.length ≤ 1
      · exact tlen_small L h1
      · exact tlen_stop L (by omega) hc
  rw [this, List.take_length]
theorem trim_trim (L : List Int) : trim (trim L) = trim L :=
  trim_id (fun e => by have := trim_pos L; rw [e] at this; simp at this) (trim_clean L)
theorem trim_val {L : List Int} (h : Val L) : trim L = L := trim_id h.ne h.2.2.2

/-- the whole of these terms, if it is valid -/
def gv (L : List Int) : List Int := if val (trim L) = true then trim L else []
theorem gv_yes {L : List Int} (h : val (trim L) = true) : gv L = trim L := if_pos h
theorem gv_no {L : List Int} (h : val (trim L) = false) : gv L = [] := if_neg (by rw [h]; decide)
theorem gv_len (L : List Int) : (gv L).length ≤ 17 := by
  unfold gv
  split
  · rename_i h; exact (val_iff.1 h).le
  · simp
theorem gv_trim (L : List Int) : gv (trim L) = gv L := by unfold gv; rw [trim_trim]

/-- x times a plus y times b -/
def weigh (a b : List Int) (x y : Int) : List Int := (List.range (max a.length b.length)).map fun k => x * at' a k + y * at' b k
theorem weigh_len (a b : List Int) (x y : Int) : (weigh a b x y).length = max a.length b.length := by simp [weigh]
theorem weigh_get (a b : List Int) (x y : Int) {k : Nat} (h : k < max a.length b.length) : (weigh a b x y)[k]? = some (x * at' a k + y * at' b k) := by simp [weigh, h]

theorem mul_le {a b A B : Int} (h1 : -A ≤ a ∧ a ≤ A) (h2 : -B ≤ b ∧ b ≤ B) : -(A * B) ≤ a * b ∧ a * b ≤ A * B := by
  have hA : 0 ≤ A := by omega
  have hB : 0 ≤ B := by omega
  have e1 : 0 ≤ (A - a) * (B + b) := Int.mul_nonneg (by omega) (by omega)
  have e2 : 0 ≤ (A + a) * (B - b) := Int.mul_nonneg (by omega) (by omega)
  have e3 : 0 ≤ (A - a) * (B - b) := Int.mul_nonneg (by omega) (by omega)
  have e4 : 0 ≤ (A + a) * (B + b) := Int.mul_nonneg (by omega) (by omega)
  simp only [Int.sub_mul, Int.mul_add, Int.add_mul, Int.mul_sub] at e1 e2 e3 e4
  constructor <;> omega

/-- one row of a product -/
def mrow (x : Int) (b : List Int) (i : Nat) (P : List Int) : Nat → List Int
  | 0 => P
  | k + 1 => (mrow x b i P k).set (i + k) (at' (mrow x b i P k) (i + k) + x * at' b k)
/-- the first rows of a product -/
def mrows (a b P : List Int) : Nat → List Int
  | 0 => P
  | i + 1 => mrow (at' a i) b i (mrows a b P i) b.length
/-- the product -/
def prod (a b : List Int) : List Int := mrows a b (List.replicate (a.length + b.length - 1) 0) a.length
theorem mrow_len (x : Int) (b : List Int) (i : Nat) (P : List Int) : ∀ k, (mrow x b i P k).length = P.length
  | 0 => rfl
  | k + 1 => by rw [mrow, List.length_set, mrow_len x b i P k]
theorem mrows_len (a b P : List Int) : ∀ i, (mrows a b P i).length = P.length
  | 0 => rfl
  | i + 1 => by rw [mrows, mrow_len, mrows_len a b P i]
theorem prod_len (a b : List Int) : (prod a b).length = a.length + b.length - 1 := by rw [prod, mrows_len]; simp

theorem prod_ne {a b : List Int} (ha : 1 ≤ a.length) (hb : 1 ≤ b.length) : prod a b ≠ [] := fun e => by
  have h := prod_len a b
  rw [e] at h
  simp at h
  omega
theorem val_prod {a b : List Int} (ha : Val a) (hb : Val b) (i k : Nat) : -1000000000000 ≤ at' a i * at' b k ∧ at' a i * at' b k ≤ 1000000000000 := by
  have h1 : inR (-1000000) 1000000 a := ha.2.2.1
  have h2 : inR (-1000000) 1000000 b := hb.2.2.1
  have := mul_le (h1.at (by omega) (by omega) i) (h2.at (by omega) (by omega) k)
  omega
theorem inR_set {lo hi : Int} {L : List Int} {k : Nat} {z : Int} (h : inR lo hi L) (hz : lo ≤ z ∧ z ≤ hi) : inR lo hi (L.set k z) := by
  intro y hy
  rcases List.mem_or_eq_of_mem_set hy with h1 | h1
  · exact h y h1
  · rw [h1]; exact hz
theorem mrow_bd {x : Int} {b P : List Int} {i : Nat} {T M : Int} (hT : 0 ≤ T) (hM : 0 ≤ M) (hP : inR (-T) T P) (hx : ∀ k, -M ≤ x * at' b k ∧ x * at' b k ≤ M) : ∀ k : Nat, inR (-(T + k * M)) (T + k * M) (mrow x b i P k)
  | 0 => by simpa [mrow] using hP
  | k + 1 => by
    have h := mrow_bd (i := i) hT hM hP hx k
    have hk : 0 ≤ (k : Int) * M := Int.mul_nonneg (by omega) hM
    have e : ((k + 1 : Nat) : Int) * M = k * M + M := by rw [Int.natCast_succ, Int.add_mul, Int.one_mul]
    have h2 := h.at (by omega) (by omega) (i + k)
    have h3 := hx k
    rw [mrow, e]
    refine inR_set (h.mono (by omega) (by omega)) ⟨by omega, by omega⟩
theorem mrows_bd {a b P : List Int} {T M : Int} {m : Nat} (hm : b.length ≤ m) (hT : 0 ≤ T) (hM : 0 ≤ M) (hP : inR (-T) T P) (hx : ∀ i k, -M ≤ at' a i * at' b k ∧ at' a i * at' b k ≤ M) : ∀ i : Nat, inR (-(T + i * (m * M))) (T + i * (m * M)) (mrows a b P i)
  | 0 => by simpa [mrows] using hP
  | i + 1 => by
    have h := mrows_bd hm hT hM hP hx i
    have hmM : 0 ≤ (m : Int) * M := Int.mul_nonneg (by omega) hM
    have hi : 0 ≤ (i : Int) * (m * M) := Int.mul_nonneg (by omega) hmM
    have e : ((i + 1 : Nat) : Int) * (m * M) = i * (m * M) + m * M := by rw [Int.natCast_succ, Int.add_mul, Int.one_mul]
    have h2 := mrow_bd (i := i) (b := b) (x := at' a i) (by omega) hM h (hx i) b.length
    have h3 : (b.length : Int) * M ≤ m * M := Int.mul_le_mul_of_nonneg_right (by omega) hM
    rw [mrows, e]
    exact h2.mono (by omega) (by omega)

/-- the remainder as the program reckons it -/
def md (x p : Int) : Int := Int.tmod (Int.tmod x p + p) p
def mods (L : List Int) (p : Int) : List Int := L.map fun z => md z p
theorem mods_len (L : List Int) (p : Int) : (mods L p).length = L.length := by simp [mods]
theorem mods_get {L : List Int} {p : Int} {k : Nat} {z : Int} (h : L[k]? = some z) : (mods L p)[k]? = some (md z p) := by simp [mods, h]
theorem md_range (x : Int) {p : Int} (hp : 0 < p) : 0 ≤ md x p ∧ md x p < p := by
  unfold md
  have h1 : 0 ≤ Int.tmod x p + p := by
    have := Int.lt_tmod_of_pos x hp
    omega
  constructor
  · exact Int.tmod_nonneg _ h1
  · exact Int.tmod_lt_of_pos _ hp
theorem tm_range (x : Int) {p : Int} (hp : 0 < p) : -p < Int.tmod x p ∧ Int.tmod x p < p := ⟨Int.lt_tmod_of_pos x hp, Int.tmod_lt_of_pos x hp⟩
end Go.Pl
