/- The journal of lines. -/
import Derived.Test.YtdeoemeibbkdoaaDoorCheckOfW
import Derived.Test.YtdeoemeibbkdoaaDoorRdP
import Derived.Test.YtdeoemeibbkdoaaDoorSlsW
namespace Go.Proofs.YtdeoemeibbkdoaaDoor.jn
open Go.RowKit Go.Lib Go.Rd Go.Proofs.YtdeoemeibbkdoaaDoor.fnExactCheckOfW Go.Proofs.YtdeoemeibbkdoaaDoor.sls

/-- the line of the journal -/
def ent (n : Int) (s : ByteArray) : List UInt8 := itoa (chk n s.data.toList) ++ 32 :: (s.data.toList ++ [10])
/-- the check number of line k's predecessor -/
def cks (f : Nat → ByteArray) : Nat → Int
  | 0 => 0
  | k + 1 => chk (cks f k) (f k).data.toList
def jr (f : Nat → ByteArray) : Nat → List UInt8
  | 0 => []
  | k + 1 => jr f k ++ ent (cks f k) (f k)
theorem cks_bd (f : Nat → ByteArray) : ∀ k, 0 ≤ cks f k ∧ cks f k ≤ 65002
  | 0 => by simp [cks]
  | k + 1 => chk_bd _ _ (cks_bd f k).1 (cks_bd f k).2
theorem ent_len (f : Nat → ByteArray) (k : Nat) : (f k).size + 3 ≤ (ent (cks f k) (f k)).length ∧ (ent (cks f k) (f k)).length ≤ (f k).size + 19 := by
  have h := cks_bd f (k + 1)
  have h2 := itoa_len (cks f (k + 1)) (by omega) (by omega)
  have e : ent (cks f k) (f k) = itoa (cks f (k + 1)) ++ 32 :: ((f k).data.toList ++ [10]) := rfl
  rw [e]
  simp only [List.length_append, List.length_cons, List.length_nil, Array.length_toList, ByteArray.size_data]
  omega
theorem jr_succ (f : Nat → ByteArray) (k : Nat) : (jr f (k + 1)).length = (jr f k).length + (ent (cks f k) (f k)).length := by
  show (jr f k ++ _).length = _
  rw [List.length_append]
theorem jr_mono (f : Nat → ByteArray) (a : Nat) : ∀ d, (jr f a).length ≤ (jr f (a + d)).length
  | 0 => Nat.le_refl _
  | d + 1 => by
    have := jr_mono f a d
    rw [← Nat.add_assoc, jr_succ]
    omega
theorem jr_up (f : Nat → ByteArray) (a b : Nat) (h : a ≤ b) : (jr f a).length ≤ (jr f b).length := by
  obtain ⟨d, rfl⟩ := Nat.le.dest h
  exact jr_mono f a d
/-- the least that the journal can have -/
def low (f : Nat → ByteArray) : Nat → Nat
  | 0 => 0
  | k + 1 => low f k + (f k).size + 3
theorem low_le (f : Nat → ByteArray) : ∀ k, low f k ≤ (jr f k).length
  | 0 => by simp [low]
  | k + 1 => by
    have h1 := low_le f k
    have h2 := (ent_len f k).1
    rw [jr_succ]
    show low f k + (f k).size + 3 ≤ _
    omega
theorem jr_le (f : Nat → ByteArray) : ∀ k, (jr f k).length ≤ 19 * low f k
  | 0 => by simp [jr]
  | k + 1 => by
    have h1 := jr_le f k
    have h2 := (ent_len f k).2
    rw [jr_succ]
    show _ ≤ 19 * (low f k + (f k).size + 3)
    omega
theorem low_up (f : Nat → ByteArray) (a : Nat) : ∀ d, low f a ≤ low f (a + d)
  | 0 => Nat.le_refl _
  | d + 1 => by
    have := low_up f a d
    show _ ≤ low f (a + d) + _ + 3
    omega
/-- no newline -/
def one (s : ByteArray) : Bool := s.data.toList.all fun c => c != 10
def okb (n : Nat) (f : Nat → ByteArray) : Bool := ((List.range n).all fun k => one (f k)) && decide ((jr f n).length ≤ 16000)
def z (n : Nat) (f : Nat → ByteArray) : ByteArray := if okb n f then ⟨(jr f n).toArray⟩ else ⟨#[]⟩
theorem one_yes {s : ByteArray} (h : ∀ i (h : i < s.size), s[i].toNat ≠ 10) : one s = true := by
  unfold one
  rw [List.all_eq_true]
  intro c hc
  obtain ⟨i, hi, rfl⟩ := List.getElem_of_mem hc
  have hi' : i < s.size := by simpa using hi
  have := h i hi'
  simp only [bne_iff_ne, ne_eq]
  intro e
  exact this (by show (s.data.toList[i]).toNat = 10; rw [e]; rfl)
theorem one_no {s : ByteArray} {i : Nat} (hi : i < s.size) (h : s[i].toNat = 10) : one s = false := by
  unfold one
  rw [List.all_eq_false]
  refine ⟨s[i], ?_, ?_⟩
  · exact List.getElem_mem (l := s.data.toList) (by simpa using hi)
  · have : s[i] = 10 := UInt8.toNat_inj.1 (by rw [h]; rfl)
    rw [this]; decide
theorem yes {n : Nat} {f : Nat → ByteArray} (h : ∀ k, k < n → one (f k) = true) (hl : (jr f n).length ≤ 16000) : z n f = ⟨(jr f n).toArray⟩ ∧ okb n f = true := by
  have : okb n f = true := by
    unfold okb
    rw [decide_eq_true hl, Bool.and_true, List.all_eq_true]
    intro k hk
    exact h k (List.mem_range.1 hk)
  exact ⟨if_pos this, this⟩
theorem no_line {n k : Nat} {f : Nat → ByteArray} (hk : k < n) (h : one (f k) = false) : z n f = ⟨#[]⟩ ∧ okb n f = false := by
  have : okb n f = false := by
    unfold okb
    rw [Bool.and_eq_false_iff]
    exact .inl (List.all_eq_false.2 ⟨k, List.mem_range.2 hk, by rw [h]; decide⟩)
  exact ⟨by unfold z; rw [this]; rfl, this⟩
theorem no_long {n k : Nat} {f : Nat → ByteArray} (hk : k ≤ n) (h : 16000 < (jr f k).length) : z n f = ⟨#[]⟩ ∧ okb n f = false := by
  have h1 := jr_up f k n hk
  have : okb n f = false := by
    unfold okb
    rw [decide_eq_false (by omega), Bool.and_false]
  exact ⟨by unfold z; rw [this]; rfl, this⟩
theorem no_low {n k : Nat} {f : Nat → ByteArray} (hk : k ≤ n) (h : 16000 < low f k) : z n f = ⟨#[]⟩ ∧ okb n f = false := no_long hk (by have := low_le f k; omega)
theorem cat (f : Nat → ByteArray) (k : Nat) : (⟨(jr f k).toArray⟩ : ByteArray) ++ (((⟨(itoa (cks f (k + 1))).toArray⟩ : ByteArray) ++ ⟨#[32]⟩ ++ f k) ++ ⟨#[10]⟩) = ⟨(jr f (k + 1)).toArray⟩ := by
  apply ByteArray.ext
  show _ = (jr f k ++ ent (cks f k) (f k)).toArray
  simp [ent, cks, ByteArray.data_append]
end Go.Proofs.YtdeoemeibbkdoaaDoor.jn
