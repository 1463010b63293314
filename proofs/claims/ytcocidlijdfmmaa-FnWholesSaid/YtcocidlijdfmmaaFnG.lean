/- Greatest common divisors of integers, contents: both sides. -/
import Derived.Test.YtcocidlijdfmmaaFnC
import Derived.IntWalk
namespace Go.Pl
theorem gcd_step (a b : Int) : Int.gcd b (Int.tmod a b) = Int.gcd a b := by
  show Nat.gcd b.natAbs (Int.tmod a b).natAbs = Nat.gcd a.natAbs b.natAbs
  rw [Int.natAbs_tmod, Nat.gcd_comm b.natAbs, ← Nat.gcd_rec, Nat.gcd_comm]
theorem gcd_stop (a : Int) : ((Int.gcd a 0 : Nat) : Int) = max a (-a) := by
  show ((Nat.gcd a.natAbs 0 : Nat) : Int) = _
  rw [Nat.gcd_zero_right]
  omega
theorem gcd_neg_l (a b : Int) : Int.gcd (-a) b = Int.gcd a b := Int.neg_gcd
theorem gcd_neg_r (a b : Int) : Int.gcd a (-b) = Int.gcd a b := Int.gcd_neg
theorem gcd_le (a b : Int) (M : Int) (ha : -M ≤ a ∧ a ≤ M) (hb : -M ≤ b ∧ b ≤ M) : ((Int.gcd a b : Nat) : Int) ≤ M := by
  by_cases h0 : a = 0
  · subst h0
    have : Int.gcd 0 b = b.natAbs := Int.gcd_zero_left b
    omega
  · have h1 : Nat.gcd a.natAbs b.natAbs ≤ a.natAbs := Nat.gcd_le_left _ (by omega)
    have h2 : Int.gcd a b = Nat.gcd a.natAbs b.natAbs := rfl
    omega
/-- what divides the first terms -/
def cont (L : List Int) : Nat → Int
  | 0 => 0
  | k + 1 => ((Int.gcd (cont L k) (at' L k) : Nat) : Int)
def content (L : List Int) : Int := cont L L.length
theorem cont_bd {L : List Int} {M : Int} (hM : 0 ≤ M) (h : inR (-M) M L) : ∀ k, 0 ≤ cont L k ∧ cont L k ≤ M
  | 0 => ⟨by simp [cont], by simpa [cont] using hM⟩
  | k + 1 => by
    have h1 := cont_bd hM h k
    have h2 := h.at (by omega) hM k
    exact ⟨by simp [cont], gcd_le _ _ _ ⟨by omega, h1.2⟩ h2⟩
end Go.Pl
namespace Go.Proofs.Ytcocidlijdfmmaa.wh
open Go.RowKit Go.Pl

theorem zero1_any (n : Int) (w : World) : Calls Try.prog 44 #[.int .i64 n] w fun e w' => e = .returned (.bool (n == 0)) ∧ w' = w := by
  go_enter Try.func44, Try.ntmps44
  go_wp2
  go_ret
  exact ⟨rfl, rfl⟩
theorem rest2_any (a b : Int) (hb : b ≠ 0) (hr : -1000000000000 ≤ Int.tmod a b ∧ Int.tmod a b ≤ 1000000000000) (w : World) : Calls Try.prog 45 #[.int .i64 a, .int .i64 b] w fun e w' => e = .returned (.tuple #[.int .i64 (Int.tmod a b), .bool true]) ∧ w' = w := by
  have hbb : (b == 0) = false := by rw [beq_eq_false_iff_ne]; exact hb
  have hw : IntKind.i64.wrap (Int.tmod a b) = Int.tmod a b := IntWalk.i64_in _ (by omega)
  clear hr
  go_enter Try.func45, Try.ntmps45
  go_wp2
  go_ret2
  exact ⟨rfl, rfl⟩

set_option maxRecDepth 100000 in
theorem gc_any (a b : Int) (ha : -1000000000000 ≤ a ∧ a ≤ 1000000000000) (hb : -1000000000000 ≤ b ∧ b ≤ 1000000000000) (w : World) :
    Calls Try.prog 46 #[.int .i64 a, .int .i64 b, .func (.func 44) #[] #[], .func (.func 45) #[] #[]] w
      fun e w' => ∃ c : Int, Hid (max c (-c) = ((Int.gcd a b : Nat) : Int) ∧ -1000000000000 ≤ c ∧ c ≤ 1000000000000) ∧ e = .returned (.tuple #[.int .i64 c, .bool true]) ∧ w' = w := by
  obtain ⟨g, hg⟩ : ∃ g, g = Int.gcd a b := ⟨_, rfl⟩
  have HG : Hid (Int.gcd a b = g) := hg.symm
  rw [← hg]
  clear hg
  go_enter Try.func46, Try.ntmps46
  go_wp2_with fail
  go_loop [0, 1] (fun p q => ∃ (x y : Int), p = .int .i64 x ∧ q = .int .i64 y ∧ Hid (-1000000000000 ≤ x ∧ x ≤ 1000000000000 ∧ -1000000000000 ≤ y ∧ y ≤ 1000000000000) ∧ Hid (Int.gcd x y = g)) (fun _ q => (intOf q).natAbs)
  case atStart => exact ⟨_, _, rfl, rfl, ⟨ha.1, ha.2, hb.1, hb.2⟩, HG⟩
  case round =>
    obtain ⟨x, y, rfl, rfl, hxy, hgc⟩ := hrel
    clear ha hb
    by_cases hy : y = 0
    · subst hy
      have HF : Hid (max x (-x) = ((g : Nat) : Int) ∧ -1000000000000 ≤ x ∧ x ≤ 1000000000000) := ⟨by rw [← hgc.out, gcd_stop], hxy.out.1, hxy.out.2.1⟩
      go_wp2_with fail
      refine (zero1_any 0 w).mono ?_
      rintro e w1 ⟨rfl, hw1⟩
      rw [hw1]
      clear hw1
      go_wp2_with fail
      go_ret2
      exact ⟨_, HF, rfl, rfl⟩
    · have hyb : (y == 0) = false := by rw [beq_eq_false_iff_ne]; exact hy
      have hlt : (Int.tmod x y).natAbs < y.natAbs := by rw [Int.natAbs_tmod]; exact Nat.mod_lt _ (by omega)
      have HL : Hid ((Int.tmod x y).natAbs < y.natAbs) := hlt
      have HB : Hid (-1000000000000 ≤ y ∧ y ≤ 1000000000000 ∧ -1000000000000 ≤ Int.tmod x y ∧ Int.tmod x y ≤ 1000000000000) := by
        have := hxy.out
        exact ⟨this.2.2.1, this.2.2.2, by omega, by omega⟩
      have HS : Hid (Int.gcd y (Int.tmod x y) = g) := by show _ = g; rw [gcd_step]; exact hgc.out
      have HY : Hid (y ≠ 0) := hy
      clear hlt hy
      go_wp2_with fail
      refine (zero1_any y w).mono ?_
      rintro e w1 ⟨rfl, hw1⟩
      rw [hw1, hyb]
      clear hw1
      go_wp2_with fail
      refine (rest2_any x y HY.out HB.out.2.2 w).mono ?_
      rintro e w1 ⟨rfl, hw1⟩
      rw [hw1]
      clear hw1
      generalize Int.tmod x y = r at *
      go_wp2_with fail
      go_round
      case rel => exact ⟨_, _, rfl, rfl, HB, HS⟩
      case measure => have := HL.out; simp [intOf]; omega

set_option maxRecDepth 100000 in
theorem icom_any (a b : Int) (ha : -1000000000000 ≤ a ∧ a ≤ 1000000000000) (hb : -1000000000000 ≤ b ∧ b ≤ 1000000000000) (w : World) :
    Calls Try.prog 42 #[.int .i64 a, .int .i64 b] w fun e w' => e = .returned (.int .i64 ((Int.gcd a b : Nat) : Int)) ∧ w' = w := by
  have HC := gc_any a b ha hb w
  go_enter Try.func42, Try.ntmps42
  go_wp2_with fail
  refine HC.mono ?_
  rintro e w1 ⟨c, hc, rfl, hw1⟩
  rw [hw1]
  clear hw1 HC ha hb
  have hcb := hc.out.2
  by_cases hs : c < 0
  · have HV : Hid (((Int.gcd a b : Nat) : Int) = -c) := by (have := hc.out.1; show _ = _; omega)
    have hmx : max c (-c) = -c := by omega
    clear hc
    go_wp2_with fail
    go_ret
    exact ⟨by rw [HV.out]; first | rfl | (simp; omega), rfl⟩
  · have HV : Hid (((Int.gcd a b : Nat) : Int) = c) := by (have := hc.out.1; show _ = _; omega)
    have hmx : max c (-c) = c := by omega
    clear hc
    go_wp2_with fail
    go_ret
    exact ⟨by rw [HV.out]; first | rfl | (simp; omega), rfl⟩

set_option maxRecDepth 100000 in
theorem icont_any {v : Value} {L : List Int} {w : World} (h : Ls w v L) (hr : inR (-1000000) 1000000 L) :
    Calls Try.prog 32 #[v] w fun e w' => e = .returned (.int .i64 (content L)) ∧ w' = w := by
  obtain ⟨ao, cap, rfl, hn, hcap, hc⟩ := h
  have hc' : Hid (L.length ≠ 0 → ∃ b off, ao = some ⟨b, off, none⟩ ∧ b < w.heap.size ∧ ∀ (k : Nat) (z : Int), L[k]? = some z → w.cell? ⟨b, off + k, none⟩ = some (.int .i64 z)) := hc
  clear hc
  have HR : Hid (inR (-1000000) 1000000 L) := hr
  clear hr
  obtain ⟨n, hnn⟩ : ∃ n, n = L.length := ⟨_, rfl⟩
  have HC : Hid (content L = cont L n) := by show _ = _; rw [hnn]; rfl
  rw [← hnn] at hn hcap hc'
  simp only [← hnn]
  have HN : Hid (n = L.length) := hnn
  clear hnn
  go_enter Try.func32, Try.ntmps32
  go_wp2_with fail
  go_loop [3, 8] (fun c i => ∃ (k : Nat), k ≤ n ∧ i = .int .i64 k ∧ c = .int .i64 (cont L k)) (fun _ i => n - (intOf i).toNat)
  case atStart => exact ⟨0, by omega, rfl, rfl⟩
  case round =>
    obtain ⟨k, hk, rfl, rfl⟩ := hrel
    by_cases hlt : k < n
    · obtain ⟨b, off, rfl, _, hcell⟩ := hc'.out (by omega)
      have e1 := hcell k _ (at_some L k (by have := HN.out; omega))
      clear hcell
      have h1 := cont_bd (by omega) HR.out k
      have h2 := HR.out.at (by omega) (by omega) k
      have hcall := icom_any (cont L k) (at' L k) (by omega) (by omega) w
      have hs : Hid (((Int.gcd (cont L k) (at' L k) : Nat) : Int) = cont L (k + 1)) := rfl
      rw [hs.out] at hcall
      clear h1 h2
      generalize at' L k = y at *
      obtain ⟨d, hd⟩ : ∃ d, d = cont L (k + 1) := ⟨_, rfl⟩
      have HD : Hid (Value.int .i64 d = .int .i64 (cont L (k + 1))) := by rw [hd]; rfl
      rw [← hd] at hcall hs
      clear hd hs
      generalize cont L k = c at *
      go_wp2_with fail
      refine hcall.mono ?_
      rintro e w1 ⟨rfl, hw1⟩
      rw [hw1]
      clear hw1 hcall
      go_wp2_with fail
      go_round
      case rel => exact ⟨k + 1, by omega, by go_num, HD⟩
      case measure => simp [intOf]; omega
    · obtain rfl : k = n := by omega
      go_wp2_with fail
      go_ret
      exact ⟨by rw [HC.out]; rfl, rfl⟩
end Go.Proofs.Ytcocidlijdfmmaa.wh
