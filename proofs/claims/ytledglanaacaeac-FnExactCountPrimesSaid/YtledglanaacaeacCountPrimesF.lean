/- CountPrimes: what both sides answer. -/
import Derived.Test.YtledglanaacaeacFnD
import Derived.Test.YtledglanaacaeacFnP
namespace Go.Pl
def pw (p : Int) : Nat → Int
  | 0 => 1
  | k + 1 => pw p k * p
def N1 (p : Int) : Int := Int.tdiv p 1
def N2 (p : Int) : Int := Int.tdiv (p * p - N1 p) 2
def N3 (p : Int) : Int := Int.tdiv (p * p * p - N1 p) 3
def N4 (p : Int) : Int := Int.tdiv (p * p * p * p - N1 p - 2 * N2 p) 4
def N5 (p : Int) : Int := Int.tdiv (p * p * p * p * p - N1 p) 5
def N6 (p : Int) : Int := Int.tdiv (p * p * p * p * p * p - N1 p - 2 * N2 p - 3 * N3 p) 6
def np (p : Int) (n : Nat) : Int := match n with
  | 1 => N1 p
  | 2 => N2 p
  | 3 => N3 p
  | 4 => N4 p
  | 5 => N5 p
  | 6 => N6 p
  | _ => 0
/-- what is left of p^n behind the first j divisors -/
def ci (p : Int) (n : Nat) : Nat → Int
  | 0 => pw p n
  | j + 1 => if at' (divs n n) j < n then ci p n j - at' (divs n n) j * np p (at' (divs n n) j).toNat else ci p n j
/-- what is left of p^n behind the numbers to j -/
def cs (p : Int) (n : Nat) : Nat → Int
  | 0 => pw p n
  | j + 1 => if n % (j + 1) = 0 then cs p n j - ((j : Int) + 1) * np p (j + 1) else cs p n j
def ps : List Int := [2, 3, 5, 7, 11, 13]
theorem isP_mem {p : Int} (h : isP p = true) : p ∈ ps := by
  unfold isP at h
  rw [decide_eq_true_iff] at h
  simp [ps]
  omega
theorem all_i : ∀ p ∈ ps, ∀ n < 7, 1 ≤ n → np p n = Int.tdiv (ci p n (divs n n).length) n ∧ (∀ j < 7, -100000000 ≤ ci p n j ∧ ci p n j ≤ 100000000) ∧ (∀ j < (divs n n).length, 1 ≤ at' (divs n n) j ∧ at' (divs n n) j ≤ n) := by decide +kernel
theorem all_s : ∀ p ∈ ps, ∀ n < 7, 1 ≤ n → np p n = Int.tdiv (cs p n (n - 1)) n ∧ (∀ j < 7, -100000000 ≤ cs p n j ∧ cs p n j ≤ 100000000) := by decide +kernel
theorem all_n : ∀ p ∈ ps, ∀ n < 7, (0 ≤ np p n ∧ np p n ≤ 10000000) ∧ 0 ≤ pw p n ∧ pw p n ≤ 10000000 ∧ (divs n n).length < 7 := by decide +kernel
end Go.Pl
namespace Go.Proofs.Ytledglanaacaeac.fCountPrimes
open Go.RowKit Go.Pl Go.Proofs.Ytledglanaacaeac.wh

set_option maxRecDepth 100000 in
set_option maxHeartbeats 3200000 in
theorem cp_any (p : Int) (hp : p ∈ ps) : ∀ n : Nat, 1 ≤ n → n < 7 → ∀ w : World, Calls Try.prog 59 #[.int .i64 n, .int .i64 p] w fun e w' => e = .returned (.int .i64 (np p n)) ∧ Below w.heap.size w w' := by
  intro n
  induction n using Nat.strongRecOn with
  | ind n ih =>
  intro h1 h7 w
  have HA : Hid (∀ k < 7, (0 ≤ np p k ∧ np p k ≤ 10000000) ∧ 0 ≤ pw p k ∧ pw p k ≤ 10000000 ∧ (divs k k).length < 7) := all_n p hp
  obtain ⟨i1, i2, i3⟩ := all_i p hp n h7 h1
  have I1 : Hid (np p n = Int.tdiv (ci p n (divs n n).length) n) := i1
  have I2 : Hid (∀ j < 7, -100000000 ≤ ci p n j ∧ ci p n j ≤ 100000000) := i2
  have I3 : Hid (∀ j < (divs n n).length, 1 ≤ at' (divs n n) j ∧ at' (divs n n) j ≤ n) := i3
  have IH : Hid (∀ m < n, 1 ≤ m → m < 7 → ∀ w : World, Calls Try.prog 59 #[.int .i64 m, .int .i64 p] w fun e w' => e = .returned (.int .i64 (np p m)) ∧ Below w.heap.size w w') := ih
  have HD := divs_any n h1 (by omega) w
  have hD7 : (divs n n).length < 7 := ((HA.out n h7).2).2.2
  obtain ⟨D, hDD⟩ : ∃ D, D = divs n n := ⟨_, rfl⟩
  rw [← hDD] at HD I1 I3 hD7
  have HC : Hid (∀ j, ci p n (j + 1) = if at' D j < n then ci p n j - at' D j * np p (at' D j).toNat else ci p n j) := fun j => by rw [hDD]; rfl
  clear i1 i2 i3 ih hp hDD
  go_enter Try.func59, Try.ntmps59
  go_wp2_with fail
  go_loop [5, 9] (fun c t => ∃ (k : Nat), k ≤ n ∧ t = .int .i64 k ∧ c = .int .i64 (pw p k)) (fun _ t => n - (intOf t).toNat)
  case atStart => exact ⟨0, by omega, rfl, rfl⟩
  case round =>
    obtain ⟨k, hk, rfl, rfl⟩ := hrel
    by_cases hlt : k < n
    · have hb := (HA.out (k + 1) (by omega)).2
      obtain ⟨y, hy⟩ : ∃ y, y = pw p (k + 1) := ⟨_, rfl⟩
      have HY : Hid (Value.int .i64 y = .int .i64 (pw p (k + 1))) := by rw [hy]; rfl
      have hxy : pw p k * p = y := by rw [hy]; rfl
      rw [← hy] at hb
      have w1 : IntKind.i64.wrap y = y := IntWalk.i64_in _ (by omega)
      have w2 : wrap64 y = y := IntWalk.wrap64_in _ (by omega)
      clear hy hb HD
      generalize pw p k = x at *
      go_wp2_with fail
      go_round
      case rel => exact ⟨k + 1, by omega, by go_num, HY⟩
      case measure => simp [intOf]; omega
    · obtain rfl : n = k := by omega
      go_wp2_with fail
      refine HD.mono ?_
      rintro e w1 ⟨v1, rfl, o, b⟩
      obtain ⟨ao, cap, rfl⟩ := o.shape
      have LD : Hid (Ls w1 (.slice ao D.length cap) D) := o.ls (Nat.le_refl _)
      have B1 : Hid (Below w.heap.size w w1) := b
      obtain ⟨_, hcap, hcc⟩ := LD.out.use
      have HCC : Hid (D.length ≠ 0 → ∃ b off, ao = some ⟨b, off, none⟩ ∧ b < w1.heap.size ∧ ∀ (k : Nat) (z : Int), D[k]? = some z → w1.cell? ⟨b, off + k, none⟩ = some (.int .i64 z)) := hcc
      clear o b HD hcc
      obtain ⟨q, hq⟩ : ∃ q, q = D.length := ⟨_, rfl⟩
      rw [← hq] at hcap hD7 HCC I1 I3 LD
      simp only [← hq]
      have HQ : Hid (q = D.length) := hq
      clear hq
      go_wp2_with fail
      go_loopw [5, 18] (fun c t wr => ∃ (j : Nat), j ≤ q ∧ t = .int .i64 j ∧ c = .int .i64 (ci p n j) ∧ Hid (Below w1.heap.size w1 wr)) (fun _ t _ => q - (intOf t).toNat)
      case atStart => exact ⟨0, by omega, rfl, rfl, Below.refl _ _⟩
      case round =>
        obtain ⟨j, hj, rfl, rfl, hb⟩ := hrel
        by_cases hltj : j < q
        · obtain ⟨b, off, rfl, hbl, hcell⟩ := HCC.out (by omega)
          have e1 : wr.cell? ⟨b, off + j, none⟩ = some (.int .i64 (at' D j)) := (hb.out.cell (p := ⟨b, off + j, none⟩) hbl).trans (hcell j _ (at_some D j (by have := HQ.out; omega)))
          have h3 := I3.out j hltj
          obtain ⟨d, hd⟩ : ∃ d : Nat, at' D j = (d : Int) := ⟨(at' D j).toNat, by omega⟩
          have hcs := HC.out j
          rw [hd] at e1 h3 hcs
          have hbd := I2.out (j + 1) (by omega)
          clear hcell hbl
          by_cases hdn : d < n
          · rw [if_pos (by omega), Int.toNat_natCast] at hcs
            have hnp := (HA.out d (by omega)).1
            have hcall := IH.out d hdn (by omega) (by omega) wr
            have hpr := mul_le (A := 6) (B := 10000000) (a := (d : Int)) (b := np p d) (by omega) (by omega)
            obtain ⟨y, hy⟩ : ∃ y, y = ci p n (j + 1) := ⟨_, rfl⟩
            have HY : Hid (Value.int .i64 y = .int .i64 (ci p n (j + 1))) := by rw [hy]; rfl
            rw [← hy] at hcs hbd
            clear hy hd
            generalize np p d = z at *
            generalize ci p n j = x at *
            have w1' : IntKind.i64.wrap ((d : Int) * z) = (d : Int) * z := IntWalk.i64_in _ (by omega)
            have w2' : wrap64 ((d : Int) * z) = (d : Int) * z := IntWalk.wrap64_in _ (by omega)
            have w3' : IntKind.i64.wrap (x - (d : Int) * z) = y := by rw [← hcs]; exact IntWalk.i64_in _ (by omega)
            have w4' : wrap64 (x - (d : Int) * z) = y := by rw [← hcs]; exact IntWalk.wrap64_in _ (by omega)
            have BB : Hid (Below w1.heap.size w1 wr) := hb
            clear hb hcs hbd hpr hnp
            go_wp2_with fail
            refine hcall.mono ?_
            rintro e w2 ⟨rfl, b2⟩
            have B2 : Hid (Below w1.heap.size w1 w2) := BB.out.trans (b2.mono BB.out.size)
            clear b2 hcall
            go_wp2_with fail
            go_roundw
            case rel => exact ⟨j + 1, by omega, by go_num, HY, B2⟩
            case measure => simp [intOf]; omega
          · rw [if_neg (by omega)] at hcs
            have HY : Hid (Value.int .i64 (ci p n j) = .int .i64 (ci p n (j + 1))) := by rw [hcs]; rfl
            clear hd hcs hbd
            generalize ci p n j = x at *
            go_wp2_with fail
            go_roundw
            case rel => exact ⟨j + 1, by omega, by go_num, HY, hb⟩
            case measure => simp [intOf]; omega
        · obtain rfl : q = j := by omega
          have hn0 : ((n : Int) == 0) = false := by rw [beq_eq_false_iff_ne]; omega
          have hnb := (HA.out n h7).1
          have hI := I1.out
          obtain ⟨y, hy⟩ : ∃ y, y = np p n := ⟨_, rfl⟩
          rw [← hy] at hI hnb
          have HY : Hid (y = np p n) := hy
          have w1' : IntKind.i64.wrap (Int.tdiv (ci p n q) n) = y := by rw [← hI]; exact IntWalk.i64_in _ (by omega)
          have w2' : wrap64 (Int.tdiv (ci p n q) n) = y := by rw [← hI]; exact IntWalk.wrap64_in _ (by omega)
          have B2 : Hid (Below w.heap.size w wr) := B1.out.trans (hb.out.mono B1.out.size)
          clear hy hI hnb hb
          generalize ci p n q = x at *
          go_wp2_with fail
          go_ret
          exact ⟨by rw [← HY.out]; rfl, B2.out⟩

def good (n p : Int) : Bool := decide (1 ≤ n ∧ n ≤ 6) && isP p
def z (n p : Int) : Int := if good n p = true then np p n.toNat else 0
def ok (n p : Int) : Bool := good n p
theorem impl_any (n : Int) (_ : (Lit.int .i64 n).wf = true) (p : Int) (_ : (Lit.int .i64 p).wf = true) {w : World} : Calls Try.prog 29 #[.int .i64 n, .int .i64 p] w fun e w' => e = .returned (.tuple #[.int .i64 (z n p), .bool (ok n p)]) ∧ Below w.heap.size w w' := by
  go_enter Try.func29, Try.ntmps29
  go_wp2_with fail
  refine (from_any n 1 6 w).mono ?_
  rintro e w1 ⟨rfl, hw1⟩
  rw [hw1]
  clear hw1
  by_cases hn : 1 ≤ n ∧ n ≤ 6
  · rw [decide_eq_true hn]
    go_wp2_with fail
    refine (iprime_any p w).mono ?_
    rintro e w1 ⟨rfl, hw1⟩
    rw [hw1]
    clear hw1
    cases hp : isP p with
    | false =>
      have HZ : Hid (z n p = 0 ∧ ok n p = false) := by
        have : good n p = false := by simp [good, hp]
        exact ⟨by unfold z; rw [this]; rfl, this⟩
      clear hp
      go_wp2_with fail
      go_ret2
      exact ⟨by rw [HZ.out.1, HZ.out.2]; rfl, Below.refl _ _⟩
    | true =>
      have hg : good n p = true := by simp [good, hp, hn]
      have HZ : Hid (z n p = np p n.toNat ∧ ok n p = true) := ⟨by unfold z; rw [hg]; rfl, hg⟩
      obtain ⟨k, rfl⟩ : ∃ k : Nat, n = (k : Int) := ⟨n.toNat, by omega⟩
      have HC := cp_any p (isP_mem hp) k (by omega) (by omega) w
      rw [Int.toNat_natCast] at HZ
      clear hp hg
      go_wp2_with fail
      refine HC.mono ?_
      rintro e w2 ⟨rfl, b⟩
      have B : Hid (Below w.heap.size w w2) := b
      clear b HC
      go_wp2_with fail
      go_ret2
      exact ⟨by rw [HZ.out.1, HZ.out.2]; rfl, B.out⟩
  · rw [decide_eq_false hn]
    have HZ : Hid (z n p = 0 ∧ ok n p = false) := by
      have : good n p = false := by unfold good; rw [decide_eq_false hn]; rfl
      exact ⟨by unfold z; rw [this]; rfl, this⟩
    clear hn
    go_wp2_with fail
    go_ret2
    exact ⟨by rw [HZ.out.1, HZ.out.2]; rfl, Below.refl _ _⟩

set_option maxRecDepth 100000 in
set_option maxHeartbeats 3200000 in
theorem spec_any (n : Int) (_ : (Lit.int .i64 n).wf = true) (p : Int) (_ : (Lit.int .i64 p).wf = true) {w : World} : Calls Try.prog 28 #[.int .i64 n, .int .i64 p] w fun e w' => e = .returned (.tuple #[.int .i64 (z n p), .bool (ok n p)]) ∧ Below w.heap.size w w' := by
  go_enter Try.func28, Try.ntmps28
  go_wp2_with fail
  refine (in_any n 1 6 w).mono ?_
  rintro e w1 ⟨rfl, hw1⟩
  rw [hw1]
  clear hw1
  by_cases hn : 1 ≤ n ∧ n ≤ 6
  · rw [decide_eq_true hn]
    go_wp2_with fail
    refine (sprime_any p w).mono ?_
    rintro e w1 ⟨rfl, hw1⟩
    rw [hw1]
    clear hw1
    cases hp : isP p with
    | false =>
      have HZ : Hid (z n p = 0 ∧ ok n p = false) := by
        have : good n p = false := by simp [good, hp]
        exact ⟨by unfold z; rw [this]; rfl, this⟩
      clear hp
      go_wp2_with fail
      go_ret2
      exact ⟨by rw [HZ.out.1, HZ.out.2]; rfl, Below.refl _ _⟩
    | true =>
      have hg : good n p = true := by simp [good, hp, hn]
      have HZ : Hid (z n p = np p n.toNat ∧ ok n p = true) := ⟨by unfold z; rw [hg]; rfl, hg⟩
      obtain ⟨k, rfl⟩ : ∃ k : Nat, n = (k : Int) := ⟨n.toNat, by omega⟩
      rw [Int.toNat_natCast] at HZ
      have HA : Hid (∀ k < 7, (0 ≤ np p k ∧ np p k ≤ 10000000) ∧ 0 ≤ pw p k ∧ pw p k ≤ 10000000 ∧ (divs k k).length < 7) := all_n p (isP_mem hp)
      have HS : Hid (∀ n < 7, 1 ≤ n → np p n = Int.tdiv (cs p n (n - 1)) n ∧ (∀ j < 7, -100000000 ≤ cs p n j ∧ cs p n j ≤ 100000000)) := all_s p (isP_mem hp)
      clear hp hg
      obtain ⟨hk1, hk6⟩ := hn
      obtain ⟨i0, hi, hz0, hz1, hz2⟩ := info_parts info_i
      obtain ⟨G, hG⟩ : ∃ G, G = w.heap.size := ⟨_, rfl⟩
      have HE : Hid (G = w.heap.size) := hG
      have hml : k + 1 ≤ maxLen := by unfold maxLen; omega
      have wk1 : IntKind.i64.wrap ((k : Int) + 1) = (k : Int) + 1 := IntWalk.i64_in _ (by omega)
      have wk2 : wrap64 ((k : Int) + 1) = (k : Int) + 1 := IntWalk.wrap64_in _ (by omega)
      go_wp2_with (first | (refine wpList_make_full _ rfl (.tmp 20) (.tmp 20) 22 rfl w.heap.size 2 i0 (.int .i64 0) 1 Try.underlying22 hi hz0 hz1 .i64 .i64 _ _ (k + 1) rfl rfl (by first | rfl | omega) (by first | rfl | omega) (by rw [hz2]; omega) hml (Nat.le_refl _) ?_; intro w1 hown hgrow))
      rw [rep_map] at hown
      rw [← hG] at hown
      rw [← hG]
      have start : Hid (w1.ownsRow G 2 1 (.slice (some ⟨G, 0, none⟩) (k + 1) (k + 1)) (k + 1) ((List.replicate (k + 1) (0 : Int)).map (Value.int .i64))) := hown
      have startB : Hid (Below G w w1) := (Below.refl G w).grown hgrow (by omega) (by intro k hk; cases hk)
      clear hown hgrow hG hi hz0 hz1 hz2 hml wk1 wk2
      go_loopw [7, 8] (fun c t wr => ∃ (m : Nat) (Q : List Int), m ≤ k ∧ t = .int .i64 ((m + 1 : Nat) : Int) ∧ c = .int .i64 (pw p m) ∧ Hid (wr.ownsRow G 2 1 (.slice (some ⟨G, 0, none⟩) (k + 1) (k + 1)) (k + 1) (Q.map (Value.int .i64))) ∧ Hid (Q.length = k + 1 ∧ ∀ j, 1 ≤ j → j ≤ m → at' Q j = np p j) ∧ Hid (Below G w wr)) (fun _ t _ => k + 1 - (intOf t).toNat)
      case atStart => exact ⟨0, List.replicate (k + 1) 0, by omega, rfl, rfl, start, ⟨by simp, fun j h1 h2 => by omega⟩, startB⟩
      case round =>
        obtain ⟨m, Q, hm, rfl, rfl, ho, hq, hb⟩ := hrel
        clear start startB
        have hmc : ((m + 1 : Nat) : Int) = (m : Int) + 1 := by omega
        by_cases hlt : m < k
        · have hpb := (HA.out (m + 1) (by omega)).2
          have hnb := (HA.out (m + 1) (by omega)).1
          obtain ⟨y, hy⟩ : ∃ y, y = pw p (m + 1) := ⟨_, rfl⟩
          have HY : Hid (Value.int .i64 y = .int .i64 (pw p (m + 1))) := by rw [hy]; rfl
          have HYS : Hid (cs p (m + 1) 0 = y) := by rw [hy]; rfl
          have hxy : pw p m * p = y := by rw [hy]; rfl
          rw [← hy] at hpb
          have w1 : IntKind.i64.wrap y = y := IntWalk.i64_in _ (by omega)
          have w2 : wrap64 y = y := IntWalk.wrap64_in _ (by omega)
          obtain ⟨hs1, hs2⟩ := HS.out (m + 1) (by omega) (by omega)
          have HS1 : Hid (np p (m + 1) = Int.tdiv (cs p (m + 1) m) ((m : Int) + 1)) := by (have := hs1; rw [show m + 1 - 1 = m by omega, hmc] at this; exact this)
          have HS2 : Hid (∀ j < 7, -100000000 ≤ cs p (m + 1) j ∧ cs p (m + 1) j ≤ 100000000) := hs2
          clear hy hpb hs1 hs2
          generalize pw p m = x at *
          go_wp2_with fail
          go_loop [9, 10] (fun l d => ∃ (j : Nat), j ≤ m ∧ d = .int .i64 ((j + 1 : Nat) : Int) ∧ l = .int .i64 (cs p (m + 1) j)) (fun _ d => m + 1 - (intOf d).toNat)
          case atStart => exact ⟨0, by omega, rfl, by rw [HYS.out]⟩
          case round =>
            obtain ⟨j, hj, rfl, rfl⟩ := hrel
            have hjc : ((j + 1 : Nat) : Int) = (j : Int) + 1 := by omega
            by_cases hltj : j < m
            · have hjz : (((j : Int) + 1) == 0) = false := by rw [beq_eq_false_iff_ne]; omega
              have hem : ((m : Int) + 1) % ((j : Int) + 1) = (((m + 1) % (j + 1) : Nat) : Int) := by
                rw [← hjc, ← hmc]; exact (Int.natCast_emod (m + 1) (j + 1)).symm
              have htm : Int.tmod ((m : Int) + 1) ((j : Int) + 1) = (((m + 1) % (j + 1) : Nat) : Int) := by
                rw [Int.tmod_eq_emod_of_nonneg (by omega)]; exact hem
              have hml : (m + 1) % (j + 1) < j + 1 := Nat.mod_lt _ (by omega)
              have hbd := HS2.out (j + 1) (by omega)
              have hjb := (HA.out (j + 1) (by omega)).1
              have hcs : Hid (cs p (m + 1) (j + 1) = if (m + 1) % (j + 1) = 0 then cs p (m + 1) j - ((j : Int) + 1) * np p (j + 1) else cs p (m + 1) j) := rfl
              by_cases hd : (m + 1) % (j + 1) = 0
              · have e1 : wr.cell? ⟨G, j + 1, none⟩ = some (.int .i64 (np p (j + 1))) := by
                  rw [ho.out.cellAt (j + 1) (by omega), List.getElem?_map, at_some Q (j + 1) (by have := hq.out.1; omega), hq.out.2 (j + 1) (by omega) (by omega)]; rfl
                have hc2 := hcs.out
                rw [if_pos hd] at hc2
                rw [hd] at hem htm
                have hpr := mul_le (A := 6) (B := 10000000) (a := (j : Int) + 1) (b := np p (j + 1)) (by omega) (by omega)
                obtain ⟨v, hv⟩ : ∃ v, v = cs p (m + 1) (j + 1) := ⟨_, rfl⟩
                have HV : Hid (Value.int .i64 v = .int .i64 (cs p (m + 1) (j + 1))) := by rw [hv]; rfl
                rw [← hv] at hc2 hbd
                clear hv hcs hd hml
                generalize np p (j + 1) = u at *
                generalize cs p (m + 1) j = l at *
                have w1' : IntKind.i64.wrap (((j : Int) + 1) * u) = ((j : Int) + 1) * u := IntWalk.i64_in _ (by omega)
                have w2' : wrap64 (((j : Int) + 1) * u) = ((j : Int) + 1) * u := IntWalk.wrap64_in _ (by omega)
                have w3' : IntKind.i64.wrap (l - ((j : Int) + 1) * u) = v := by rw [← hc2]; exact IntWalk.i64_in _ (by omega)
                have w4' : wrap64 (l - ((j : Int) + 1) * u) = v := by rw [← hc2]; exact IntWalk.wrap64_in _ (by omega)
                have hjn : ((j : Int) + 1).toNat = j + 1 := by omega
                clear hc2 hbd hpr hjb
                go_wp2_with fail
                go_round
                case rel => exact ⟨j + 1, by omega, by go_num, HV⟩
                case measure => simp [intOf]; omega
              · have hc2 := hcs.out
                rw [if_neg hd] at hc2
                have HV : Hid (Value.int .i64 (cs p (m + 1) j) = .int .i64 (cs p (m + 1) (j + 1))) := by rw [hc2]; rfl
                have hdb : (((((m + 1) % (j + 1) : Nat) : Int)) == 0) = false := by rw [beq_eq_false_iff_ne]; omega
                clear hcs hc2 hbd hjb
                generalize (m + 1) % (j + 1) = r at *
                generalize cs p (m + 1) j = l at *
                go_wp2_with fail
                go_round
                case rel => exact ⟨j + 1, by omega, by go_num, HV⟩
                case measure => simp [intOf]; omega
            · obtain rfl : m = j := by omega
              have hmz : (((m : Int) + 1) == 0) = false := by rw [beq_eq_false_iff_ne]; omega
              obtain ⟨v, hv⟩ : ∃ v, v = np p (m + 1) := ⟨_, rfl⟩
              have HV : Hid (v = np p (m + 1)) := hv
              have hs1 := HS1.out
              rw [← hv] at hs1 hnb
              have w1' : IntKind.i64.wrap (Int.tdiv (cs p (m + 1) m) ((m : Int) + 1)) = v := by rw [← hs1]; exact IntWalk.i64_in _ (by omega)
              have w2' : wrap64 (Int.tdiv (cs p (m + 1) m) ((m : Int) + 1)) = v := by rw [← hs1]; exact IntWalk.wrap64_in _ (by omega)
              have hql : Q.length = k + 1 := hq.out.1
              have e2 : wr.cell? ⟨G, m + 1, none⟩ = some (.int .i64 (at' Q (m + 1))) := by
                rw [ho.out.cellAt (m + 1) (by omega), List.getElem?_map, at_some Q (m + 1) (by omega)]; rfl
              have e3 : wr.frozen? ⟨G, m + 1, none⟩ = false := ho.out.frozenAt (m + 1)
              have hst := store_int (b := v) e2 e3
              have HO : Hid ((wr.setCell ⟨G, m + 1, none⟩ (.int .i64 v)).ownsRow G 2 1 (.slice (some ⟨G, 0, none⟩) (k + 1) (k + 1)) (k + 1) ((Q.set (m + 1) v).map (Value.int .i64))) := by
                have := (ho.out.stored (m + 1) (.int .i64 v)).1
                rw [← List.map_set] at this
                exact this
              have HQ : Hid ((Q.set (m + 1) v).length = k + 1 ∧ ∀ j, 1 ≤ j → j ≤ m + 1 → at' (Q.set (m + 1) v) j = np p j) := by
                refine ⟨by rw [List.length_set]; exact hql, fun j h1 h2 => ?_⟩
                by_cases e : j = m + 1
                · subst e
                  unfold at'
                  rw [List.getElem?_set_self (by omega)]
                  exact HV.out
                · have := hq.out.2 j h1 (by omega)
                  unfold at' at this ⊢
                  rw [List.getElem?_set_ne (by omega)]
                  exact this
              have HB : Hid (Below G w (wr.setCell ⟨G, m + 1, none⟩ (.int .i64 v))) := hb.out.setCell (p := ⟨G, m + 1, none⟩) (Nat.le_refl G) _
              have hmn : ((m : Int) + 1).toNat = m + 1 := by omega
              clear hv hs1 hnb ho hq hb hql
              generalize cs p (m + 1) m = l at *
              go_wp2_with fail
              go_roundw
              case rel => exact ⟨m + 1, _, by omega, by go_num, HY, HO, HQ, HB⟩
              case measure => simp [intOf]; omega
        · obtain rfl : k = m := by omega
          have e1 : wr.cell? ⟨G, k, none⟩ = some (.int .i64 (np p k)) := by
            rw [ho.out.cellAt k (by omega), List.getElem?_map, at_some Q k (by have := hq.out.1; omega), hq.out.2 k (by omega) (by omega)]; rfl
          have B : Hid (Below w.heap.size w wr) := by have := hb.out; rw [HE.out] at this; exact this
          clear ho hq hb
          generalize np p k = u at *
          go_wp2_with fail
          go_ret2
          exact ⟨by rw [HZ.out.1, HZ.out.2]; rfl, B.out⟩
  · rw [decide_eq_false hn]
    have HZ : Hid (z n p = 0 ∧ ok n p = false) := by
      have : good n p = false := by unfold good; rw [decide_eq_false hn]; rfl
      exact ⟨by unfold z; rw [this]; rfl, this⟩
    clear hn
    go_wp2_with fail
    go_ret2
    exact ⟨by rw [HZ.out.1, HZ.out.2]; rfl, Below.refl _ _⟩
end Go.Proofs.Ytledglanaacaeac.fCountPrimes
