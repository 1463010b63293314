/- Over primes: which numbers are primes, remainders, wholes over a prime: both sides. -/
import Derived.Test.YtibpahkjjjhapacSt
import Derived.IntWalk
namespace Go.Pl
def isP (p : Int) : Bool := decide (p = 2 ∨ p = 3 ∨ p = 5 ∨ p = 7 ∨ p = 11 ∨ p = 13)
theorem isP_le {p : Int} (h : isP p = true) : 2 ≤ p ∧ p ≤ 13 := by
  unfold isP at h
  rw [decide_eq_true_iff] at h
  omega
/-- a whole over a prime -/
def over (L : List Int) (p : Int) : Bool := isP p && (val L && decide (inR 0 (p - 1) L))
theorem mods_range (L : List Int) {p : Int} (hp : 0 < p) : inR 0 (p - 1) (mods L p) := by
  intro z hz
  obtain ⟨x, _, rfl⟩ := List.mem_map.1 hz
  have := md_range x hp
  omega
theorem trim_le {L : List Int} (h : L ≠ []) : (trim L).length ≤ L.length := by
  rw [trim_len h]
  exact tlen_le L _
theorem mods_ne {L : List Int} {p : Int} (h : L ≠ []) : mods L p ≠ [] := by
  cases L with
  | nil => exact absurd rfl h
  | cons a b => simp [mods]
end Go.Pl
namespace Go.Proofs.Ytibpahkjjjhapac.wh
open Go.RowKit Go.Pl

theorem sprime_any (p : Int) (w : World) : Calls Try.prog 89 #[.int .i64 p] w fun e w' => e = .returned (.bool (isP p)) ∧ w' = w := by
  by_cases h2 : p = 2
  · subst h2; go_enter Try.func89, Try.ntmps89; go_wp2; go_ret; exact ⟨rfl, rfl⟩
  by_cases h3 : p = 3
  · subst h3; go_enter Try.func89, Try.ntmps89; go_wp2; go_ret; exact ⟨rfl, rfl⟩
  by_cases h5 : p = 5
  · subst h5; go_enter Try.func89, Try.ntmps89; go_wp2; go_ret; exact ⟨rfl, rfl⟩
  by_cases h7 : p = 7
  · subst h7; go_enter Try.func89, Try.ntmps89; go_wp2; go_ret; exact ⟨rfl, rfl⟩
  by_cases h11 : p = 11
  · subst h11; go_enter Try.func89, Try.ntmps89; go_wp2; go_ret; exact ⟨rfl, rfl⟩
  by_cases h13 : p = 13
  · subst h13; go_enter Try.func89, Try.ntmps89; go_wp2; go_ret; exact ⟨rfl, rfl⟩
  have HN : Hid (isP p = false) := by
    show isP p = false
    unfold isP; rw [decide_eq_false_iff_not]; omega
  have b2 : (p == 2) = false := by rw [beq_eq_false_iff_ne]; exact h2
  have b3 : (p == 3) = false := by rw [beq_eq_false_iff_ne]; exact h3
  have b5 : (p == 5) = false := by rw [beq_eq_false_iff_ne]; exact h5
  have b7 : (p == 7) = false := by rw [beq_eq_false_iff_ne]; exact h7
  have b11 : (p == 11) = false := by rw [beq_eq_false_iff_ne]; exact h11
  have b13 : (p == 13) = false := by rw [beq_eq_false_iff_ne]; exact h13
  clear h2 h3 h5 h7 h11 h13
  go_enter Try.func89, Try.ntmps89
  go_wp2
  go_ret
  exact ⟨by rw [HN.out]; first | rfl | (simp [b2, b3, b5, b7, b11, b13]), rfl⟩

theorem iprime_any (p : Int) (w : World) : Calls Try.prog 93 #[.int .i64 p] w fun e w' => e = .returned (.bool (isP p)) ∧ w' = w := by
  by_cases h2 : p = 2
  · subst h2; go_enter Try.func93, Try.ntmps93; go_wp2; go_ret; exact ⟨rfl, rfl⟩
  by_cases h3 : p = 3
  · subst h3; go_enter Try.func93, Try.ntmps93; go_wp2; go_ret; exact ⟨rfl, rfl⟩
  by_cases h5 : p = 5
  · subst h5; go_enter Try.func93, Try.ntmps93; go_wp2; go_ret; exact ⟨rfl, rfl⟩
  by_cases h7 : p = 7
  · subst h7; go_enter Try.func93, Try.ntmps93; go_wp2; go_ret; exact ⟨rfl, rfl⟩
  by_cases h11 : p = 11
  · subst h11; go_enter Try.func93, Try.ntmps93; go_wp2; go_ret; exact ⟨rfl, rfl⟩
  by_cases h13 : p = 13
  · subst h13; go_enter Try.func93, Try.ntmps93; go_wp2; go_ret; exact ⟨rfl, rfl⟩
  have HN : Hid (isP p = false) := by
    show isP p = false
    unfold isP; rw [decide_eq_false_iff_not]; omega
  have b2 : (p == 2) = false := by rw [beq_eq_false_iff_ne]; exact h2
  have b3 : (p == 3) = false := by rw [beq_eq_false_iff_ne]; exact h3
  have b5 : (p == 5) = false := by rw [beq_eq_false_iff_ne]; exact h5
  have b7 : (p == 7) = false := by rw [beq_eq_false_iff_ne]; exact h7
  have b11 : (p == 11) = false := by rw [beq_eq_false_iff_ne]; exact h11
  have b13 : (p == 13) = false := by rw [beq_eq_false_iff_ne]; exact h13
  clear h2 h3 h5 h7 h11 h13
  go_enter Try.func93, Try.ntmps93
  go_wp2
  go_ret
  exact ⟨by rw [HN.out]; first | rfl | (simp [b2, b3, b5, b7, b11, b13]), rfl⟩

theorem md_any (x p : Int) (hp : 1 ≤ p ∧ p ≤ 1000000) (w : World) : Calls Try.prog 92 #[.int .i64 x, .int .i64 p] w fun e w' => e = .returned (.int .i64 (md x p)) ∧ w' = w := by
  have h1 := tm_range x (p := p) (by omega)
  have h2 := tm_range (Int.tmod x p + p) (p := p) (by omega)
  have hb : (p == 0) = false := by rw [beq_eq_false_iff_ne]; omega
  have w1 : IntKind.i64.wrap (Int.tmod x p) = Int.tmod x p := IntWalk.i64_in _ (by omega)
  have w2 : IntKind.i64.wrap (Int.tmod x p + p) = Int.tmod x p + p := IntWalk.i64_in _ (by omega)
  have w3 : IntKind.i64.wrap (Int.tmod (Int.tmod x p + p) p) = Int.tmod (Int.tmod x p + p) p := IntWalk.i64_in _ (by omega)
  have HM : Hid (md x p = Int.tmod (Int.tmod x p + p) p) := rfl
  clear h1 h2
  go_enter Try.func92, Try.ntmps92
  go_wp2
  go_ret
  exact ⟨by rw [HM.out]; rfl, rfl⟩
theorem rem_any (x p : Int) (hp : 1 ≤ p ∧ p ≤ 1000000) (w : World) : Calls Try.prog 100 #[.int .i64 x, .int .i64 p] w fun e w' => e = .returned (.int .i64 (md x p)) ∧ w' = w := by
  have h1 := tm_range x (p := p) (by omega)
  have h2 := tm_range (Int.tmod x p + p) (p := p) (by omega)
  have hb : (p == 0) = false := by rw [beq_eq_false_iff_ne]; omega
  have w1 : IntKind.i64.wrap (Int.tmod x p) = Int.tmod x p := IntWalk.i64_in _ (by omega)
  have w2 : IntKind.i64.wrap (Int.tmod x p + p) = Int.tmod x p + p := IntWalk.i64_in _ (by omega)
  have w3 : IntKind.i64.wrap (Int.tmod (Int.tmod x p + p) p) = Int.tmod (Int.tmod x p + p) p := IntWalk.i64_in _ (by omega)
  have HM : Hid (md x p = Int.tmod (Int.tmod x p + p) p) := rfl
  clear h1 h2
  go_enter Try.func100, Try.ntmps100
  go_wp2
  go_ret
  exact ⟨by rw [HM.out]; rfl, rfl⟩

theorem over_no {L : List Int} {p : Int} (h : ¬ (isP p = true ∧ val L = true ∧ inR 0 (p - 1) L)) : over L p = false := by
  unfold over
  cases h1 : isP p <;> cases h2 : val L <;> by_cases h3 : inR 0 (p - 1) L <;> simp_all
theorem over_yes {L : List Int} {p : Int} (h1 : isP p = true) (h2 : val L = true) (h3 : inR 0 (p - 1) L) : over L p = true := by
  unfold over
  simp [h1, h2, h3]

set_option maxRecDepth 100000 in
theorem sover_any {b : Nat} {s : Value} {L : List Int} {w : World} (hb : w.cell? ⟨b, 0, none⟩ = some s) (h : Ls w s L) (p : Int) :
    Calls Try.prog 51 #[.pointer (some ⟨b, 0, none⟩), .int .i64 p] w fun e w' => e = .returned (.bool (over L p)) ∧ w' = w := by
  have HH : Hid (Ls w s L) := h
  have HBc : Hid (w.cell? ⟨b, 0, none⟩ = some s) := hb
  obtain ⟨ao, cap, rfl, hn, hcap, hc⟩ := h
  have hc' : Hid (L.length ≠ 0 → ∃ b off, ao = some ⟨b, off, none⟩ ∧ b < w.heap.size ∧ ∀ (k : Nat) (z : Int), L[k]? = some z → w.cell? ⟨b, off + k, none⟩ = some (.int .i64 z)) := hc
  clear hc
  go_enter Try.func51, Try.ntmps51
  go_wp2_with fail
  refine (sprime_any p _).mono ?_
  rintro e w1 ⟨rfl, hw1⟩
  rw [hw1]
  clear hw1
  cases hp : isP p with
  | false =>
    have HV : Hid (over L p = false) := over_no (by simp [hp])
    clear hp
    go_wp2_with fail
    go_ret
    exact ⟨by rw [HV.out]; first | rfl | (simp; omega), rfl⟩
  | true =>
    have HP : Hid (isP p = true) := hp
    have hpl := isP_le hp
    clear hp
    go_wp2_with fail
    refine (is_any HBc.out HH.out).mono ?_
    rintro e w1 ⟨rfl, hw1⟩
    rw [hw1]
    clear hw1
    cases hv : val L with
    | false =>
      have HV : Hid (over L p = false) := over_no (by simp [hv])
      clear hv
      go_wp2_with fail
      go_ret
      exact ⟨by rw [HV.out]; first | rfl | (simp; omega), rfl⟩
    | true =>
      have HVL : Hid (val L = true) := hv
      clear hv
      obtain ⟨n, hnn⟩ : ∃ n, n = L.length := ⟨_, rfl⟩
      rw [← hnn] at hn hcap hc' HH hb HBc
      have HN : Hid (n = L.length) := hnn
      clear hnn
      go_wp2_with fail
      go_loop [19] (fun i => ∃ (k : Nat), k ≤ n ∧ i = .int .i64 k ∧ Hid (∀ j z, j < k → L[j]? = some z → 0 ≤ z ∧ z ≤ p - 1)) (fun i => n - (intOf i).toNat)
      case atStart => exact ⟨0, by omega, rfl, fun j _ hj => by omega⟩
      case round =>
        obtain ⟨k, hk, rfl, hr⟩ := hrel
        by_cases hlt : k < n
        · obtain ⟨b', off, rfl, _, hcell⟩ := hc'.out (by omega)
          obtain ⟨z, hz⟩ := get_some L k (by have := HN.out; omega)
          have e1 := hcell k z hz
          clear hcell
          by_cases hin : 0 ≤ z ∧ z ≤ p - 1
          · have HR : Hid (∀ j z, j < k + 1 → L[j]? = some z → 0 ≤ z ∧ z ≤ p - 1) := fun j y hj hy => by
              by_cases e : j = k
              · rw [e, hz] at hy; injection hy with hy; omega
              · exact hr.out j y (by omega) hy
            clear hr hz
            go_wp2_with fail
            refine (in_any z _ _ _).mono ?_
            rintro e w1 ⟨rfl, hw1⟩
            rw [hw1, decide_eq_true hin]
            clear hw1
            go_wp2_with fail
            go_round
            case rel => exact ⟨k + 1, by omega, by go_num, HR⟩
            case measure => simp [intOf]; omega
          · have HV : Hid (over L p = false) := over_no fun h => hin (h.2.2.get hz)
            clear hr hz
            go_wp2_with fail
            refine (in_any z _ _ _).mono ?_
            rintro e w1 ⟨rfl, hw1⟩
            rw [hw1, decide_eq_false hin]
            clear hw1
            go_wp2_with fail
            go_ret
            exact ⟨by rw [HV.out]; first | rfl | (simp; omega), rfl⟩
        · obtain rfl : k = n := by omega
          have HV : Hid (over L p = true) := over_yes HP.out HVL.out (inR_of fun k z hk hz => hr.out k z (by have := HN.out; omega) hz)
          clear hr
          go_wp2_with fail
          go_ret
          exact ⟨by rw [HV.out]; first | rfl | (simp; omega), rfl⟩

set_option maxRecDepth 100000 in
theorem iover_any {v : Value} {L : List Int} {w : World} (h : Wh w v L) (p : Int) :
    Calls Try.prog 55 #[v, .int .i64 p] w fun e w' => e = .returned (.bool (over L p)) ∧ Below w.heap.size w w' := by
  obtain ⟨s, rfl, h⟩ := h
  obtain ⟨ao, cap, rfl⟩ := id h.shape
  have HH : Hid (Ls w (.slice ao L.length cap) L) := h
  clear h
  obtain ⟨w1, hw⟩ : ∃ x, x = w.alloc (.cells #[.slice ao L.length cap] 41) := ⟨_, rfl⟩
  have X : Hid (Bx w1 w.heap.size (.slice ao L.length cap)) := by rw [hw]; exact Bx.new _ _ _
  have B1 : Hid (Below w.heap.size w w1) := by rw [hw]; exact new1 _ _
  have H1 : Hid (Ls w1 (.slice ao L.length cap) L) := HH.out.below B1.out
  have c := X.out.cell
  clear HH
  go_enter Try.func55, Try.ntmps55
  go_wp2_with fail
  rw [← hw]
  clear hw
  refine (iprime_any p _).mono ?_
  rintro e w2 ⟨rfl, hw2⟩
  rw [hw2]
  clear hw2
  cases hp : isP p with
  | false =>
    have HV : Hid (over L p = false) := over_no (by simp [hp])
    clear hp
    go_wp2_with fail
    go_ret
    exact ⟨by rw [HV.out]; first | rfl | (simp; omega), B1.out⟩
  | true =>
    have HP : Hid (isP p = true) := hp
    have hpl := isP_le hp
    clear hp
    go_wp2_with fail
    refine (valid_any ⟨_, rfl, H1.out⟩).mono ?_
    rintro e w2 ⟨rfl, b⟩
    have B2 : Hid (Below w.heap.size w w2) := B1.out.trans (b.mono B1.out.size)
    have H2 : Hid (Ls w2 (.slice ao L.length cap) L) := H1.out.below b
    replace X : Hid (Bx w2 w.heap.size (.slice ao L.length cap)) := X.out.kept b
    replace c := X.out.cell
    clear b B1 H1
    cases hv : val L with
    | false =>
      have HV : Hid (over L p = false) := over_no (by simp [hv])
      clear hv
      go_wp2_with fail
      go_ret
      exact ⟨by rw [HV.out]; first | rfl | (simp; omega), B2.out⟩
    | true =>
      have HV : Hid (over L p = decide (inR 0 (p - 1) L)) := by
        show over L p = _
        unfold over
        simp [HP.out, hv]
      clear hv
      go_wp2_with fail
      refine (are_any H2.out 0 (p - 1)).mono ?_
      rintro e w3 ⟨rfl, hw3⟩
      rw [hw3]
      clear hw3
      generalize decide (inR 0 (p - 1) L) = g at *
      cases g with
      | false =>
        go_wp2_with fail
        go_ret
        exact ⟨by rw [HV.out]; first | rfl | (simp; omega), B2.out⟩
      | true =>
        go_wp2_with fail
        go_ret
        exact ⟨by rw [HV.out]; first | rfl | (simp; omega), B2.out⟩
end Go.Proofs.Ytibpahkjjjhapac.wh
