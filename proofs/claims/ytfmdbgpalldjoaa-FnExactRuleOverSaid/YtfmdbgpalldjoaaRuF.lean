/- Lists of integers over a prime: both sides' checks. -/
import Derived.Test.YtfmdbgpalldjoaaRuP
namespace Go.Proofs.Ytfmdbgpalldjoaa.ru
open Go.RowKit Go.Pl Go.Ru Go.Proofs.Ytfmdbgpalldjoaa.wh

theorem lo_no {A : List Int} {p : Int} {least : Nat} (h : ¬ (isP p = true ∧ (least ≤ A.length ∧ A.length ≤ 64) ∧ inR 0 (p - 1) A)) : lo A p least = false := by
  cases e : lo A p least with
  | false => rfl
  | true => exact absurd (lo_val e) h
theorem lo_yes {A : List Int} {p : Int} {least : Nat} (h1 : isP p = true) (h2 : least ≤ A.length ∧ A.length ≤ 64) (h3 : inR 0 (p - 1) A) : lo A p least = true := by
  unfold lo
  simp [h1, h2, h3]

set_option maxRecDepth 100000 in
theorem slist_any {v : Value} {L : List Int} {w : World} (h : Ls w v L) (p : Int) (least : Nat) :
    Calls Try.prog 27 #[v, .int .i64 p, .int .i64 (least : Int)] w fun e w' => e = .returned (.bool (lo L p least)) ∧ w' = w := by
  obtain ⟨ao, cap, rfl, hn, hcap, hc⟩ := h
  have hc' : Hid (L.length ≠ 0 → ∃ b off, ao = some ⟨b, off, none⟩ ∧ b < w.heap.size ∧ ∀ (k : Nat) (z : Int), L[k]? = some z → w.cell? ⟨b, off + k, none⟩ = some (.int .i64 z)) := hc
  clear hc
  obtain ⟨n, hnn⟩ : ∃ n, n = L.length := ⟨_, rfl⟩
  rw [← hnn] at hn hcap hc' ⊢
  have HN : Hid (n = L.length) := hnn
  clear hnn
  go_enter Try.func27, Try.ntmps27
  go_wp2_with fail
  refine (sprime_any p _).mono ?_
  rintro e w1 ⟨rfl, hw1⟩
  rw [hw1]
  clear hw1
  cases hp : isP p with
  | false =>
    have HV : Hid (lo L p least = false) := lo_no (by simp [hp])
    clear hp
    go_wp2_with fail
    go_ret
    exact ⟨by rw [HV.out]; first | rfl | (simp; omega), rfl⟩
  | true =>
    have HP : Hid (isP p = true) := hp
    have hpl := isP_le hp
    clear hp
    by_cases h1 : least ≤ n ∧ n ≤ 64
    case neg =>
      have HV : Hid (lo L p least = false) := lo_no (fun h => h1 (by have := HN.out; have := h.2.1; omega))
      by_cases h2 : n < least
      · have hd : decide (n < least) = true := decide_eq_true h2
        go_wp2_with fail
        go_ret
        exact ⟨by rw [HV.out]; first | rfl | (simp; omega), rfl⟩
      · have h3 : 64 < n := by omega
        have hd : decide (n < least) = false := decide_eq_false h2
        have hd2 : decide ((64 : Int) < (n : Int)) = true := decide_eq_true (by omega)
        go_wp2_with fail
        go_ret
        exact ⟨by rw [HV.out]; first | rfl | (simp; omega), rfl⟩
    obtain ⟨h1, h2⟩ := h1
    have hd : decide (n < least) = false := decide_eq_false (by omega)
    have hd2 : decide ((64 : Int) < (n : Int)) = false := decide_eq_false (by omega)
    go_wp2_with fail
    clear hd hd2
    go_loop [24] (fun i => ∃ (k : Nat), k ≤ n ∧ i = .int .i64 k ∧ Hid (∀ j z, j < k → L[j]? = some z → 0 ≤ z ∧ z ≤ p - 1)) (fun i => n - (intOf i).toNat)
    case atStart => exact ⟨0, by omega, rfl, fun j _ hj => by omega⟩
    case round =>
      obtain ⟨k, hk, rfl, hr⟩ := hrel
      by_cases hlt : k < n
      · obtain ⟨b', off, rfl, _, hcell⟩ := hc'.out (by omega)
        obtain ⟨z, hz⟩ := get_some L k (by have := HN.out; omega)
        have e1 := hcell k z hz
        clear hcell
        by_cases hin : 0 ≤ z ∧ z ≤ p - 1
        · have HR : Hid (∀ j z, j < k + 1 → L[j]? = some z → 0 ≤ z ∧ z ≤ p - 1) := fun j y hj hy => by
            by_cases e : j = k
            · rw [e, hz] at hy; injection hy with hy; omega
            · exact hr.out j y (by omega) hy
          clear hr hz
          go_wp2_with fail
          refine (in_any z _ _ _).mono ?_
          rintro e w1 ⟨rfl, hw1⟩
          rw [hw1, decide_eq_true hin]
          clear hw1
          go_wp2_with fail
          go_round
          case rel => exact ⟨k + 1, by omega, by go_num, HR⟩
          case measure => simp [intOf]; omega
        · have HV : Hid (lo L p least = false) := lo_no fun h => hin (h.2.2.get hz)
          clear hr hz
          go_wp2_with fail
          refine (in_any z _ _ _).mono ?_
          rintro e w1 ⟨rfl, hw1⟩
          rw [hw1, decide_eq_false hin]
          clear hw1
          go_wp2_with fail
          go_ret
          exact ⟨by rw [HV.out]; first | rfl | (simp; omega), rfl⟩
      · obtain rfl : k = n := by omega
        have HV : Hid (lo L p least = true) := lo_yes HP.out (by have := HN.out; omega) (inR_of fun k z hk hz => hr.out k z (by have := HN.out; omega) hz)
        clear hr
        go_wp2_with fail
        go_ret
        exact ⟨by rw [HV.out]; first | rfl | (simp; omega), rfl⟩

set_option maxRecDepth 100000 in
theorem iare_any {v : Value} {L : List Int} {w : World} (h : Ls w v L) (p : Int) (least : Nat) :
    Calls Try.prog 30 #[v, .int .i64 p, .int .i64 (least : Int)] w fun e w' => e = .returned (.bool (lo L p least)) ∧ w' = w := by
  obtain ⟨ao, cap, rfl⟩ := id h.shape
  have HH : Hid (Ls w (.slice ao L.length cap) L) := h
  have hn : L.length ≤ 9223372036854775807 := by obtain ⟨_, _, _, hn, _⟩ := h; exact hn
  clear h
  obtain ⟨n, hnn⟩ : ∃ n, n = L.length := ⟨_, rfl⟩
  rw [← hnn] at hn HH ⊢
  have HN : Hid (n = L.length) := hnn
  clear hnn
  go_enter Try.func30, Try.ntmps30
  go_wp2_with fail
  refine (iprime_any p _).mono ?_
  rintro e w2 ⟨rfl, hw2⟩
  rw [hw2]
  clear hw2
  cases hp : isP p with
  | false =>
    have HV : Hid (lo L p least = false) := lo_no (by simp [hp])
    clear hp
    go_wp2_with fail
    go_ret
    exact ⟨by rw [HV.out]; first | rfl | (simp; omega), rfl⟩
  | true =>
    have HP : Hid (isP p = true) := hp
    have hpl := isP_le hp
    clear hp
    go_wp2_with fail
    refine (from_any _ _ _ _).mono ?_
    rintro e w2 ⟨rfl, hw2⟩
    rw [hw2]
    clear hw2
    by_cases h1 : (least : Int) ≤ (n : Int) ∧ (n : Int) ≤ 64
    case neg =>
      have HV : Hid (lo L p least = false) := lo_no (fun h => h1 (by have := HN.out; have := h.2.1; omega))
      rw [decide_eq_false h1]
      clear h1
      go_wp2_with fail
      go_ret
      exact ⟨by rw [HV.out]; first | rfl | (simp; omega), rfl⟩
    have HV : Hid (lo L p least = decide (inR 0 (p - 1) L)) := by
      show lo L p least = _
      unfold lo
      simp only [HP.out, Bool.true_and]
      rw [decide_eq_true (show least ≤ L.length ∧ L.length ≤ 64 by have := HN.out; omega), Bool.true_and]
    rw [decide_eq_true h1]
    clear h1
    go_wp2_with fail
    refine (are_any (by have := HH.out; rw [HN.out] at this ⊢; exact this) 0 (p - 1)).mono ?_
    rintro e w3 ⟨rfl, hw3⟩
    rw [hw3]
    clear hw3
    generalize decide (inR 0 (p - 1) L) = g at *
    cases g with
    | false =>
      go_wp2_with fail
      go_ret
      exact ⟨by rw [HV.out]; first | rfl | (simp; omega), rfl⟩
    | true =>
      go_wp2_with fail
      go_ret
      exact ⟨by rw [HV.out]; first | rfl | (simp; omega), rfl⟩
end Go.Proofs.Ytfmdbgpalldjoaa.ru
