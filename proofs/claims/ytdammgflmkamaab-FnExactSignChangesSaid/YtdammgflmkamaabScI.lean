/- Changes of sign: both sides' counts. -/
import Derived.Test.YtdammgflmkamaabScP
import Derived.Test.YtdammgflmkamaabFrA
import Derived.Test.YtdammgflmkamaabSt
namespace Go.Proofs.Ytdammgflmkamaab.wh
open Go.RowKit Go.Pl

set_option maxRecDepth 100000 in
set_option maxHeartbeats 1600000 in
theorem ichg_any {v : Value} {L : List Int} {w : World} (h : Ls w v L) (hl : L.length ≤ 17) (hr : inR (-1000) 1000 L) :
    Calls Try.prog 27 #[v] w fun e w' => e = .returned (.int .i64 (chg L L.length).1) ∧ w' = w := by
  obtain ⟨ao, cap, rfl⟩ := h.shape
  obtain ⟨_, hcap, hc⟩ := h.use
  have HC : Hid (L.length ≠ 0 → ∃ b off, ao = some ⟨b, off, none⟩ ∧ b < w.heap.size ∧ ∀ (k : Nat) (z : Int), L[k]? = some z → w.cell? ⟨b, off + k, none⟩ = some (.int .i64 z)) := hc
  have HBD : Hid (∀ k : Nat, ((0 ≤ (chg L k).1 ∧ (chg L k).1 ≤ k) ∧ -1000 ≤ (chg L k).2 ∧ (chg L k).2 ≤ 1000) ∧ -1000 ≤ at' L k ∧ at' L k ≤ 1000) := fun k => ⟨chg_bd hr k, hr.at (by omega) (by omega) k⟩
  have HST : Hid (∀ k, chg L (k + 1) = (if at' L k * (chg L k).2 < 0 then (chg L k).1 + 1 else (chg L k).1, if at' L k = 0 then (chg L k).2 else at' L k)) := fun k => rfl
  obtain ⟨n, hn⟩ : ∃ n, n = L.length := ⟨_, rfl⟩
  have HN : Hid (n = L.length) := hn
  rw [← hn] at hcap hl ⊢
  clear hc h hr hn
  go_enter Try.func27, Try.ntmps27
  go_wp2_with fail
  go_loop [3, 4, 9] (fun c b t => ∃ k : Nat, k ≤ n ∧ t = .int .i64 k ∧ c = .int .i64 (chg L k).1 ∧ b = .int .i64 (chg L k).2) (fun _ _ t => n - (intOf t).toNat)
  case atStart => exact ⟨0, by omega, rfl, rfl, rfl⟩
  case round =>
    obtain ⟨k, hk, rfl, rfl, rfl⟩ := hrel
    obtain ⟨⟨hb1, hb2⟩, hx⟩ := HBD.out k
    have hs := HST.out k
    by_cases hlt : k < n
    · obtain ⟨b, off, rfl, _, hcell⟩ := HC.out (by have := HN.out; omega)
      have e1 := hcell k _ (at_some L k (by have := HN.out; omega))
      have HC1 : Hid (∀ c, (chg L (k + 1)).1 = c → Value.int .i64 c = .int .i64 (chg L (k + 1)).1) := fun c h => by rw [h]
      have HC2 : Hid (∀ c, (chg L (k + 1)).2 = c → Value.int .i64 c = .int .i64 (chg L (k + 1)).2) := fun c h => by rw [h]
      have hs1 := congrArg Prod.fst hs
      have hs2 := congrArg Prod.snd hs
      dsimp only at hs1 hs2
      clear hs hcell
      generalize at' L k = x at *
      generalize (chg L k).1 = c at *
      generalize (chg L k).2 = y at *
      have w3 : IntKind.i64.wrap (c + 1) = c + 1 := IntWalk.i64_in _ (by omega)
      have w4 : wrap64 (c + 1) = c + 1 := IntWalk.wrap64_in _ (by omega)
      have hk17 : k ≤ 17 := by omega
      by_cases h2 : x = 0
      · subst h2
        rw [Int.zero_mul, if_neg (by omega)] at hs1
        rw [if_pos rfl] at hs2
        have G1 := HC1.out _ hs1
        have G2 := HC2.out _ hs2
        have HG1 : Hid (Value.int .i64 _ = .int .i64 (chg L (k + 1)).1) := G1
        have HG2 : Hid (Value.int .i64 _ = .int .i64 (chg L (k + 1)).2) := G2
        clear G1 G2 hs1 hs2 HC1 HC2
        go_wp2
        go_round
        case rel => exact ⟨k + 1, by omega, by go_num, HG1.out, HG2.out⟩
        case measure => simp [intOf]; omega
      have hm := mul_le (A := 1000) (B := 1000) (a := x) (b := y) hx hb2
      obtain ⟨p, hp⟩ : ∃ p, p = x * y := ⟨_, rfl⟩
      rw [← hp] at hm hs1
      have w1 : IntKind.i64.wrap (x * y) = p := by rw [← hp]; exact IntWalk.i64_in _ (by omega)
      have w2 : wrap64 (x * y) = p := by rw [← hp]; exact IntWalk.wrap64_in _ (by omega)
      have hx0 : (x == 0) = false := by rw [beq_eq_false_iff_ne]; exact h2
      rw [if_neg h2] at hs2
      clear hp h2
      by_cases h1 : p < 0
      · rw [if_pos h1] at hs1
        have G1 := HC1.out _ hs1
        have G2 := HC2.out _ hs2
        have HG1 : Hid (Value.int .i64 _ = .int .i64 (chg L (k + 1)).1) := G1
        have HG2 : Hid (Value.int .i64 _ = .int .i64 (chg L (k + 1)).2) := G2
        clear G1 G2 hs1 hs2 HC1 HC2
        go_wp2
        go_round
        case rel => exact ⟨k + 1, by omega, by go_num, HG1.out, HG2.out⟩
        case measure => simp [intOf]; omega
      · rw [if_neg h1] at hs1
        have G1 := HC1.out _ hs1
        have G2 := HC2.out _ hs2
        have HG1 : Hid (Value.int .i64 _ = .int .i64 (chg L (k + 1)).1) := G1
        have HG2 : Hid (Value.int .i64 _ = .int .i64 (chg L (k + 1)).2) := G2
        clear G1 G2 hs1 hs2 HC1 HC2
        go_wp2
        go_round
        case rel => exact ⟨k + 1, by omega, by go_num, HG1.out, HG2.out⟩
        case measure => simp [intOf]; omega
    · obtain rfl : n = k := by omega
      clear hs hb1 hb2 hx
      go_wp2
      go_ret
      exact ⟨rfl, rfl⟩

set_option maxRecDepth 100000 in
set_option maxHeartbeats 1600000 in
theorem schg_any {v : Value} {L : List Int} {w : World} (h : Ls w v L) (hl : L.length ≤ 17) (hr : inR (-1) 1 L) :
    Calls Try.prog 22 #[v] w fun e w' => e = .returned (.int .i64 (chs L L.length).1) ∧ w' = w := by
  obtain ⟨ao, cap, rfl⟩ := h.shape
  obtain ⟨_, hcap, hc⟩ := h.use
  have HC : Hid (L.length ≠ 0 → ∃ b off, ao = some ⟨b, off, none⟩ ∧ b < w.heap.size ∧ ∀ (k : Nat) (z : Int), L[k]? = some z → w.cell? ⟨b, off + k, none⟩ = some (.int .i64 z)) := hc
  have HBD : Hid (∀ k : Nat, ((0 ≤ (chs L k).1 ∧ (chs L k).1 ≤ k) ∧ -1 ≤ (chs L k).2 ∧ (chs L k).2 ≤ 1) ∧ -1 ≤ at' L k ∧ at' L k ≤ 1) := fun k => ⟨chs_bd hr k, hr.at (by omega) (by omega) k⟩
  have HST : Hid (∀ k, chs L (k + 1) = (if at' L k ≠ 0 ∧ (chs L k).2 ≠ 0 ∧ at' L k ≠ (chs L k).2 then (chs L k).1 + 1 else (chs L k).1, if at' L k = 0 then (chs L k).2 else at' L k)) := fun k => rfl
  obtain ⟨n, hn⟩ : ∃ n, n = L.length := ⟨_, rfl⟩
  have HN : Hid (n = L.length) := hn
  rw [← hn] at hcap hl ⊢
  clear hc h hr hn
  go_enter Try.func22, Try.ntmps22
  go_wp2_with fail
  go_loop [3, 4, 5] (fun c b t => ∃ k : Nat, k ≤ n ∧ t = .int .i64 k ∧ c = .int .i64 (chs L k).1 ∧ b = .int .i64 (chs L k).2) (fun _ _ t => n - (intOf t).toNat)
  case atStart => exact ⟨0, by omega, rfl, rfl, rfl⟩
  case round =>
    obtain ⟨k, hk, rfl, rfl, rfl⟩ := hrel
    obtain ⟨⟨hb1, hb2⟩, hx⟩ := HBD.out k
    have hs := HST.out k
    by_cases hlt : k < n
    · obtain ⟨b, off, rfl, _, hcell⟩ := HC.out (by have := HN.out; omega)
      have e1 := hcell k _ (at_some L k (by have := HN.out; omega))
      have HC1 : Hid (∀ c, (chs L (k + 1)).1 = c → Value.int .i64 c = .int .i64 (chs L (k + 1)).1) := fun c h => by rw [h]
      have HC2 : Hid (∀ c, (chs L (k + 1)).2 = c → Value.int .i64 c = .int .i64 (chs L (k + 1)).2) := fun c h => by rw [h]
      have hs1 := congrArg Prod.fst hs
      have hs2 := congrArg Prod.snd hs
      dsimp only at hs1 hs2
      clear hs hcell
      generalize at' L k = x at *
      generalize (chs L k).1 = c at *
      generalize (chs L k).2 = y at *
      have w3 : IntKind.i64.wrap (c + 1) = c + 1 := IntWalk.i64_in _ (by omega)
      have w4 : wrap64 (c + 1) = c + 1 := IntWalk.wrap64_in _ (by omega)
      have hk17 : k ≤ 17 := by omega
      by_cases h2 : x = 0
      · subst h2
        rw [if_neg (by omega)] at hs1
        rw [if_pos rfl] at hs2
        have G1 := HC1.out _ hs1
        have G2 := HC2.out _ hs2
        have HG1 : Hid (Value.int .i64 _ = .int .i64 (chs L (k + 1)).1) := G1
        have HG2 : Hid (Value.int .i64 _ = .int .i64 (chs L (k + 1)).2) := G2
        clear G1 G2 hs1 hs2 HC1 HC2
        go_wp2
        go_round
        case rel => exact ⟨k + 1, by omega, by go_num, HG1.out, HG2.out⟩
        case measure => simp [intOf]; omega
      · have hx0 : (x == 0) = false := by rw [beq_eq_false_iff_ne]; exact h2
        rw [if_neg h2] at hs2
        have G2 := HC2.out _ hs2
        have HG2 : Hid (Value.int .i64 _ = .int .i64 (chs L (k + 1)).2) := G2
        clear G2 hs2 HC2
        by_cases h3 : y = 0
        · subst h3
          rw [if_neg (by omega)] at hs1
          have G1 := HC1.out _ hs1
          have HG1 : Hid (Value.int .i64 _ = .int .i64 (chs L (k + 1)).1) := G1
          clear G1 hs1 HC1
          go_wp2
          go_round
          case rel => exact ⟨k + 1, by omega, by go_num, HG1.out, HG2.out⟩
          case measure => simp [intOf]; omega
        · have hy0 : (y == 0) = false := by rw [beq_eq_false_iff_ne]; exact h3
          by_cases h4 : x = y
          · subst h4
            rw [if_neg (by omega)] at hs1
            have G1 := HC1.out _ hs1
            have HG1 : Hid (Value.int .i64 _ = .int .i64 (chs L (k + 1)).1) := G1
            clear G1 hs1 HC1
            go_wp2
            go_round
            case rel => exact ⟨k + 1, by omega, by go_num, HG1.out, HG2.out⟩
            case measure => simp [intOf]; omega
          · have hxy : (x == y) = false := by rw [beq_eq_false_iff_ne]; exact h4
            have hy1 : (y != 0) = true := by rw [bne, hy0]; rfl
            have hxy1 : (x != y) = true := by rw [bne, hxy]; rfl
            rw [if_pos ⟨h2, h3, h4⟩] at hs1
            have G1 := HC1.out _ hs1
            have HG1 : Hid (Value.int .i64 _ = .int .i64 (chs L (k + 1)).1) := G1
            clear G1 hs1 HC1
            go_wp2
            go_round
            case rel => exact ⟨k + 1, by omega, by go_num, HG1.out, HG2.out⟩
            case measure => simp [intOf]; omega
    · obtain rfl : n = k := by omega
      clear hs hb1 hb2 hx
      go_wp2
      go_ret
      exact ⟨rfl, rfl⟩
end Go.Proofs.Ytdammgflmkamaab.wh
