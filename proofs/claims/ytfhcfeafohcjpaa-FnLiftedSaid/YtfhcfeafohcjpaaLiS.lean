/- Lifting two factors: the model's sums over a prime. -/
import Derived.Test.YtfhcfeafohcjpaaCoF
import Derived.Test.YtfhcfeafohcjpaaLiU
namespace Go.Pl
/-- a list with the first k terms of another one added -/
def adr (P A : List Int) : Nat → List Int
  | 0 => P
  | k + 1 => (adr P A k).set k (at' (adr P A k) k + at' A k)
theorem adr_len (P A : List Int) : ∀ k, (adr P A k).length = P.length
  | 0 => rfl
  | k + 1 => by rw [adr, List.length_set, adr_len P A k]
theorem adr_at (P A : List Int) : ∀ k, k ≤ P.length → ∀ m, at' (adr P A k) m = at' P m + if m < k then at' A m else 0
  | 0, _, m => by rw [adr, if_neg (by omega)]; omega
  | k + 1, h, m => by
    rw [adr]
    by_cases e : k = m
    · subst e
      rw [set_at _ (by rw [adr_len]; omega), adr_at P A k (by omega), if_neg (by omega), if_pos (by omega)]; omega
    · rw [set_at_ne _ e, adr_at P A k (by omega)]
      by_cases h1 : m < k
      · rw [if_pos h1, if_pos (by omega)]
      · rw [if_neg h1, if_neg (by omega)]
theorem adr_weigh (A B : List Int) : adr (adr (List.replicate (max A.length B.length) 0) A A.length) B B.length = weigh A B 1 1 := by
  refine ext_at (by rw [adr_len, adr_len, List.length_replicate, weigh_len]) fun j hj => ?_
  rw [adr_len, adr_len, List.length_replicate] at hj
  rw [adr_at _ _ _ (by rw [adr_len, List.length_replicate]; omega), adr_at _ _ _ (by rw [List.length_replicate]; omega), rep_at, at_get (weigh_get A B 1 1 hj)]
  have h1 : (if j < A.length then at' A j else 0) = at' A j := by
    by_cases h : j < A.length
    · rw [if_pos h]
    · rw [if_neg h, at_out (by omega)]
  have h2 : (if j < B.length then at' B j else 0) = at' B j := by
    by_cases h : j < B.length
    · rw [if_pos h]
    · rw [if_neg h, at_out (by omega)]
  rw [h1, h2]; omega
end Go.Pl
namespace Go.Proofs.Ytfhcfeafohcjpaa.wh
open Go.RowKit Go.Pl
set_option maxRecDepth 100000 in
set_option maxHeartbeats 8000000 in
theorem ssum_any {va vb : Value} {A B : List Int} {p : Int} {w : World} (ha : Ls w va A) (hb : Ls w vb B) (hA : 1 ≤ A.length ∧ A.length ≤ 80) (hB : 1 ≤ B.length ∧ B.length ≤ 80) (hA0 : inR 0 (p - 1) A) (hB0 : inR 0 (p - 1) B) (hp : 1 ≤ p ∧ p ≤ 13) :
    Calls Try.prog 34 #[va, vb, .int .i64 p] w fun e w' => ∃ v', e = .returned v' ∧ Own w' w.heap.size w'.heap.size v' (smt A B p) ∧ Below w.heap.size w w' := by
  obtain ⟨ao, cap, rfl, hn, hcap, hc⟩ := ha
  obtain ⟨bo, cap1, rfl, hn1, hcap1, hc1⟩ := hb
  obtain ⟨ba, oa, rfl, hba, hca⟩ := hc (by omega)
  obtain ⟨bb, ob, rfl, hbb, hcb⟩ := hc1 (by omega)
  have CA : Hid (∀ (k : Nat) (z : Int), A[k]? = some z → w.cell? ⟨ba, oa + k, none⟩ = some (.int .i64 z)) := hca
  have CB : Hid (∀ (k : Nat) (z : Int), B[k]? = some z → w.cell? ⟨bb, ob + k, none⟩ = some (.int .i64 z)) := hcb
  have LA : Hid (ba < w.heap.size) := hba
  have LB : Hid (bb < w.heap.size) := hbb
  have HBA : Hid (∀ k, 0 ≤ at' A k ∧ at' A k ≤ 13) := fun k => by have := hA0.at (by omega) (by omega) k; omega
  have HBB : Hid (∀ k, 0 ≤ at' B k ∧ at' B k ≤ 13) := fun k => by have := hB0.at (by omega) (by omega) k; omega
  have HPP : Hid (1 ≤ p ∧ p ≤ 1000000) := ⟨hp.1, by omega⟩
  obtain ⟨i0, hi, hz0, hz1, hz2⟩ := info_parts info_i
  obtain ⟨n, hnn⟩ : ∃ n, n = A.length := ⟨_, rfl⟩
  obtain ⟨m, hmm⟩ : ∃ m, m = B.length := ⟨_, rfl⟩
  obtain ⟨q, hq⟩ : ∃ q, q = max n m := ⟨_, rfl⟩
  have PA : Hid (weigh A B 1 1 = adr (adr (List.replicate q 0) A n) B m) := by show _ = _; rw [hq, hnn, hmm]; exact (adr_weigh A B).symm
  rw [← hnn] at hA hcap
  rw [← hmm] at hB hcap1
  simp only [← hnn, ← hmm]
  have HN : Hid (n = A.length) := hnn
  have HMm : Hid (m = B.length) := hmm
  obtain ⟨hA1, hA2⟩ := hA
  obtain ⟨hB1, hB2⟩ := hB
  have hqi : max (n : Int) (m : Int) = (q : Int) := by omega
  have hq2 : q ≤ 80 := by omega
  have HQ : Hid (n ≤ q ∧ m ≤ q ∧ q = max n m) := ⟨by omega, by omega, hq⟩
  have hml : q ≤ maxLen := by unfold maxLen; omega
  clear hc hc1 hca hcb hba hbb hn hn1 hnn hmm hq hA0 hB0 hp
  obtain ⟨G, hG⟩ : ∃ G, G = w.heap.size := ⟨_, rfl⟩
  go_enter Try.func34, Try.ntmps34
  by_cases hmx : (n : Int) < (m : Int)
  · have hqe : q = m := by omega
    rw [hqe] at PA HQ hq2 hml hqi
    clear hqe
    go_wp2_with (first | (refine wpList_make_full _ rfl (.tmp 14) (.tmp 14) 22 rfl w.heap.size 2 i0 (.int .i64 0) 1 Try.underlying22 hi hz0 hz1 .i64 .i64 _ _ m rfl rfl rfl rfl (by rw [hz2]; omega) hml (Nat.le_refl _) ?_; intro w1 hown hgrow))
    rw [← hG] at hown
    rw [← hG]
    rw [rep_map] at hown
    have hbel : Below G w w1 := (Below.refl G w).grown hgrow (by omega) (by intro k hk; cases hk)
    have HE : Hid (G = w.heap.size) := hG
    obtain ⟨P0, hP0⟩ : ∃ P : List Int, P = List.replicate m 0 := ⟨_, rfl⟩
    rw [← hP0] at hown PA
    have HP0 : Hid (P0.length = m ∧ inR 0 0 P0) := ⟨by rw [hP0]; simp, by rw [hP0]; intro z hz; have := List.eq_of_mem_replicate hz; omega⟩
    have start : Hid (w1.ownsRow G 2 1 (.slice (some ⟨G, 0, none⟩) m m) m ((adr P0 A 0).map (Value.int .i64))) := hown
    have startB : Hid (Below G w w1) := hbel
    clear hgrow hG hP0 hown hbel hqi hi hz0 hz1 hz2 hml
    go_loopw [18] (fun t wr => ∃ (k : Nat), k ≤ n ∧ t = .int .i64 k ∧ Hid (wr.ownsRow G 2 1 (.slice (some ⟨G, 0, none⟩) m m) m ((adr P0 A k).map (Value.int .i64))) ∧ Hid (Below G w wr)) (fun t _ => n - (intOf t).toNat)
    case atStart => exact ⟨0, by omega, rfl, start, startB⟩
    case round =>
      obtain ⟨k, hkm, rfl, ho, hb⟩ := hrel
      clear start startB
      by_cases hlt : k < n
      · have hkq : k < m := by have := HQ.out; omega
        have e1 : wr.cell? ⟨ba, oa + k, none⟩ = some (.int .i64 (at' A k)) := (hb.out.cell (p := ⟨ba, oa + k, none⟩) (by have := HE.out; have := LA.out; show ba < G; omega)).trans (CA.out k _ (at_some A k (by have := HN.out; omega)))
        have hlen : (adr P0 A k).length = m := by rw [adr_len]; exact HP0.out.1
        have e3 : wr.cell? ⟨G, k, none⟩ = some (.int .i64 (at' (adr P0 A k) k)) := by
          rw [ho.out.cellAt k (by omega), List.getElem?_map, at_some _ _ (by rw [hlen]; exact hkq)]; rfl
        have hv : at' (adr P0 A k) k = 0 := by
          rw [adr_at _ _ _ (by rw [HP0.out.1]; omega), if_neg (by omega)]
          have := HP0.out.2.at (by omega) (by omega) k
          omega
        have hp := HBA.out k
        have e4 : wr.frozen? ⟨G, k, none⟩ = false := ho.out.frozenAt k
        have HO : Hid ((wr.drew.setCell ⟨G, k, none⟩ (.int .i64 (at' (adr P0 A k) k + at' A k))).ownsRow G 2 1 (.slice (some ⟨G, 0, none⟩) m m) m ((adr P0 A (k + 1)).map (Value.int .i64))) := by
          have ho' : wr.drew.ownsRow G 2 1 (.slice (some ⟨G, 0, none⟩) m m) m ((adr P0 A k).map (Value.int .i64)) := ho.out
          have := (ho'.stored k (.int .i64 (at' (adr P0 A k) k + at' A k))).1
          rw [← List.map_set] at this
          exact this
        have HB : Hid (Below G w (wr.drew.setCell ⟨G, k, none⟩ (.int .i64 (at' (adr P0 A k) k + at' A k)))) := hb.out.drew.setCell (p := ⟨G, k, none⟩) (Nat.le_refl G) _
        generalize at' (adr P0 A k) k = a at *
        generalize at' A k = y at *
        have hw2 : IntKind.i64.wrap (a + y) = a + y := IntWalk.i64_in _ (by omega)
        have hw4 : wrap64 (a + y) = a + y := IntWalk.wrap64_in _ (by omega)
        clear hv hp ho hb hlen
        go_wp2_with fail
        go_region
        go_wp2
        go_roundw
        case rel => exact ⟨k + 1, by omega, by go_num, HO, HB⟩
        case measure => simp [intOf]; omega
      · obtain rfl : n = k := by omega
        obtain ⟨P1, hP1⟩ : ∃ P : List Int, P = adr P0 A n := ⟨_, rfl⟩
        have HP1 : Hid (P1.length = m ∧ ∀ j, 0 ≤ at' P1 j ∧ at' P1 j ≤ 13) := by
          refine ⟨by rw [hP1, adr_len]; exact HP0.out.1, fun j => ?_⟩
          rw [hP1, adr_at _ _ _ (by have := HQ.out; rw [HP0.out.1]; omega)]
          have := HP0.out.2.at (by omega) (by omega) j
          have := HBA.out j
          by_cases h : j < n
          · rw [if_pos h]; omega
          · rw [if_neg h]; omega
        rw [← hP1] at ho PA
        have start : Hid (wr.ownsRow G 2 1 (.slice (some ⟨G, 0, none⟩) m m) m ((adr P1 B 0).map (Value.int .i64))) := ho
        have startB : Hid (Below G w wr) := hb
        clear ho hb hP1
        go_wp2
        obtain ⟨wz, hwz⟩ : ∃ x, x = wr := ⟨_, rfl⟩
        subst hwz
        go_loopw [34] (fun t wr => ∃ (j : Nat), j ≤ m ∧ t = .int .i64 j ∧ Hid (wr.ownsRow G 2 1 (.slice (some ⟨G, 0, none⟩) m m) m ((adr P1 B j).map (Value.int .i64))) ∧ Hid (Below G w wr)) (fun t _ => m - (intOf t).toNat)
        case atStart => exact ⟨0, by omega, rfl, start, startB⟩
        case round =>
          obtain ⟨j, hjm, rfl, ho, hb⟩ := hrel
          clear start startB
          by_cases hltj : j < m
          · have hkq : j < m := by have := HQ.out; omega
            have e1 : wr.cell? ⟨bb, ob + j, none⟩ = some (.int .i64 (at' B j)) := (hb.out.cell (p := ⟨bb, ob + j, none⟩) (by have := HE.out; have := LB.out; show bb < G; omega)).trans (CB.out j _ (at_some B j (by have := HMm.out; omega)))
            have hlen : (adr P1 B j).length = m := by rw [adr_len]; exact HP1.out.1
            have e3 : wr.cell? ⟨G, j, none⟩ = some (.int .i64 (at' (adr P1 B j) j)) := by
              rw [ho.out.cellAt j (by omega), List.getElem?_map, at_some _ _ (by rw [hlen]; exact hkq)]; rfl
            have hv : 0 ≤ at' (adr P1 B j) j ∧ at' (adr P1 B j) j ≤ 13 := by
              rw [adr_at _ _ _ (by rw [HP1.out.1]; omega), if_neg (by omega)]
              have := HP1.out.2 j
              omega
            have hp := HBB.out j
            have e4 : wr.frozen? ⟨G, j, none⟩ = false := ho.out.frozenAt j
            have HO : Hid ((wr.drew.setCell ⟨G, j, none⟩ (.int .i64 (at' (adr P1 B j) j + at' B j))).ownsRow G 2 1 (.slice (some ⟨G, 0, none⟩) m m) m ((adr P1 B (j + 1)).map (Value.int .i64))) := by
              have ho' : wr.drew.ownsRow G 2 1 (.slice (some ⟨G, 0, none⟩) m m) m ((adr P1 B j).map (Value.int .i64)) := ho.out
              have := (ho'.stored j (.int .i64 (at' (adr P1 B j) j + at' B j))).1
              rw [← List.map_set] at this
              exact this
            have HB : Hid (Below G w (wr.drew.setCell ⟨G, j, none⟩ (.int .i64 (at' (adr P1 B j) j + at' B j)))) := hb.out.drew.setCell (p := ⟨G, j, none⟩) (Nat.le_refl G) _
            generalize at' (adr P1 B j) j = a at *
            generalize at' B j = y at *
            have hw2 : IntKind.i64.wrap (a + y) = a + y := IntWalk.i64_in _ (by omega)
            have hw4 : wrap64 (a + y) = a + y := IntWalk.wrap64_in _ (by omega)
            clear hv hp ho hb hlen
            go_wp2_with fail
            go_region
            go_wp2
            go_roundw
            case rel => exact ⟨j + 1, by omega, by go_num, HO, HB⟩
            case measure => simp [intOf]; omega
          · obtain rfl : m = j := by omega
            have HW : Hid (Ls wr (.slice (some ⟨G, 0, none⟩) m m) (weigh A B 1 1)) := by
              have h1 := ho.out
              rw [← PA.out] at h1
              have hl : m = (weigh A B 1 1).length := by rw [weigh_len, ← HN.out, ← HMm.out]; exact HQ.out.2.2
              show Ls _ _ _
              rw [hl] at h1 ⊢
              exact (Own.of_row h1 (by have := HQ.out; rw [← hl]; omega) (Nat.le_refl _)).ls (Nat.le_refl _)
            have HC := mods_any HW.out (ne_of_len (by rw [weigh_len]; have := HN.out; omega)) (by rw [weigh_len]; have := HN.out; have := HMm.out; omega) p HPP.out
            have HS : Hid (w.heap.size ≤ wr.heap.size) := by have := HE.out; have := hb.out.size; show _ ≤ _; omega
            have HBW : Hid (Below w.heap.size w wr) := by have := hb.out; rw [HE.out] at this; exact this
            clear ho hb HE
            go_wp2_with fail
            refine HC.mono ?_
            rintro e w2 ⟨v2, rfl, o, b⟩
            have O2 : Hid (Own w2 w.heap.size w2.heap.size v2 (smt A B p)) := o.wide HS.out (Nat.le_refl _)
            have B2 : Hid (Below w.heap.size w w2) := HBW.out.trans (b.mono HS.out)
            clear o b HC
            go_wp2_with fail
            go_ret
            exact ⟨_, rfl, O2.out, B2.out⟩
  · have hqe : q = n := by omega
    rw [hqe] at PA HQ hq2 hml hqi
    clear hqe
    go_wp2_with (first | (refine wpList_make_full _ rfl (.tmp 14) (.tmp 14) 22 rfl w.heap.size 2 i0 (.int .i64 0) 1 Try.underlying22 hi hz0 hz1 .i64 .i64 _ _ n rfl rfl rfl rfl (by rw [hz2]; omega) hml (Nat.le_refl _) ?_; intro w1 hown hgrow))
    rw [← hG] at hown
    rw [← hG]
    rw [rep_map] at hown
    have hbel : Below G w w1 := (Below.refl G w).grown hgrow (by omega) (by intro k hk; cases hk)
    have HE : Hid (G = w.heap.size) := hG
    obtain ⟨P0, hP0⟩ : ∃ P : List Int, P = List.replicate n 0 := ⟨_, rfl⟩
    rw [← hP0] at hown PA
    have HP0 : Hid (P0.length = n ∧ inR 0 0 P0) := ⟨by rw [hP0]; simp, by rw [hP0]; intro z hz; have := List.eq_of_mem_replicate hz; omega⟩
    have start : Hid (w1.ownsRow G 2 1 (.slice (some ⟨G, 0, none⟩) n n) n ((adr P0 A 0).map (Value.int .i64))) := hown
    have startB : Hid (Below G w w1) := hbel
    clear hgrow hG hP0 hown hbel hqi hi hz0 hz1 hz2 hml
    go_loopw [18] (fun t wr => ∃ (k : Nat), k ≤ n ∧ t = .int .i64 k ∧ Hid (wr.ownsRow G 2 1 (.slice (some ⟨G, 0, none⟩) n n) n ((adr P0 A k).map (Value.int .i64))) ∧ Hid (Below G w wr)) (fun t _ => n - (intOf t).toNat)
    case atStart => exact ⟨0, by omega, rfl, start, startB⟩
    case round =>
      obtain ⟨k, hkm, rfl, ho, hb⟩ := hrel
      clear start startB
      by_cases hlt : k < n
      · have hkq : k < n := by have := HQ.out; omega
        have e1 : wr.cell? ⟨ba, oa + k, none⟩ = some (.int .i64 (at' A k)) := (hb.out.cell (p := ⟨ba, oa + k, none⟩) (by have := HE.out; have := LA.out; show ba < G; omega)).trans (CA.out k _ (at_some A k (by have := HN.out; omega)))
        have hlen : (adr P0 A k).length = n := by rw [adr_len]; exact HP0.out.1
        have e3 : wr.cell? ⟨G, k, none⟩ = some (.int .i64 (at' (adr P0 A k) k)) := by
          rw [ho.out.cellAt k (by omega), List.getElem?_map, at_some _ _ (by rw [hlen]; exact hkq)]; rfl
        have hv : at' (adr P0 A k) k = 0 := by
          rw [adr_at _ _ _ (by rw [HP0.out.1]; omega), if_neg (by omega)]
          have := HP0.out.2.at (by omega) (by omega) k
          omega
        have hp := HBA.out k
        have e4 : wr.frozen? ⟨G, k, none⟩ = false := ho.out.frozenAt k
        have HO : Hid ((wr.drew.setCell ⟨G, k, none⟩ (.int .i64 (at' (adr P0 A k) k + at' A k))).ownsRow G 2 1 (.slice (some ⟨G, 0, none⟩) n n) n ((adr P0 A (k + 1)).map (Value.int .i64))) := by
          have ho' : wr.drew.ownsRow G 2 1 (.slice (some ⟨G, 0, none⟩) n n) n ((adr P0 A k).map (Value.int .i64)) := ho.out
          have := (ho'.stored k (.int .i64 (at' (adr P0 A k) k + at' A k))).1
          rw [← List.map_set] at this
          exact this
        have HB : Hid (Below G w (wr.drew.setCell ⟨G, k, none⟩ (.int .i64 (at' (adr P0 A k) k + at' A k)))) := hb.out.drew.setCell (p := ⟨G, k, none⟩) (Nat.le_refl G) _
        generalize at' (adr P0 A k) k = a at *
        generalize at' A k = y at *
        have hw2 : IntKind.i64.wrap (a + y) = a + y := IntWalk.i64_in _ (by omega)
        have hw4 : wrap64 (a + y) = a + y := IntWalk.wrap64_in _ (by omega)
        clear hv hp ho hb hlen
        go_wp2_with fail
        go_region
        go_wp2
        go_roundw
        case rel => exact ⟨k + 1, by omega, by go_num, HO, HB⟩
        case measure => simp [intOf]; omega
      · obtain rfl : n = k := by omega
        obtain ⟨P1, hP1⟩ : ∃ P : List Int, P = adr P0 A n := ⟨_, rfl⟩
        have HP1 : Hid (P1.length = n ∧ ∀ j, 0 ≤ at' P1 j ∧ at' P1 j ≤ 13) := by
          refine ⟨by rw [hP1, adr_len]; exact HP0.out.1, fun j => ?_⟩
          rw [hP1, adr_at _ _ _ (by have := HQ.out; rw [HP0.out.1]; omega)]
          have := HP0.out.2.at (by omega) (by omega) j
          have := HBA.out j
          by_cases h : j < n
          · rw [if_pos h]; omega
          · rw [if_neg h]; omega
        rw [← hP1] at ho PA
        have start : Hid (wr.ownsRow G 2 1 (.slice (some ⟨G, 0, none⟩) n n) n ((adr P1 B 0).map (Value.int .i64))) := ho
        have startB : Hid (Below G w wr) := hb
        clear ho hb hP1
        go_wp2
        obtain ⟨wz, hwz⟩ : ∃ x, x = wr := ⟨_, rfl⟩
        subst hwz
        go_loopw [34] (fun t wr => ∃ (j : Nat), j ≤ m ∧ t = .int .i64 j ∧ Hid (wr.ownsRow G 2 1 (.slice (some ⟨G, 0, none⟩) n n) n ((adr P1 B j).map (Value.int .i64))) ∧ Hid (Below G w wr)) (fun t _ => m - (intOf t).toNat)
        case atStart => exact ⟨0, by omega, rfl, start, startB⟩
        case round =>
          obtain ⟨j, hjm, rfl, ho, hb⟩ := hrel
          clear start startB
          by_cases hltj : j < m
          · have hkq : j < n := by have := HQ.out; omega
            have e1 : wr.cell? ⟨bb, ob + j, none⟩ = some (.int .i64 (at' B j)) := (hb.out.cell (p := ⟨bb, ob + j, none⟩) (by have := HE.out; have := LB.out; show bb < G; omega)).trans (CB.out j _ (at_some B j (by have := HMm.out; omega)))
            have hlen : (adr P1 B j).length = n := by rw [adr_len]; exact HP1.out.1
            have e3 : wr.cell? ⟨G, j, none⟩ = some (.int .i64 (at' (adr P1 B j) j)) := by
              rw [ho.out.cellAt j (by omega), List.getElem?_map, at_some _ _ (by rw [hlen]; exact hkq)]; rfl
            have hv : 0 ≤ at' (adr P1 B j) j ∧ at' (adr P1 B j) j ≤ 13 := by
              rw [adr_at _ _ _ (by rw [HP1.out.1]; omega), if_neg (by omega)]
              have := HP1.out.2 j
              omega
            have hp := HBB.out j
            have e4 : wr.frozen? ⟨G, j, none⟩ = false := ho.out.frozenAt j
            have HO : Hid ((wr.drew.setCell ⟨G, j, none⟩ (.int .i64 (at' (adr P1 B j) j + at' B j))).ownsRow G 2 1 (.slice (some ⟨G, 0, none⟩) n n) n ((adr P1 B (j + 1)).map (Value.int .i64))) := by
              have ho' : wr.drew.ownsRow G 2 1 (.slice (some ⟨G, 0, none⟩) n n) n ((adr P1 B j).map (Value.int .i64)) := ho.out
              have := (ho'.stored j (.int .i64 (at' (adr P1 B j) j + at' B j))).1
              rw [← List.map_set] at this
              exact this
            have HB : Hid (Below G w (wr.drew.setCell ⟨G, j, none⟩ (.int .i64 (at' (adr P1 B j) j + at' B j)))) := hb.out.drew.setCell (p := ⟨G, j, none⟩) (Nat.le_refl G) _
            generalize at' (adr P1 B j) j = a at *
            generalize at' B j = y at *
            have hw2 : IntKind.i64.wrap (a + y) = a + y := IntWalk.i64_in _ (by omega)
            have hw4 : wrap64 (a + y) = a + y := IntWalk.wrap64_in _ (by omega)
            clear hv hp ho hb hlen
            go_wp2_with fail
            go_region
            go_wp2
            go_roundw
            case rel => exact ⟨j + 1, by omega, by go_num, HO, HB⟩
            case measure => simp [intOf]; omega
          · obtain rfl : m = j := by omega
            have HW : Hid (Ls wr (.slice (some ⟨G, 0, none⟩) n n) (weigh A B 1 1)) := by
              have h1 := ho.out
              rw [← PA.out] at h1
              have hl : n = (weigh A B 1 1).length := by rw [weigh_len, ← HN.out, ← HMm.out]; exact HQ.out.2.2
              show Ls _ _ _
              rw [hl] at h1 ⊢
              exact (Own.of_row h1 (by have := HQ.out; rw [← hl]; omega) (Nat.le_refl _)).ls (Nat.le_refl _)
            have HC := mods_any HW.out (ne_of_len (by rw [weigh_len]; have := HN.out; omega)) (by rw [weigh_len]; have := HN.out; have := HMm.out; omega) p HPP.out
            have HS : Hid (w.heap.size ≤ wr.heap.size) := by have := HE.out; have := hb.out.size; show _ ≤ _; omega
            have HBW : Hid (Below w.heap.size w wr) := by have := hb.out; rw [HE.out] at this; exact this
            clear ho hb HE
            go_wp2_with fail
            refine HC.mono ?_
            rintro e w2 ⟨v2, rfl, o, b⟩
            have O2 : Hid (Own w2 w.heap.size w2.heap.size v2 (smt A B p)) := o.wide HS.out (Nat.le_refl _)
            have B2 : Hid (Below w.heap.size w w2) := HBW.out.trans (b.mono HS.out)
            clear o b HC
            go_wp2_with fail
            go_ret
            exact ⟨_, rfl, O2.out, B2.out⟩
end Go.Proofs.Ytfhcfeafohcjpaa.wh
