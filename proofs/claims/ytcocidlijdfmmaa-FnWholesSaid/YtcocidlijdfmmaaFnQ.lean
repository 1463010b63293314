/- Terms without their content: both sides. -/
import Derived.Test.YtcocidlijdfmmaaFnG
import Derived.Test.YtcocidlijdfmmaaFnO
namespace Go.Pl
def pc (L : List Int) : Int := if at' L (L.length - 1) < 0 then -content L else content L
def prim (L : List Int) : List Int := if content L = 0 then L else L.map fun z => Int.tdiv z (pc L)
theorem prim_len (L : List Int) : (prim L).length = L.length := by
  unfold prim
  split <;> simp
theorem prim_get {L : List Int} (h : content L ≠ 0) {k : Nat} {z : Int} (hk : L[k]? = some z) : (prim L)[k]? = some (Int.tdiv z (pc L)) := by
  unfold prim
  rw [if_neg h, List.getElem?_map, hk]; rfl
theorem prim_ne {L : List Int} (h : L ≠ []) : prim L ≠ [] := fun e => h (List.eq_nil_of_length_eq_zero (by rw [← prim_len L, e]; rfl))
theorem cont_zero {L : List Int} : ∀ k, cont L k = 0 → ∀ j, j < k → at' L j = 0
  | 0, _, _, hj => by omega
  | k + 1, h, j, hj => by
    rw [cont] at h
    have h0 : Int.gcd (cont L k) (at' L k) = 0 := by omega
    obtain ⟨h1, h2⟩ := Int.gcd_eq_zero_iff.1 h0
    by_cases e : j = k
    · rw [e]; exact h2
    · exact cont_zero k h1 j (by omega)
theorem content_zero {L : List Int} (hv : Val L) (h : content L = 0) : L = [0] := by
  have hz := cont_zero (L := L) L.length h
  have hp := hv.pos
  have h1 : L.length = 1 := by
    rcases hv.2.2.2 with h1 | h1
    · exact h1
    · exact absurd (by rw [at_some L _ (by omega), hz _ (by omega)]) h1
  match L, h1 with
  | [a], _ =>
    have := hz 0 (by simp)
    simp [at'] at this
    rw [this]
theorem pc_ne {L : List Int} (h : content L ≠ 0) : pc L ≠ 0 := by
  unfold pc
  split <;> omega
theorem tdiv_bd (z c : Int) (h : -1000000 ≤ z ∧ z ≤ 1000000) : -1000000 ≤ Int.tdiv z c ∧ Int.tdiv z c ≤ 1000000 := by
  have := Int.natAbs_tdiv_le_natAbs z c
  omega
end Go.Pl
namespace Go.Proofs.Ytcocidlijdfmmaa.wh
open Go.RowKit Go.Pl

set_option maxRecDepth 100000 in
set_option maxHeartbeats 3200000 in
theorem iprim_any {v : Value} {L : List Int} {w : World} (h : Ls w v L) (hv : Val L) :
    Calls Try.prog 33 #[v] w fun e w' => ∃ v', e = .returned v' ∧ Own w' w.heap.size w'.heap.size v' (prim L) ∧ Below w.heap.size w w' := by
  have HH : Hid (Ls w v L) := h
  have HVL : Hid (Val L) := hv
  have HNE : Hid (L ≠ []) := hv.ne
  have hL := hv.le
  have HR : Hid (inR (-1000000) 1000000 L) := hv.2.2.1
  obtain ⟨ao, cap, rfl⟩ := h.shape
  have hp0 := hv.pos
  have hcbd : 0 ≤ content L ∧ content L ≤ 1000000 := cont_bd (by omega) hv.2.2.1 L.length
  have HPC : Hid (pc L = if at' L (L.length - 1) < 0 then -content L else content L) := rfl
  have HL0 : Hid (L[L.length - 1]? = some (at' L (L.length - 1))) := at_some L _ (by omega)
  have HP0 : Hid (content L = 0 → prim L = L) := fun e => if_pos e
  have HPG : Hid (content L ≠ 0 → ∀ (k : Nat) (z : Int), L[k]? = some z → (prim L)[k]? = some (Int.tdiv z (pc L))) := fun e k z hz => prim_get e hz
  have HPL : Hid ((prim L).length = L.length) := prim_len L
  obtain ⟨C, hC⟩ : ∃ C, C = content L := ⟨_, rfl⟩
  have HCC : Hid (C = content L) := hC
  rw [← hC] at hcbd HPC HP0 HPG
  obtain ⟨z0, hz0⟩ : ∃ z, z = at' L (L.length - 1) := ⟨_, rfl⟩
  rw [← hz0] at HPC HL0
  clear h hv hC hz0
  obtain ⟨n, hnn⟩ : ∃ n, n = L.length := ⟨_, rfl⟩
  have HN : Hid (n = L.length) := hnn
  rw [← hnn] at hp0 hL HH HPL ⊢
  clear hnn
  go_enter Try.func33, Try.ntmps33
  go_wp2_with fail
  refine (clone_any HH.out HNE.out (by have := HN.out; omega)).mono ?_
  rintro e w1 ⟨v1, rfl, o1, b1⟩
  obtain ⟨ao1, cap1, rfl⟩ := o1.shape
  have O1 : Hid (Own w1 w.heap.size w1.heap.size (.slice ao1 L.length cap1) L) := o1
  have B1 : Hid (Below w.heap.size w w1) := b1
  have H1 : Hid (Ls w1 (.slice ao n cap) L) := HH.out.below b1
  clear o1 b1
  rw [← HN.out] at O1 ⊢
  go_wp2_with fail
  refine (icont_any H1.out HR.out).mono ?_
  rintro e w2 ⟨rfl, hw2⟩
  rw [hw2, ← HCC.out]
  clear hw2
  by_cases hc0 : C = 0
  · have HO : Hid (Own w1 w.heap.size w1.heap.size (.slice ao1 n cap1) (prim L)) := by rw [HP0.out hc0]; exact O1.out
    subst hc0
    go_wp2_with fail
    go_ret
    exact ⟨_, rfl, HO.out, B1.out⟩
  have hcb1 : 1 ≤ C := by omega
  have hcb2 : C ≤ 1000000 := hcbd.2
  have hcb : (C == 0) = false := by rw [beq_eq_false_iff_ne]; exact hc0
  have HPG2 : Hid (∀ (k : Nat) (z : Int), L[k]? = some z → (prim L)[k]? = some (Int.tdiv z (pc L))) := HPG.out hc0
  clear hc0 hcbd HPG HP0
  obtain ⟨_, ⟨e, _⟩ | ⟨g, cp, cs, e, hcp, hlo, hhi, hg, hm, hle, hcs⟩⟩ := O1.out
  · exfalso
    injection e with e1 e2 e3
    omega
  simp only [Value.slice.injEq] at e
  obtain ⟨rfl, hx', rfl⟩ := e
  clear hx'
  have start : Hid (w1.ownsRow w.heap.size 2 1 (.slice (some ⟨g, 0, none⟩) cs.size cs.size) cs.size cs.toList) :=
    ⟨by simp, .inr ⟨g, cs.size, cs, rfl, hlo, hg, Nat.le_refl _, hm, by simp, List.take_of_length_le (by simp)⟩⟩
  have startX : Hid (∀ (j : Nat) (z : Int), L[j]? = some z → cs.toList[j]? = some (.int .i64 z)) := fun j z hz => by
    have := hcs j z hz
    simpa using this
  rw [← HN.out] at hcp hle
  obtain ⟨N, hN⟩ : ∃ N, N = cs.size := ⟨_, rfl⟩
  obtain ⟨ys0, hys0⟩ : ∃ ys, ys = cs.toList := ⟨_, rfl⟩
  rw [← hN, ← hys0] at start
  rw [← hys0] at startX
  rw [← hN] at hle hm
  have HNm : Hid (N ≤ maxLen) := hm
  have HGlo : Hid (w.heap.size ≤ g) := hlo
  clear hcs hg hhi hN hys0 hlo hm
  by_cases hs : z0 < 0
  all_goals
    first
    | (have HCc : Hid (pc L = -C) := by (have := HPC.out; rw [if_pos hs] at this; exact this))
    | (have HCc : Hid (pc L = C) := by (have := HPC.out; rw [if_neg hs] at this; exact this))
    go_wp2_with fail
    refine (last_any H1.out (by exact HL0.out)).mono ?_
    rintro e w2 ⟨rfl, hw2⟩
    rw [hw2]
    clear hw2
    go_wp2_with fail
    go_loopw [20] (fun i wr => ∃ (k : Nat) (ys : List Value), k ≤ n ∧ i = .int .i64 k ∧ Hid (wr.ownsRow w.heap.size 2 1 (.slice (some ⟨g, 0, none⟩) N N) N ys) ∧ Hid (∀ (j : Nat) (z : Int), L[j]? = some z → ys[j]? = some (.int .i64 (if j < k then Int.tdiv z (pc L) else z))) ∧ Hid (Below w.heap.size w wr)) (fun i _ => n - (intOf i).toNat)
    case atStart => exact ⟨0, ys0, by omega, rfl, start, fun j z hz => by rw [if_neg (by omega)]; exact startX.out j z hz, B1⟩
    case round =>
      obtain ⟨k, ys, hk, rfl, ho, hx, hb⟩ := hrel
      clear start startX
      by_cases hlt : k < n
      · obtain ⟨z, hz⟩ := get_some L k (by have := HN.out; omega)
        have e2 : wr.cell? ⟨g, k, none⟩ = some (.int .i64 z) := by
          rw [ho.out.cellAt k (by omega), hx.out k z hz, if_neg (by omega)]
        have e3 : wr.frozen? ⟨g, k, none⟩ = false := ho.out.frozenAt k
        have hyl : ys.length = N := by have := ho.out.1; simpa using this
        have HO : Hid ((wr.setCell ⟨g, k, none⟩ (.int .i64 (Int.tdiv z (pc L)))).ownsRow w.heap.size 2 1 (.slice (some ⟨g, 0, none⟩) N N) N (ys.set k (.int .i64 (Int.tdiv z (pc L))))) := (ho.out.stored k (.int .i64 (Int.tdiv z (pc L)))).1
        have HX : Hid (∀ (j : Nat) (y : Int), L[j]? = some y → (ys.set k (.int .i64 (Int.tdiv z (pc L))))[j]? = some (.int .i64 (if j < k + 1 then Int.tdiv y (pc L) else y))) := by
          intro j y hy
          by_cases hjk : j = k
          · subst hjk
            rw [hz] at hy
            rw [List.getElem?_set_self (by omega), if_pos (by omega), Option.some.inj hy]
          · rw [List.getElem?_set_ne (by omega), hx.out j y hy]
            by_cases hjlt : j < k
            · rw [if_pos hjlt, if_pos (by omega)]
            · rw [if_neg hjlt, if_neg (by omega)]
        have HB : Hid (Below w.heap.size w (wr.setCell ⟨g, k, none⟩ (.int .i64 (Int.tdiv z (pc L))))) := hb.out.setCell (p := ⟨g, k, none⟩) HGlo.out _
        rw [HCc.out] at HO HX HB
        have hq := tdiv_bd z C (HR.out.get hz)
        have hw1 : IntKind.i64.wrap (Int.tdiv z C) = Int.tdiv z C := IntWalk.i64_in _ (by omega)
        have hw2 : wrap64 (Int.tdiv z C) = Int.tdiv z C := IntWalk.wrap64_in _ (by omega)
        have hw3 : IntKind.i64.wrap (-(Int.tdiv z C)) = -(Int.tdiv z C) := IntWalk.i64_in _ (by omega)
        have hw4 : wrap64 (-(Int.tdiv z C)) = -(Int.tdiv z C) := IntWalk.wrap64_in _ (by omega)
        try rw [Int.tdiv_neg] at HO
        try rw [Int.tdiv_neg] at HB
        have hst1 := store_int (b := Int.tdiv z C) e2 e3
        have hst2 := store_int (b := -(Int.tdiv z C)) e2 e3
        clear hq hz hb ho hx hyl
        go_wp2
        go_roundw
        case rel => exact ⟨k + 1, _, by omega, by go_num, HO, by (show ∀ (j : Nat) (z : Int), _ → _; intro j y hy; have := HX.out j y hy; (try rw [Int.tdiv_neg] at this); rw [HCc.out]; exact this), HB⟩
        case measure => simp [intOf]; omega
      · obtain rfl : k = n := by omega
        have HO : Hid (Own wr w.heap.size wr.heap.size (.slice (some ⟨g, 0, none⟩) k cap1) (prim L)) := by
          obtain ⟨h1, ⟨h', _⟩ | ⟨g', cap', cur, h', hB, hg', hnc, hcm, hsz, htk⟩⟩ := ho.out
          · simp at h'
          · simp only [Value.slice.injEq, Option.some.injEq, Addr.mk.injEq, and_true, true_and] at h'
            obtain ⟨rfl, rfl⟩ := h'
            have hpl := HPL.out
            refine ⟨by omega, .inr ⟨g, cap1, cur, by rw [hpl], by omega, hB, (Array.getElem?_eq_some_iff.1 hg').1, hg', by omega, by omega, fun j z hj => ?_⟩⟩
            have hjk : j < k := by have := (List.getElem?_eq_some_iff.1 hj).1; omega
            obtain ⟨y, hy⟩ := get_some L j (by have := HN.out; omega)
            rw [HPG2.out j y hy] at hj
            have := hx.out j y hy
            rw [if_pos hjk, ← htk, List.getElem?_take, if_pos (by omega)] at this
            rw [← Option.some.inj hj]
            simpa using this
        clear ho hx
        go_wp2_with fail
        go_ret
        exact ⟨_, rfl, HO.out, hb.out⟩
end Go.Proofs.Ytcocidlijdfmmaa.wh
