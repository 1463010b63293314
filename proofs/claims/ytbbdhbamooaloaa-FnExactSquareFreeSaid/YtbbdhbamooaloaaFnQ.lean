/- Terms without their content: both sides. -/
import Derived.Test.YtbbdhbamooaloaaFnG
import Derived.Test.YtbbdhbamooaloaaFnO
namespace Go.Pl
def pc (L : List Int) : Int := if at' L (L.length - 1) < 0 then -content L else content L
def prim (L : List Int) : List Int := if content L = 0 then L else L.map fun z => Int.tdiv z (pc L)
theorem prim_len (L : List Int) : (prim L).length = L.length := by
  unfold prim
  split <;> simp
theorem prim_get {L : List Int} (h : content L ≠ 0) {k : Nat} {z : Int} (hk : L[k]? = some z) : (prim L)[k]? = some (Int.tdiv z (pc L)) := by
  unfold prim
  rw [if_neg h, List.getElem?_map, hk]; rfl
theorem prim_ne {L : List Int} (h : L ≠ []) : prim L ≠ [] := fun e => h (List.eq_nil_of_length_eq_zero (by rw [← prim_len L, e]; rfl))
theorem cont_zero {L : List Int} : ∀ k, cont L k = 0 → ∀ j, j < k → at' L j = 0
  | 0, _, _, hj => by omega
  | k + 1, h, j, hj => by
    rw [cont] at h
    have h0 : Int.gcd (cont L k) (at' L k) = 0 := by omega
    obtain ⟨h1, h2⟩ := Int.gcd_eq_zero_iff.1 h0
    by_cases e : j = k
    · rw [e]; exact h2
    · exact cont_zero k h1 j (by omega)
theorem content_zero {L : List Int} (hv : Val L) (h : content L = 0) : L = [0] := by
  have hz := cont_zero (L := L) L.length h
  have hp := hv.pos
  have h1 : L.length = 1 := by
    rcases hv.2.2.2 with h1 | h1
    · exact h1
    · exact absurd (by rw [at_some L _ (by omega), hz _ (by omega)]) h1
  match L, h1 with
  | [a], _ =>
    have := hz 0 (by simp)
    simp [at'] at this
    rw [this]
theorem pc_ne {L : List Int} (h : content L ≠ 0) : pc L ≠ 0 := by
  unfold pc
  split <;> omega
theorem tdiv_bd (z c : Int) (h : -1000000 ≤ z ∧ z ≤ 1000000) : -1000000 ≤ Int.tdiv z c ∧ Int.tdiv z c ≤ 1000000 := by
  have := Int.natAbs_tdiv_le_natAbs z c
  omega
end Go.Pl
namespace Go.Proofs.Ytbbdhbamooaloaa.wh
open Go.RowKit Go.Pl

set_option maxRecDepth 100000 in
set_option maxHeartbeats 3200000 in
theorem sprim_any {v : Value} {L : List Int} {w : World} (h : Ls w v L) (hv : Val L) :
    Calls Try.prog 29 #[v] w fun e w' => ∃ v', e = .returned v' ∧ Own w' w.heap.size w'.heap.size v' (prim L) ∧ Below w.heap.size w w' := by
  have hcont := scont_any h hv.2.2.1
  have HVL : Hid (Val L) := hv
  obtain ⟨i0, hi, hz0, hz1, hz2⟩ := info_parts info_i
  obtain ⟨ao, cap, rfl, hn, hcap, hc⟩ := h
  have hp0 := hv.pos
  have hL := hv.le
  have HR : Hid (inR (-1000000) 1000000 L) := hv.2.2.1
  obtain ⟨b, off, rfl, hbw, hcell⟩ := hc (by omega)
  have HC : Hid (∀ (k : Nat) (z : Int), L[k]? = some z → w.cell? ⟨b, off + k, none⟩ = some (.int .i64 z)) := hcell
  have HBw : Hid (b < w.heap.size) := hbw
  by_cases hc0 : content L = 0
  · have HO : Hid (Own (w.alloc (.cells #[.int .i64 0] 2)) w.heap.size (w.alloc (.cells #[.int .i64 0] 2)).heap.size (.slice (some ⟨w.heap.size, 0, none⟩) 1 1) (prim L)) := by
      have HRr := World.ownsRow_lit (base := w.heap.size) (e := 2) (size := 1) w #[.int .i64 0] 1 (Nat.le_refl _) (by decide) rfl
      have e : prim L = [0] := by unfold prim; rw [if_pos hc0, content_zero hv hc0]
      rw [e]
      exact Own.of_row HRr (by decide) (Nat.le_refl _)
    rw [hc0] at hcont
    clear hi hz0 hz1 hz2 hcell hbw hc hc0 hv
    go_enter Try.func29, Try.ntmps29
    go_wp2_with fail
    refine hcont.mono ?_
    rintro e w1 ⟨rfl, hw1⟩
    rw [hw1]
    clear hw1 hcont
    go_wp2_with fail
    go_ret
    exact ⟨_, rfl, HO.out, new1 _ _⟩
  have HC0 : Hid (content L ≠ 0) := hc0
  have hcb : (content L == 0) = false := by rw [beq_eq_false_iff_ne]; exact hc0
  have hcbd := cont_bd (by omega) hv.2.2.1 L.length
  have HPC : Hid (pc L = if at' L (L.length - 1) < 0 then -content L else content L) := rfl
  have HPN : Hid ((pc L == 0) = false) := by show _ = _; rw [beq_eq_false_iff_ne]; exact pc_ne hc0
  have hcb1 : 1 ≤ content L := by (have : 0 ≤ content L := hcbd.1; omega)
  have hcb2 : content L ≤ 1000000 := hcbd.2
  obtain ⟨C, hC⟩ : ∃ C, C = content L := ⟨_, rfl⟩
  rw [← hC] at hcont hcb hcb1 hcb2 HPC
  obtain ⟨z0, hz0'⟩ := get_some L (L.length - 1) (by omega)
  have eL : w.cell? ⟨b, off + (L.length - 1), none⟩ = some (.int .i64 z0) := HC.out _ _ hz0'
  have hat : at' L (L.length - 1) = z0 := at_get hz0'
  rw [hat] at HPC
  obtain ⟨n, hnn⟩ : ∃ n, n = L.length := ⟨_, rfl⟩
  have HML : Hid ((prim L).length = n) := by show _ = _; rw [prim_len, hnn]
  rw [← hnn] at hn hcap hL hp0 eL hcont
  simp only [← hnn]
  have HN : Hid (n = L.length) := hnn
  have start : Hid ((w.alloc (.cells #[] 2)).ownsRow w.heap.size 2 1 (.slice (some ⟨w.heap.size, 0, none⟩) 0 0) 0 (((prim L).take 0).map (Value.int .i64))) :=
    ⟨rfl, .inr ⟨w.heap.size, 0, #[], rfl, Nat.le_refl _, heap_alloc_new w _, by simp, by decide, rfl, rfl⟩⟩
  have startB : Hid (Below w.heap.size w (w.alloc (.cells #[] 2))) := new1 _ _
  clear hnn hc hcell hbw hv hc0 hcbd hC hat hz0'
  by_cases hs : z0 < 0
  all_goals
    first
    | (have HCc : Hid (pc L = -C) := by (have := HPC.out; rw [if_pos hs] at this; exact this))
    | (have HCc : Hid (pc L = C) := by (have := HPC.out; rw [if_neg hs] at this; exact this))
    have hcn := HPN.out
    rw [HCc.out] at hcn
    go_enter Try.func29, Try.ntmps29
    go_wp2_with fail
    refine hcont.mono ?_
    rintro e w1 ⟨rfl, hw1⟩
    rw [hw1]
    clear hw1
    go_wp2_with fail
    clear hcont eL
    go_loopw [4, 23] (fun o t wr => ∃ (k g cp : Nat), k ≤ n ∧ o = .slice (some ⟨g, 0, none⟩) k cp ∧ t = .int .i64 k ∧ Hid (w.heap.size ≤ g) ∧ Hid (wr.ownsRow w.heap.size 2 1 (.slice (some ⟨g, 0, none⟩) k cp) k (((prim L).take k).map (Value.int .i64))) ∧ Hid (Below w.heap.size w wr)) (fun _ t _ => n - (intOf t).toNat)
    case atStart => exact ⟨0, _, _, by omega, rfl, rfl, Nat.le_refl _, start, startB⟩
    case round =>
      obtain ⟨k, g, cp, hk, rfl, rfl, hg, ho, hb⟩ := hrel
      clear start startB
      by_cases hlt : k < n
      · obtain ⟨z, hz⟩ := get_some L k (by have := HN.out; omega)
        have e1 : wr.cell? ⟨b, off + k, none⟩ = some (.int .i64 z) := (hb.out.cell (p := ⟨b, off + k, none⟩) HBw.out).trans (HC.out k z hz)
        have hzz : Hid (((prim L).take k).map (Value.int .i64) ++ [Value.int .i64 (Int.tdiv z (pc L))] = ((prim L).take (k + 1)).map (Value.int .i64)) := by
          show _ = _
          rw [List.take_add_one, prim_get HC0.out hz]; simp
        rw [HCc.out] at hzz
        have HS : Hid (w.heap.size ≤ wr.heap.size) := hb.out.size
        have hbd := HR.out.get hz
        clear hz
        have hq := tdiv_bd z C hbd
        have hw1 : IntKind.i64.wrap (Int.tdiv z C) = Int.tdiv z C := IntWalk.i64_in _ (by omega)
        have hw2 : wrap64 (Int.tdiv z C) = Int.tdiv z C := IntWalk.wrap64_in _ (by omega)
        have hw3 : IntKind.i64.wrap (-(Int.tdiv z C)) = -(Int.tdiv z C) := IntWalk.i64_in _ (by omega)
        have hw4 : wrap64 (-(Int.tdiv z C)) = -(Int.tdiv z C) := IntWalk.wrap64_in _ (by omega)
        try rw [Int.tdiv_neg] at hzz
        clear hq hbd
        go_wp2_with (first | (at_builtin; refine wpList_append_own _ rfl (.tmp 26) (.tmp 33) 22 rfl w.heap.size 2 i0 (.int .i64 0) 1 8 Try.underlying22 hi hz0 hz1 hz2 rfl (by decide) _ k _ rfl (ho.out.alloc _) ⟨wr.heap.size, 0, none⟩ 1 1 [.int .i64 _] rfl rfl (cell_one_new wr _ _) (by intro u hu; rw [List.mem_singleton] at hu; subst hu; rfl) (by unfold maxLen; omega) (by omega) (by have := HS.out; simp; omega) ?_; intro v' w3 hown' hgrow _))
        obtain ⟨g', cap', rfl⟩ := own_shape hown' (by omega)
        rw [hzz.out] at hown'
        have HG : Hid (w.heap.size ≤ g') := by
          rcases hown'.2 with ⟨h', _⟩ | ⟨g2, cap2, cur, h', hB, _⟩
          · simp at h'
          · simp only [Value.slice.injEq, Option.some.injEq, Addr.mk.injEq, and_true] at h'
            obtain ⟨rfl, _⟩ := h'
            exact hB
        have HO : Hid (w3.ownsRow w.heap.size 2 1 (.slice (some ⟨g', 0, none⟩) (k + 1) cap') (k + 1) (((prim L).take (k + 1)).map (Value.int .i64))) := hown'
        have HB : Hid (Below w.heap.size w w3) := (hb.out.alloc HS.out _).grown hgrow (by have := HS.out; simp; omega) (by intro j hj; have hj' : some g = some j := hj; injection hj' with hj'; have := hg.out; omega)
        clear hown' hgrow
        go_roundw
        case rel => exact ⟨k + 1, g', cap', by omega, rfl, by go_num, HG, HO, HB⟩
        case measure => simp [RowKit.intOf]; omega
      · obtain rfl : k = n := by omega
        have ho' := ho.out
        rw [List.take_of_length_le (by have := HML.out; omega)] at ho'
        have HO : Hid (Own wr w.heap.size wr.heap.size (.slice (some ⟨g, 0, none⟩) k cp) (prim L)) := by
          have h1 := HML.out
          have h2 : wr.ownsRow w.heap.size 2 1 (.slice (some ⟨g, 0, none⟩) k cp) (prim L).length ((prim L).map (Value.int .i64)) := by rw [h1]; exact ho'
          exact Own.of_row h2 (by omega) (Nat.le_refl _)
        clear ho ho' hi hz0 hz1 hz2
        go_wp2_with fail
        go_ret
        exact ⟨_, rfl, HO.out, hb.out⟩

set_option maxRecDepth 100000 in
set_option maxHeartbeats 3200000 in
theorem iprim_any {v : Value} {L : List Int} {w : World} (h : Ls w v L) (hv : Val L) :
    Calls Try.prog 80 #[v] w fun e w' => ∃ v', e = .returned v' ∧ Own w' w.heap.size w'.heap.size v' (prim L) ∧ Below w.heap.size w w' := by
  have HH : Hid (Ls w v L) := h
  have HVL : Hid (Val L) := hv
  have HNE : Hid (L ≠ []) := hv.ne
  have hL := hv.le
  have HR : Hid (inR (-1000000) 1000000 L) := hv.2.2.1
  obtain ⟨ao, cap, rfl⟩ := h.shape
  have hp0 := hv.pos
  have hcbd : 0 ≤ content L ∧ content L ≤ 1000000 := cont_bd (by omega) hv.2.2.1 L.length
  have HPC : Hid (pc L = if at' L (L.length - 1) < 0 then -content L else content L) := rfl
  have HL0 : Hid (L[L.length - 1]? = some (at' L (L.length - 1))) := at_some L _ (by omega)
  have HP0 : Hid (content L = 0 → prim L = L) := fun e => if_pos e
  have HPG : Hid (content L ≠ 0 → ∀ (k : Nat) (z : Int), L[k]? = some z → (prim L)[k]? = some (Int.tdiv z (pc L))) := fun e k z hz => prim_get e hz
  have HPL : Hid ((prim L).length = L.length) := prim_len L
  obtain ⟨C, hC⟩ : ∃ C, C = content L := ⟨_, rfl⟩
  have HCC : Hid (C = content L) := hC
  rw [← hC] at hcbd HPC HP0 HPG
  obtain ⟨z0, hz0⟩ : ∃ z, z = at' L (L.length - 1) := ⟨_, rfl⟩
  rw [← hz0] at HPC HL0
  clear h hv hC hz0
  obtain ⟨n, hnn⟩ : ∃ n, n = L.length := ⟨_, rfl⟩
  have HN : Hid (n = L.length) := hnn
  rw [← hnn] at hp0 hL HH HPL ⊢
  clear hnn
  go_enter Try.func80, Try.ntmps80
  go_wp2_with fail
  refine (clone_any HH.out HNE.out (by have := HN.out; omega)).mono ?_
  rintro e w1 ⟨v1, rfl, o1, b1⟩
  obtain ⟨ao1, cap1, rfl⟩ := o1.shape
  have O1 : Hid (Own w1 w.heap.size w1.heap.size (.slice ao1 L.length cap1) L) := o1
  have B1 : Hid (Below w.heap.size w w1) := b1
  have H1 : Hid (Ls w1 (.slice ao n cap) L) := HH.out.below b1
  clear o1 b1
  rw [← HN.out] at O1 ⊢
  go_wp2_with fail
  refine (icont_any H1.out HR.out).mono ?_
  rintro e w2 ⟨rfl, hw2⟩
  rw [hw2, ← HCC.out]
  clear hw2
  by_cases hc0 : C = 0
  · have HO : Hid (Own w1 w.heap.size w1.heap.size (.slice ao1 n cap1) (prim L)) := by rw [HP0.out hc0]; exact O1.out
    subst hc0
    go_wp2_with fail
    go_ret
    exact ⟨_, rfl, HO.out, B1.out⟩
  have hcb1 : 1 ≤ C := by omega
  have hcb2 : C ≤ 1000000 := hcbd.2
  have hcb : (C == 0) = false := by rw [beq_eq_false_iff_ne]; exact hc0
  have HPG2 : Hid (∀ (k : Nat) (z : Int), L[k]? = some z → (prim L)[k]? = some (Int.tdiv z (pc L))) := HPG.out hc0
  clear hc0 hcbd HPG HP0
  obtain ⟨_, ⟨e, _⟩ | ⟨g, cp, cs, e, hcp, hlo, hhi, hg, hm, hle, hcs⟩⟩ := O1.out
  · exfalso
    injection e with e1 e2 e3
    omega
  simp only [Value.slice.injEq] at e
  obtain ⟨rfl, hx', rfl⟩ := e
  clear hx'
  have start : Hid (w1.ownsRow w.heap.size 2 1 (.slice (some ⟨g, 0, none⟩) cs.size cs.size) cs.size cs.toList) :=
    ⟨by simp, .inr ⟨g, cs.size, cs, rfl, hlo, hg, Nat.le_refl _, hm, by simp, List.take_of_length_le (by simp)⟩⟩
  have startX : Hid (∀ (j : Nat) (z : Int), L[j]? = some z → cs.toList[j]? = some (.int .i64 z)) := fun j z hz => by
    have := hcs j z hz
    simpa using this
  rw [← HN.out] at hcp hle
  obtain ⟨N, hN⟩ : ∃ N, N = cs.size := ⟨_, rfl⟩
  obtain ⟨ys0, hys0⟩ : ∃ ys, ys = cs.toList := ⟨_, rfl⟩
  rw [← hN, ← hys0] at start
  rw [← hys0] at startX
  rw [← hN] at hle hm
  have HNm : Hid (N ≤ maxLen) := hm
  have HGlo : Hid (w.heap.size ≤ g) := hlo
  clear hcs hg hhi hN hys0 hlo hm
  by_cases hs : z0 < 0
  all_goals
    first
    | (have HCc : Hid (pc L = -C) := by (have := HPC.out; rw [if_pos hs] at this; exact this))
    | (have HCc : Hid (pc L = C) := by (have := HPC.out; rw [if_neg hs] at this; exact this))
    go_wp2_with fail
    refine (last_any H1.out (by exact HL0.out)).mono ?_
    rintro e w2 ⟨rfl, hw2⟩
    rw [hw2]
    clear hw2
    go_wp2_with fail
    go_loopw [20] (fun i wr => ∃ (k : Nat) (ys : List Value), k ≤ n ∧ i = .int .i64 k ∧ Hid (wr.ownsRow w.heap.size 2 1 (.slice (some ⟨g, 0, none⟩) N N) N ys) ∧ Hid (∀ (j : Nat) (z : Int), L[j]? = some z → ys[j]? = some (.int .i64 (if j < k then Int.tdiv z (pc L) else z))) ∧ Hid (Below w.heap.size w wr)) (fun i _ => n - (intOf i).toNat)
    case atStart => exact ⟨0, ys0, by omega, rfl, start, fun j z hz => by rw [if_neg (by omega)]; exact startX.out j z hz, B1⟩
    case round =>
      obtain ⟨k, ys, hk, rfl, ho, hx, hb⟩ := hrel
      clear start startX
      by_cases hlt : k < n
      · obtain ⟨z, hz⟩ := get_some L k (by have := HN.out; omega)
        have e2 : wr.cell? ⟨g, k, none⟩ = some (.int .i64 z) := by
          rw [ho.out.cellAt k (by omega), hx.out k z hz, if_neg (by omega)]
        have e3 : wr.frozen? ⟨g, k, none⟩ = false := ho.out.frozenAt k
        have hyl : ys.length = N := by have := ho.out.1; simpa using this
        have HO : Hid ((wr.setCell ⟨g, k, none⟩ (.int .i64 (Int.tdiv z (pc L)))).ownsRow w.heap.size 2 1 (.slice (some ⟨g, 0, none⟩) N N) N (ys.set k (.int .i64 (Int.tdiv z (pc L))))) := (ho.out.stored k (.int .i64 (Int.tdiv z (pc L)))).1
        have HX : Hid (∀ (j : Nat) (y : Int), L[j]? = some y → (ys.set k (.int .i64 (Int.tdiv z (pc L))))[j]? = some (.int .i64 (if j < k + 1 then Int.tdiv y (pc L) else y))) := by
          intro j y hy
          by_cases hjk : j = k
          · subst hjk
            rw [hz] at hy
            rw [List.getElem?_set_self (by omega), if_pos (by omega), Option.some.inj hy]
          · rw [List.getElem?_set_ne (by omega), hx.out j y hy]
            by_cases hjlt : j < k
            · rw [if_pos hjlt, if_pos (by omega)]
            · rw [if_neg hjlt, if_neg (by omega)]
        have HB : Hid (Below w.heap.size w (wr.setCell ⟨g, k, none⟩ (.int .i64 (Int.tdiv z (pc L))))) := hb.out.setCell (p := ⟨g, k, none⟩) HGlo.out _
        rw [HCc.out] at HO HX HB
        have hq := tdiv_bd z C (HR.out.get hz)
        have hw1 : IntKind.i64.wrap (Int.tdiv z C) = Int.tdiv z C := IntWalk.i64_in _ (by omega)
        have hw2 : wrap64 (Int.tdiv z C) = Int.tdiv z C := IntWalk.wrap64_in _ (by omega)
        have hw3 : IntKind.i64.wrap (-(Int.tdiv z C)) = -(Int.tdiv z C) := IntWalk.i64_in _ (by omega)
        have hw4 : wrap64 (-(Int.tdiv z C)) = -(Int.tdiv z C) := IntWalk.wrap64_in _ (by omega)
        try rw [Int.tdiv_neg] at HO
        try rw [Int.tdiv_neg] at HB
        have hst1 := store_int (b := Int.tdiv z C) e2 e3
        have hst2 := store_int (b := -(Int.tdiv z C)) e2 e3
        clear hq hz hb ho hx hyl
        go_wp2
        go_roundw
        case rel => exact ⟨k + 1, _, by omega, by go_num, HO, by (show ∀ (j : Nat) (z : Int), _ → _; intro j y hy; have := HX.out j y hy; (try rw [Int.tdiv_neg] at this); rw [HCc.out]; exact this), HB⟩
        case measure => simp [intOf]; omega
      · obtain rfl : k = n := by omega
        have HO : Hid (Own wr w.heap.size wr.heap.size (.slice (some ⟨g, 0, none⟩) k cap1) (prim L)) := by
          obtain ⟨h1, ⟨h', _⟩ | ⟨g', cap', cur, h', hB, hg', hnc, hcm, hsz, htk⟩⟩ := ho.out
          · simp at h'
          · simp only [Value.slice.injEq, Option.some.injEq, Addr.mk.injEq, and_true, true_and] at h'
            obtain ⟨rfl, rfl⟩ := h'
            have hpl := HPL.out
            refine ⟨by omega, .inr ⟨g, cap1, cur, by rw [hpl], by omega, hB, (Array.getElem?_eq_some_iff.1 hg').1, hg', by omega, by omega, fun j z hj => ?_⟩⟩
            have hjk : j < k := by have := (List.getElem?_eq_some_iff.1 hj).1; omega
            obtain ⟨y, hy⟩ := get_some L j (by have := HN.out; omega)
            rw [HPG2.out j y hy] at hj
            have := hx.out j y hy
            rw [if_pos hjk, ← htk, List.getElem?_take, if_pos (by omega)] at this
            rw [← Option.some.inj hj]
            simpa using this
        clear ho hx
        go_wp2_with fail
        go_ret
        exact ⟨_, rfl, HO.out, hb.out⟩
end Go.Proofs.Ytbbdhbamooaloaa.wh
