/- Wholes of roots of 1: the terms that both sides make. -/
import Derived.Test.YtdammgflmkamaaaCyP
import Derived.Test.YtdammgflmkamaaaDvF
namespace Go.Proofs.Ytdammgflmkamaaa.wh
open Go.RowKit Go.Pl

theorem Gq_all {A B : List Int} (h : Gq A B) : (1 ≤ A.length ∧ A.length ≤ 40) ∧ (1 ≤ B.length ∧ B.length ≤ 17) ∧ Bd 1000000 A ∧ Bd 1000000 B ∧ at' B (B.length - 1) ≠ 0 ∧ A[A.length - 1]? ≠ some 0 ∧ exok A B = true :=
  ⟨⟨h.1.1, h.1.2.1⟩, h.1.2.2, inR.bd h.2.1.1 (by omega), inR.bd h.2.1.2 (by omega), h.2.2.1, h.2.2.2.1, h.2.2.2.2⟩

set_option maxRecDepth 100000 in
set_option maxHeartbeats 3200000 in
theorem icyc_any : ∀ n : Nat, 1 ≤ n → n < 31 → ∀ w : World, Calls Try.prog 39 #[.int .i64 n] w fun e w' => ∃ v, e = .returned v ∧ Own w' w.heap.size w'.heap.size v (cyc n) ∧ Below w.heap.size w w' := by
  intro n
  induction n using Nat.strongRecOn with
  | ind n ih =>
  intro h1 h31 w
  obtain ⟨i0, hi, hz0, hz1, hz2⟩ := info_parts info_i
  obtain ⟨i1, i2⟩ := cy_i n h31 h1
  have I1 : Hid (cyc n = cyi n (divs n n).length) := i1
  have I2 : Hid (∀ j < (divs n n).length, 1 ≤ at' (divs n n) j ∧ at' (divs n n) j ≤ n ∧ (at' (divs n n) j < n → Gq (cyi n j) (cyc (at' (divs n n) j).toNat))) := i2
  have IH : Hid (∀ m < n, 1 ≤ m → m < 31 → ∀ w : World, Calls Try.prog 39 #[.int .i64 m] w fun e w' => ∃ v, e = .returned v ∧ Own w' w.heap.size w'.heap.size v (cyc m) ∧ Below w.heap.size w w') := ih
  have HD : Hid (∀ w, Calls Try.prog 71 #[.int .i64 n] w fun e w' => ∃ v', e = .returned v' ∧ Own w' w.heap.size w'.heap.size v' (divs n n) ∧ Below w.heap.size w w') := fun w => divs_any n h1 (by omega) w
  have hD8 := (cy_n n h31 h1).2.2
  obtain ⟨D, hDD⟩ : ∃ D, D = divs n n := ⟨_, rfl⟩
  rw [← hDD] at HD I1 I2 hD8
  have HC : Hid (∀ j, cyi n (j + 1) = if at' D j < n then exq (cyi n j) (cyc (at' D j).toNat) else cyi n j) := fun j => by rw [hDD]; rfl
  clear i1 i2 ih hDD
  have hml : n + 1 ≤ maxLen := by unfold maxLen; omega
  have hn1 : ((n + 1 : Nat) : Int) = (n : Int) + 1 := by omega
  obtain ⟨B, hB⟩ : ∃ B, B = w.heap.size := ⟨_, rfl⟩
  go_enter Try.func39, Try.ntmps39
  go_upto_region 1 with fail
  go_cut [3] (fun v wc => v = .slice (some ⟨w.heap.size, 0, none⟩) (n + 1) (n + 1) ∧ Hid (Own wc w.heap.size wc.heap.size (.slice (some ⟨w.heap.size, 0, none⟩) (n + 1) (n + 1)) (List.replicate (n + 1) 0)) ∧ Hid (Below w.heap.size w wc))
  case first =>
    go_wp2_with (first | (refine wpList_make_full _ rfl (.tmp 7) (.tmp 7) 22 rfl w.heap.size 2 i0 (.int .i64 0) 1 Try.underlying22 hi hz0 hz1 .i64 .i64 _ _ (n + 1) rfl rfl rfl rfl (by rw [hz2]; omega) hml (Nat.le_refl _) ?_; intro wm hown hgrow))
    go_meet
    rw [rep_map] at hown
    refine ⟨rfl, ?_, (Below.refl _ _).grown hgrow (Nat.le_refl _) (by intro k hk; cases hk)⟩
    have h2 : wm.ownsRow w.heap.size 2 1 (.slice (some ⟨w.heap.size, 0, none⟩) (n + 1) (n + 1)) (List.replicate (n + 1) (0 : Int)).length ((List.replicate (n + 1) (0 : Int)).map (Value.int .i64)) := by rw [List.length_replicate]; exact hown
    have := Own.of_row h2 (by simp; omega) (Nat.le_refl wm.heap.size)
    exact this
  case rest =>
    obtain ⟨rfl, ho, hb⟩ := hcut
    have e1 : wc.cell? ⟨w.heap.size, 0, none⟩ = some (.int .i64 0) := ho.out.cell (k := 0) (z := 0) (by rw [List.getElem?_replicate, if_pos (by omega)])
    have f1 : wc.frozen? ⟨w.heap.size, 0, none⟩ = false := ho.out.free 0
    have o1 := ho.out.put 0 (-1)
    have e2 : (wc.setCell ⟨w.heap.size, 0, none⟩ (.int .i64 (-1))).cell? ⟨w.heap.size, n, none⟩ = some (.int .i64 0) := o1.cell (k := n) (z := 0) (by rw [List.getElem?_set_ne (by omega), List.getElem?_replicate, if_pos (by omega)])
    have f2 : (wc.setCell ⟨w.heap.size, 0, none⟩ (.int .i64 (-1))).frozen? ⟨w.heap.size, n, none⟩ = false := o1.free n
    have hlen : (xn1 n).length = n + 1 := by simp [xn1]
    have O2 : Hid (Own ((wc.setCell ⟨w.heap.size, 0, none⟩ (.int .i64 (-1))).setCell ⟨w.heap.size, n, none⟩ (.int .i64 1)) w.heap.size wc.heap.size (.slice (some ⟨w.heap.size, 0, none⟩) (n + 1) (n + 1)) (xn1 n)) := o1.put n 1
    have B2 : Hid (Below w.heap.size w ((wc.setCell ⟨w.heap.size, 0, none⟩ (.int .i64 (-1))).setCell ⟨w.heap.size, n, none⟩ (.int .i64 1))) := (hb.out.setCell (Nat.le_refl _) _).setCell (Nat.le_refl _) _
    have HSZ : Hid (wc.heap.size = ((wc.setCell ⟨w.heap.size, 0, none⟩ (.int .i64 (-1))).setCell ⟨w.heap.size, n, none⟩ (.int .i64 1)).heap.size) := by show _ = _; simp [World.setCell]
    have hst1 := store_int (b := -1) e1 f1
    have hst2 := store_int (b := 1) e2 f2
    have hn0 : (0 : Int) ≤ (n : Int) := by omega
    have hnl : (n : Int) < ((n + 1 : Nat) : Int) := by omega
    clear ho hb o1 hi hz0 hz1 hz2
    obtain ⟨W, hW⟩ : ∃ W, W = (wc.setCell ⟨w.heap.size, 0, none⟩ (.int .i64 (-1))).setCell ⟨w.heap.size, n, none⟩ (.int .i64 1) := ⟨_, rfl⟩
    rw [← hW] at O2 B2 HSZ
    go_wp2_with fail
    rw [← hW]
    clear hW hst1 hst2 e1 e2 f1 f2
    refine (HD.out _).mono ?_
    rintro e w1 ⟨v1, rfl, o, b⟩
    obtain ⟨ao, cap, rfl⟩ := o.shape
    have LD : Hid (Ls w1 (.slice ao D.length cap) D) := o.ls (Nat.le_refl _)
    have B1 : Hid (Below w.heap.size w w1) := B2.out.trans (b.mono B2.out.size)
    have O1 : Hid (Own w1 w.heap.size w1.heap.size (.slice (some ⟨w.heap.size, 0, none⟩) (n + 1) (n + 1)) (xn1 n)) := (O2.out.kept b).wide (Nat.le_refl _) (by rw [HSZ.out]; exact b.size)
    obtain ⟨_, hcap, hcc⟩ := LD.out.use
    have HCC : Hid (D.length ≠ 0 → ∃ b off, ao = some ⟨b, off, none⟩ ∧ b < w1.heap.size ∧ ∀ (k : Nat) (z : Int), D[k]? = some z → w1.cell? ⟨b, off + k, none⟩ = some (.int .i64 z)) := hcc
    clear o b HD hcc O2 B2 HSZ
    obtain ⟨q, hq⟩ : ∃ q, q = D.length := ⟨_, rfl⟩
    rw [← hq] at hcap hD8 HCC I1 I2 LD
    simp only [← hq]
    have HQ : Hid (q = D.length) := hq
    clear hq
    go_wp2_with fail
    go_loopw [3, 17] (fun c t wr => ∃ (j l cp : Nat) (ga : Option Addr), j ≤ q ∧ t = .int .i64 j ∧ c = .slice ga l cp ∧ Hid (l = (cyi n j).length) ∧ Hid (Own wr w.heap.size wr.heap.size (.slice ga l cp) (cyi n j)) ∧ Hid (Below w1.heap.size w1 wr)) (fun _ t _ => q - (intOf t).toNat)
    case atStart => exact ⟨0, _, _, _, by omega, rfl, rfl, hlen.symm, O1, Below.refl _ _⟩
    case round =>
      obtain ⟨j, l, cp, ga, hj, rfl, rfl, hl, ho, hb⟩ := hrel
      clear O1
      by_cases hltj : j < q
      · obtain ⟨b, off, rfl, hbl, hcell⟩ := HCC.out (by omega)
        have e1 : wr.cell? ⟨b, off + j, none⟩ = some (.int .i64 (at' D j)) := (hb.out.cell (p := ⟨b, off + j, none⟩) hbl).trans (hcell j _ (at_some D j (by have := HQ.out; omega)))
        have h3 := I2.out j hltj
        obtain ⟨d, hd⟩ : ∃ d : Nat, at' D j = (d : Int) := ⟨(at' D j).toNat, by omega⟩
        have hcs := HC.out j
        rw [hd] at e1 h3 hcs
        clear hcell hbl
        by_cases hdn : d < n
        · rw [if_pos (by omega), Int.toNat_natCast] at hcs
          have hG : Gq (cyi n j) (cyc d) := by have := h3.2.2 (by omega); rw [Int.toNat_natCast] at this; exact this
          have HG : Hid (Gq (cyi n j) (cyc d)) := hG
          have HNX : Hid (cyi n (j + 1) = exq (cyi n j) (cyc d)) := hcs
          have hcall := IH.out d hdn (by omega) (by omega) wr
          have BB : Hid (Below w1.heap.size w1 wr) := hb
          have OO : Hid (Own wr w.heap.size wr.heap.size (.slice ga l cp) (cyi n j)) := ho
          have h3' : 1 ≤ (d : Int) ∧ (d : Int) ≤ n := ⟨h3.1, h3.2.1⟩
          clear hb ho hcs hG h3 hd
          go_wp2_with fail
          refine hcall.mono ?_
          rintro e w2 ⟨v2, rfl, o2, b2⟩
          have L2 : Hid (Ls w2 v2 (cyc d)) := o2.ls (Nat.le_refl _)
          have T2 : Hid (Ls w2 (.slice ga l cp) (cyi n j)) := (OO.out.kept b2).ls b2.size
          have B2 : Hid (Below w1.heap.size w1 w2) := BB.out.trans (b2.mono BB.out.size)
          have S2 : Hid (w.heap.size ≤ w2.heap.size) := Nat.le_trans (Nat.le_trans B1.out.size BB.out.size) b2.size
          clear b2 hcall o2 OO BB
          obtain ⟨g1, g2, g3, g4, g5, g6, g7⟩ := Gq_all HG.out
          have HG7 : Hid (exok (cyi n j) (cyc d) = true) := g7
          go_wp2_with fail
          refine (ieq_any T2.out L2.out g1 g2 g3 g4 g5).mono ?_
          rintro e w3 ⟨vq, rfl, oq, b3⟩
          rw [HG7.out] at oq
          have o3 := oq rfl
          rw [← HNX.out] at o3
          obtain ⟨qa, qc, rfl⟩ := o3.shape
          have O3 : Hid (Own w3 w.heap.size w3.heap.size (.slice qa (cyi n (j + 1)).length qc) (cyi n (j + 1))) := o3.wide S2.out (Nat.le_refl _)
          have B3 : Hid (Below w1.heap.size w1 w3) := B2.out.trans (b3.mono B2.out.size)
          clear o3 oq b3 g1 g2 g3 g4 g5 g6 g7 HG HNX HG7 hl T2 L2
          obtain ⟨l3, hl3⟩ : ∃ l, l = (cyi n (j + 1)).length := ⟨_, rfl⟩
          rw [← hl3] at O3 ⊢
          have HL3 : Hid (l3 = (cyi n (j + 1)).length) := hl3
          clear hl3
          go_wp2_with fail
          go_roundw
          case rel => exact ⟨j + 1, l3, _, _, by omega, by go_num, rfl, HL3, O3, B3⟩
          case measure => simp [intOf]; omega
        · rw [if_neg (by omega)] at hcs
          have HL3 : Hid (l = (cyi n (j + 1)).length) := by show _ = _; rw [hcs]; exact hl.out
          have O3 : Hid (Own wr w.heap.size wr.heap.size (.slice ga l cp) (cyi n (j + 1))) := by rw [hcs]; exact ho
          have h3' : (d : Int) = n := by omega
          clear hd hcs h3 ho
          go_wp2_with fail
          go_roundw
          case rel => exact ⟨j + 1, l, _, _, by omega, by go_num, rfl, HL3, O3, hb⟩
          case measure => simp [intOf]; omega
      · obtain rfl : q = j := by omega
        have O3 : Hid (Own wr w.heap.size wr.heap.size (.slice ga l cp) (cyc n)) := by rw [I1.out]; exact ho
        have B3 : Hid (Below w.heap.size w wr) := B1.out.trans (hb.out.mono B1.out.size)
        clear ho hb hl
        go_wp2_with fail
        go_ret
        exact ⟨_, rfl, O3.out, B3.out⟩
set_option maxRecDepth 100000 in
set_option maxHeartbeats 3200000 in
theorem scyc_any : ∀ n : Nat, 1 ≤ n → n < 31 → ∀ w : World, Calls Try.prog 36 #[.int .i64 n] w fun e w' => ∃ v, e = .returned v ∧ Own w' w.heap.size w'.heap.size v (cyc n) ∧ Below w.heap.size w w' := by
  intro n
  induction n using Nat.strongRecOn with
  | ind n ih =>
  intro h1 h31 w
  obtain ⟨i0, hi, hz0, hz1, hz2⟩ := info_parts info_i
  obtain ⟨i1, i2⟩ := cy_s n h31 h1
  have I1 : Hid (cyc n = cys n (n - 1)) := i1
  have I2 : Hid (∀ j < n - 1, n % (j + 1) = 0 → Gq (cys n j) (cyc (j + 1))) := i2
  have IH : Hid (∀ m < n, 1 ≤ m → m < 31 → ∀ w : World, Calls Try.prog 36 #[.int .i64 m] w fun e w' => ∃ v, e = .returned v ∧ Own w' w.heap.size w'.heap.size v (cyc m) ∧ Below w.heap.size w w') := ih
  have HC : Hid (∀ j, cys n (j + 1) = if n % (j + 1) = 0 then exq (cys n j) (cyc (j + 1)) else cys n j) := fun j => rfl
  clear i1 i2 ih
  have hml : n + 1 ≤ maxLen := by unfold maxLen; omega
  have hn1 : ((n + 1 : Nat) : Int) = (n : Int) + 1 := by omega
  obtain ⟨B, hB⟩ : ∃ B, B = w.heap.size := ⟨_, rfl⟩
  go_enter Try.func36, Try.ntmps36
  go_upto_region 1 with fail
  go_cut [3] (fun v wc => v = .slice (some ⟨w.heap.size, 0, none⟩) (n + 1) (n + 1) ∧ Hid (Own wc w.heap.size wc.heap.size (.slice (some ⟨w.heap.size, 0, none⟩) (n + 1) (n + 1)) (List.replicate (n + 1) 0)) ∧ Hid (Below w.heap.size w wc))
  case first =>
    go_wp2_with (first | (refine wpList_make_full _ rfl (.tmp 6) (.tmp 6) 22 rfl w.heap.size 2 i0 (.int .i64 0) 1 Try.underlying22 hi hz0 hz1 .i64 .i64 _ _ (n + 1) rfl rfl rfl rfl (by rw [hz2]; omega) hml (Nat.le_refl _) ?_; intro wm hown hgrow))
    go_meet
    rw [rep_map] at hown
    refine ⟨rfl, ?_, (Below.refl _ _).grown hgrow (Nat.le_refl _) (by intro k hk; cases hk)⟩
    have h2 : wm.ownsRow w.heap.size 2 1 (.slice (some ⟨w.heap.size, 0, none⟩) (n + 1) (n + 1)) (List.replicate (n + 1) (0 : Int)).length ((List.replicate (n + 1) (0 : Int)).map (Value.int .i64)) := by rw [List.length_replicate]; exact hown
    have := Own.of_row h2 (by simp; omega) (Nat.le_refl wm.heap.size)
    exact this
  case rest =>
    obtain ⟨rfl, ho, hb⟩ := hcut
    have e1 : wc.cell? ⟨w.heap.size, 0, none⟩ = some (.int .i64 0) := ho.out.cell (k := 0) (z := 0) (by rw [List.getElem?_replicate, if_pos (by omega)])
    have f1 : wc.frozen? ⟨w.heap.size, 0, none⟩ = false := ho.out.free 0
    have o1 := ho.out.put 0 (-1)
    have e2 : (wc.setCell ⟨w.heap.size, 0, none⟩ (.int .i64 (-1))).cell? ⟨w.heap.size, n, none⟩ = some (.int .i64 0) := o1.cell (k := n) (z := 0) (by rw [List.getElem?_set_ne (by omega), List.getElem?_replicate, if_pos (by omega)])
    have f2 : (wc.setCell ⟨w.heap.size, 0, none⟩ (.int .i64 (-1))).frozen? ⟨w.heap.size, n, none⟩ = false := o1.free n
    have hlen : (xn1 n).length = n + 1 := by simp [xn1]
    have O2 : Hid (Own ((wc.setCell ⟨w.heap.size, 0, none⟩ (.int .i64 (-1))).setCell ⟨w.heap.size, n, none⟩ (.int .i64 1)) w.heap.size wc.heap.size (.slice (some ⟨w.heap.size, 0, none⟩) (n + 1) (n + 1)) (xn1 n)) := o1.put n 1
    have B2 : Hid (Below w.heap.size w ((wc.setCell ⟨w.heap.size, 0, none⟩ (.int .i64 (-1))).setCell ⟨w.heap.size, n, none⟩ (.int .i64 1))) := (hb.out.setCell (Nat.le_refl _) _).setCell (Nat.le_refl _) _
    have HSZ : Hid (wc.heap.size = ((wc.setCell ⟨w.heap.size, 0, none⟩ (.int .i64 (-1))).setCell ⟨w.heap.size, n, none⟩ (.int .i64 1)).heap.size) := by show _ = _; simp [World.setCell]
    have hst1 := store_int (b := -1) e1 f1
    have hst2 := store_int (b := 1) e2 f2
    have hn0 : (0 : Int) ≤ (n : Int) := by omega
    have hnl : (n : Int) < ((n + 1 : Nat) : Int) := by omega
    clear ho hb o1 hi hz0 hz1 hz2
    obtain ⟨W, hW⟩ : ∃ W, W = (wc.setCell ⟨w.heap.size, 0, none⟩ (.int .i64 (-1))).setCell ⟨w.heap.size, n, none⟩ (.int .i64 1) := ⟨_, rfl⟩
    rw [← hW] at O2 B2 HSZ
    go_wp2_with fail
    rw [← hW]
    clear hW hst1 hst2 e1 e2 f1 f2
    have B1 : Hid (Below w.heap.size w W) := B2
    have O1 : Hid (Own W w.heap.size W.heap.size (.slice (some ⟨w.heap.size, 0, none⟩) (n + 1) (n + 1)) (xn1 n)) := by have h := HSZ.out; rw [← h]; exact O2.out
    clear O2 B2 HSZ
    go_loopw [3, 4] (fun c t wr => ∃ (j l cp : Nat) (ga : Option Addr), j ≤ n - 1 ∧ t = .int .i64 ((j + 1 : Nat) : Int) ∧ c = .slice ga l cp ∧ Hid (l = (cys n j).length) ∧ Hid (Own wr w.heap.size wr.heap.size (.slice ga l cp) (cys n j)) ∧ Hid (Below w.heap.size w wr)) (fun _ t _ => n - (intOf t).toNat)
    case atStart => exact ⟨0, _, _, _, by omega, rfl, rfl, hlen.symm, O1, B1⟩
    case round =>
      obtain ⟨j, l, cp, ga, hj, rfl, rfl, hl, ho, hb⟩ := hrel
      clear O1
      have hkc : ((j + 1 : Nat) : Int) = (j : Int) + 1 := by omega
      have hkz : (((j : Int) + 1) == 0) = false := by rw [beq_eq_false_iff_ne]; omega
      by_cases hltj : j < n - 1
      · have hlt' : (j : Int) + 1 < (n : Int) := by omega
        have hcs := HC.out j
        have hem : (n : Int) % ((j : Int) + 1) = ((n % (j + 1) : Nat) : Int) := by
          rw [← hkc]; exact (Int.natCast_emod n (j + 1)).symm
        have htm : Int.tmod (n : Int) ((j : Int) + 1) = ((n % (j + 1) : Nat) : Int) := by
          rw [Int.tmod_eq_emod_of_nonneg (by omega)]; exact hem
        by_cases hdn : n % (j + 1) = 0
        · rw [if_pos hdn] at hcs
          have HG : Hid (Gq (cys n j) (cyc (j + 1))) := I2.out j hltj hdn
          have HNX : Hid (cys n (j + 1) = exq (cys n j) (cyc (j + 1))) := hcs
          have hcall := IH.out (j + 1) (by omega) (by omega) (by omega) wr
          rw [hkc] at hcall
          have BB : Hid (Below w.heap.size w wr) := hb
          have OO : Hid (Own wr w.heap.size wr.heap.size (.slice ga l cp) (cys n j)) := ho
          rw [hdn] at htm hem
          clear hb ho hcs
          go_wp2_with fail
          refine hcall.mono ?_
          rintro e w2 ⟨v2, rfl, o2, b2⟩
          have L2 : Hid (Ls w2 v2 (cyc (j + 1))) := o2.ls (Nat.le_refl _)
          have T2 : Hid (Ls w2 (.slice ga l cp) (cys n j)) := (OO.out.kept b2).ls b2.size
          have B2 : Hid (Below w.heap.size w w2) := BB.out.trans (b2.mono BB.out.size)
          have S2 : Hid (w.heap.size ≤ w2.heap.size) := Nat.le_trans BB.out.size b2.size
          clear b2 hcall o2 OO BB
          obtain ⟨g1, g2, g3, g4, g5, g6, g7⟩ := Gq_all HG.out
          have HG7 : Hid (exok (cys n j) (cyc (j + 1)) = true) := g7
          go_wp2_with fail
          refine (seq_any T2.out L2.out g1 g2 g3 g4 g5 (.inr g6)).mono ?_
          rintro e w3 ⟨vq, rfl, oq, b3⟩
          rw [HG7.out] at oq
          have o3 := oq rfl
          rw [← HNX.out] at o3
          obtain ⟨qa, qc, rfl⟩ := o3.shape
          have O3 : Hid (Own w3 w.heap.size w3.heap.size (.slice qa (cys n (j + 1)).length qc) (cys n (j + 1))) := o3.wide S2.out (Nat.le_refl _)
          have B3 : Hid (Below w.heap.size w w3) := B2.out.trans (b3.mono B2.out.size)
          clear o3 oq b3 g1 g2 g3 g4 g5 g6 g7 HG HNX HG7 hl T2 L2 htm hem
          obtain ⟨l3, hl3⟩ : ∃ l, l = (cys n (j + 1)).length := ⟨_, rfl⟩
          rw [← hl3] at O3 ⊢
          have HL3 : Hid (l3 = (cys n (j + 1)).length) := hl3
          clear hl3
          go_wp2_with fail
          go_roundw
          case rel => exact ⟨j + 1, l3, _, _, by omega, by go_num, rfl, HL3, O3, B3⟩
          case measure => simp [intOf]; omega
        · rw [if_neg hdn] at hcs
          have HL3 : Hid (l = (cys n (j + 1)).length) := by show _ = _; rw [hcs]; exact hl.out
          have O3 : Hid (Own wr w.heap.size wr.heap.size (.slice ga l cp) (cys n (j + 1))) := by rw [hcs]; exact ho.out
          have hdb : ((((n % (j + 1) : Nat) : Int)) == 0) = false := by rw [beq_eq_false_iff_ne]; omega
          have BB : Hid (Below w.heap.size w wr) := hb
          clear hcs ho hb hl
          generalize n % (j + 1) = r at *
          go_wp2_with fail
          go_roundw
          case rel => exact ⟨j + 1, l, _, _, by omega, by go_num, rfl, HL3, O3, BB⟩
          case measure => simp [intOf]; omega
      · obtain rfl : j = n - 1 := by omega
        have hge : ¬ (((n - 1 : Nat) : Int) + 1 < (n : Int)) := by omega
        have O3 : Hid (Own wr w.heap.size wr.heap.size (.slice ga l cp) (cyc n)) := by rw [I1.out]; exact ho.out
        have B3 : Hid (Below w.heap.size w wr) := hb
        clear ho hb hl
        have hnn : ((n - 1 : Nat) : Int) = (n : Int) - 1 := by omega
        rw [hnn] at hge
        go_wp2_with fail
        go_ret
        exact ⟨_, rfl, O3.out, B3.out⟩
end Go.Proofs.Ytdammgflmkamaaa.wh
