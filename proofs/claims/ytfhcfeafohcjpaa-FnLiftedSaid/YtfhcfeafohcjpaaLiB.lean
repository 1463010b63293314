/- Lifting two factors: the model's two times at once. -/
import Derived.Test.YtfhcfeafohcjpaaLiS
namespace Go.Proofs.Ytfhcfeafohcjpaa.wh
open Go.RowKit Go.Pl

theorem lit_ls (w : World) (z : Int) : Ls (w.alloc (.cells #[.int .i64 z] 2)) (.slice (some ⟨w.heap.size, 0, none⟩) 1 1) [z] :=
  (Own.of_row (World.ownsRow_lit (base := w.heap.size) (e := 2) (size := 1) w #[.int .i64 z] 1 (Nat.le_refl _) (by decide) rfl) (by simp) (Nat.le_refl _)).ls (Nat.le_refl _)
theorem lit_ls' (w : World) (z : Int) {W : World} (h : Below (w.alloc (.cells #[.int .i64 z] 2)).heap.size (w.alloc (.cells #[.int .i64 z] 2)) W) : Ls W (.slice (some ⟨w.heap.size, 0, none⟩) 1 1) [z] := (lit_ls w z).below h
theorem lits4 (w : World) (a b c d : Int) :
    Ls ((((w.alloc (.cells #[.int .i64 a] 2)).alloc (.cells #[.int .i64 b] 2)).alloc (.cells #[.int .i64 c] 2)).alloc (.cells #[.int .i64 d] 2)) (.slice (some ⟨w.heap.size, 0, none⟩) 1 1) [a] ∧
    Ls ((((w.alloc (.cells #[.int .i64 a] 2)).alloc (.cells #[.int .i64 b] 2)).alloc (.cells #[.int .i64 c] 2)).alloc (.cells #[.int .i64 d] 2)) (.slice (some ⟨w.heap.size + 1, 0, none⟩) 1 1) [b] ∧
    Ls ((((w.alloc (.cells #[.int .i64 a] 2)).alloc (.cells #[.int .i64 b] 2)).alloc (.cells #[.int .i64 c] 2)).alloc (.cells #[.int .i64 d] 2)) (.slice (some ⟨w.heap.size + 1 + 1, 0, none⟩) 1 1) [c] ∧
    Ls ((((w.alloc (.cells #[.int .i64 a] 2)).alloc (.cells #[.int .i64 b] 2)).alloc (.cells #[.int .i64 c] 2)).alloc (.cells #[.int .i64 d] 2)) (.slice (some ⟨w.heap.size + 1 + 1 + 1, 0, none⟩) 1 1) [d] ∧
    Below w.heap.size w ((((w.alloc (.cells #[.int .i64 a] 2)).alloc (.cells #[.int .i64 b] 2)).alloc (.cells #[.int .i64 c] 2)).alloc (.cells #[.int .i64 d] 2)) := by
  have h1 := lit_ls w a
  have h2 := lit_ls (w.alloc (.cells #[.int .i64 a] 2)) b
  have h3 := lit_ls ((w.alloc (.cells #[.int .i64 a] 2)).alloc (.cells #[.int .i64 b] 2)) c
  have h4 := lit_ls (((w.alloc (.cells #[.int .i64 a] 2)).alloc (.cells #[.int .i64 b] 2)).alloc (.cells #[.int .i64 c] 2)) d
  simp only [World.size_alloc] at h2 h3 h4
  exact ⟨h1.below ((((Below.refl _ _).alloc (Nat.le_refl _) _).alloc (by simp only [World.size_alloc]; omega) _).alloc (by simp only [World.size_alloc]; omega) _), h2.below (((Below.refl _ _).alloc (Nat.le_refl _) _).alloc (by simp only [World.size_alloc]; omega) _), h3.below ((Below.refl _ _).alloc (Nat.le_refl _) _), h4, ((((Below.refl _ _).alloc (Nat.le_refl _) _).alloc (by simp only [World.size_alloc]; omega) _).alloc (by simp only [World.size_alloc]; omega) _).alloc (by simp only [World.size_alloc]; omega) _⟩
theorem bez_stop (p : Int) (k : Nat) (X s0 s1 t0 t1 : List Int) : bez p k X [0] s0 s1 t0 t1 = (X, s0, t0) := by
  cases k with
  | zero => rfl
  | succ k => rw [bez, if_pos rfl]
theorem bez_step {p : Int} {k : Nat} {X Y s0 s1 t0 t1 : List Int} (h : Y ≠ [0]) : bez p (k + 1) X Y s0 s1 t0 t1 = bez p k Y (dr X Y p) s1 (mns (dq X Y p) s1 s0 p) t1 (mns (dq X Y p) t1 t0 p) := by rw [bez, if_neg h]
/-- what a product over p gives, in two calls -/
def PM (p : Int) (A B : List Int) : Prop := Ov A p ∧ Ov B p ∧ A.length ≤ 40 ∧ B.length ≤ 40 ∧ isP p = true
theorem PM.c1 {p : Int} {A B : List Int} (h : PM p A B) {va vb : Value} {w : World} (ha : Ls w va A) (hb : Ls w vb B) :
    Calls Try.prog 28 #[va, vb] w fun e w' => ∃ v', e = .returned v' ∧ Own w' w.heap.size w'.heap.size v' (prod A B) ∧ Below w.heap.size w w' :=
  mul_any ha hb ⟨h.1.1, h.2.2.1⟩ ⟨h.2.1.1, h.2.2.2.1⟩ (over_bd h.1.2 h.2.1.2 (isP_le h.2.2.2.2))
theorem PM.c2 {p : Int} {A B : List Int} (h : PM p A B) {v : Value} {w : World} (hv : Ls w v (prod A B)) :
    Calls Try.prog 27 #[v, .int .i64 p] w fun e w' => ∃ v', e = .returned v' ∧ Own w' w.heap.size w'.heap.size v' (om A B p) ∧ Below w.heap.size w w' := by
  have := isP_le h.2.2.2.2
  exact mods_any hv (prod_ne h.1.1 h.2.1.1) (by rw [prod_len]; have := h.2.2.1; have := h.2.2.2.1; omega) p ⟨by omega, by omega⟩
/-- what a round of the model's needs of lengths and ranges -/
theorem round_ok {p : Int} {A B s0 s1 t0 t1 : List Int} (hp : isP p = true) (h : Bk p 20 A B s0 s1 t0 t1) (h0 : B ≠ [0]) :
    PM p [p - 1] (dq A B p) ∧ PM p (om [p - 1] (dq A B p) p) s1 ∧ PM p (om [p - 1] (dq A B p) p) t1 ∧
    (Ov s0 p ∧ s0.length ≤ 80) ∧ (Ov t0 p ∧ t0.length ≤ 80) ∧
    (Ov (om (om [p - 1] (dq A B p) p) s1 p) p ∧ (om (om [p - 1] (dq A B p) p) s1 p).length ≤ 80) ∧ (Ov (om (om [p - 1] (dq A B p) p) t1 p) p ∧ (om (om [p - 1] (dq A B p) p) t1 p).length ≤ 80) := by
  obtain ⟨⟨hA, hB, hs0, hs1, m1, m2, m3⟩, ⟨_, _, ht0, ht1, m4, m5, m6⟩⟩ := h
  have hp2 := isP_le hp
  obtain ⟨q1, _, q2, _, _⟩ := dv_ok hp hA.1 hB.1 (clean_last hB.2.2 h0 hB.1.1)
  have hq : (dq A B p).length ≤ 17 := by have := hA.2.1; omega
  have hl : Ov [p - 1] p := ⟨by simp, fun z hz => by rw [List.mem_singleton] at hz; omega⟩
  obtain ⟨o1, o2⟩ := om_ov (A := [p - 1]) (B := dq A B p) (p := p) (by omega) (by simp) q1.1
  obtain ⟨o3, o4⟩ := om_ov (A := om [p - 1] (dq A B p) p) (B := s1) (p := p) (by omega) o1.1 hs1.1
  obtain ⟨o5, o6⟩ := om_ov (A := om [p - 1] (dq A B p) p) (B := t1) (p := p) (by omega) o1.1 ht1.1
  simp only [List.length_cons, List.length_nil] at o2
  have z1 := hB.1.1
  exact ⟨⟨hl, q1, by simp, by omega, hp⟩, ⟨o1, hs1, by omega, by omega, hp⟩, ⟨o1, ht1, by omega, by omega, hp⟩, ⟨hs0, by omega⟩, ⟨ht0, by omega⟩, ⟨o3, by omega⟩, ⟨o5, by omega⟩⟩
theorem ssum2 {p : Int} {A B : List Int} (hp : isP p = true) (hA : Ov A p ∧ A.length ≤ 80) (hB : Ov B p ∧ B.length ≤ 80) {va vb : Value} {w : World} (ha : Ls w va A) (hb : Ls w vb B) :
    Calls Try.prog 34 #[va, vb, .int .i64 p] w fun e w' => ∃ v', e = .returned v' ∧ Own w' w.heap.size w'.heap.size v' (smt A B p) ∧ Below w.heap.size w w' := by
  have := isP_le hp
  exact ssum_any ha hb ⟨hA.1.1, hA.2⟩ ⟨hB.1.1, hB.2⟩ hA.1.2 hB.1.2 ⟨by omega, by omega⟩

set_option maxRecDepth 100000 in
set_option maxHeartbeats 8000000 in
theorem sbez_any {va vb : Value} {A B S T : List Int} {p c : Int} {w : World} (hp : isP p = true) (ha : Ls w va A) (hb : Ls w vb B) (hk : Bk p 20 A B [1] [0] [0] [1])
    (hR : bez p (mu B) A B [1] [0] [0] [1] = ([c], S, T)) (hc : 0 < c ∧ c < p) (hS : Ov S p ∧ S.length ≤ 20) (hT : Ov T p ∧ T.length ≤ 20) :
    Calls Try.prog 32 #[va, vb, .int .i64 p] w
      fun e w' => ∃ vs vt, e = .returned (.tuple #[vs, vt]) ∧ Ls w' vs (om [inv c p] S p) ∧ Ls w' vt (om [inv c p] T p) ∧ Below w.heap.size w w' := by
  have HLA : Hid (Ls w va A) := ha
  have HLB : Hid (Ls w vb B) := hb
  have HPP : Hid (isP p = true) := hp
  have hp2 := isP_le hp
  have HBK : Hid (Bk p 20 A B [1] [0] [0] [1]) := hk
  have HC : Hid (0 < c ∧ c < p) := hc
  obtain ⟨iv, hiv⟩ : ∃ i, i = inv c p := ⟨_, rfl⟩
  have HII : Hid (iv = inv c p) := hiv
  have hib := inv_ok hp hc
  have hl : Ov [iv] p := ⟨by simp, fun z hz => by rw [List.mem_singleton] at hz; rw [hiv] at hz; omega⟩
  have HMS : Hid (PM p [iv] S) := ⟨hl, hS.1, by simp, by omega, hp⟩
  have HMT : Hid (PM p [iv] T) := ⟨hl, hT.1, by simp, by omega, hp⟩
  rw [← hiv]
  obtain ⟨R, hRR⟩ : ∃ R, R = bez p (mu B) A B [1] [0] [0] [1] := ⟨_, rfl⟩
  have HR0 : Hid (bez p (mu B) A B [1] [0] [0] [1] = R) := hRR.symm
  have HRE : Hid (R = ([c], S, T)) := by show _ = _; rw [hRR, hR]
  have hpm : IntKind.i64.wrap (p - 1) = p - 1 := IntWalk.i64_in _ (by omega)
  have hpm2 : wrap64 (p - 1) = p - 1 := IntWalk.wrap64_in _ (by omega)
  obtain ⟨ao, cap, rfl⟩ := ha.shape
  obtain ⟨bo, cap1, rfl⟩ := hb.shape
  clear hRR hR ha hb hp hk hc hiv hib hl hS hT hp2
  have LI := lits4 w 1 0 0 1
  have SL1 : Hid (Ls ((((w.alloc (.cells #[.int .i64 1] 2)).alloc (.cells #[.int .i64 0] 2)).alloc (.cells #[.int .i64 0] 2)).alloc (.cells #[.int .i64 1] 2)) (.slice (some ⟨w.heap.size, 0, none⟩) 1 1) [1]) := LI.1
  have SL2 : Hid (Ls ((((w.alloc (.cells #[.int .i64 1] 2)).alloc (.cells #[.int .i64 0] 2)).alloc (.cells #[.int .i64 0] 2)).alloc (.cells #[.int .i64 1] 2)) (.slice (some ⟨w.heap.size + 1, 0, none⟩) 1 1) [0]) := LI.2.1
  have SL3 : Hid (Ls ((((w.alloc (.cells #[.int .i64 1] 2)).alloc (.cells #[.int .i64 0] 2)).alloc (.cells #[.int .i64 0] 2)).alloc (.cells #[.int .i64 1] 2)) (.slice (some ⟨w.heap.size + 1 + 1, 0, none⟩) 1 1) [0]) := LI.2.2.1
  have SL4 : Hid (Ls ((((w.alloc (.cells #[.int .i64 1] 2)).alloc (.cells #[.int .i64 0] 2)).alloc (.cells #[.int .i64 0] 2)).alloc (.cells #[.int .i64 1] 2)) (.slice (some ⟨w.heap.size + 1 + 1 + 1, 0, none⟩) 1 1) [1]) := LI.2.2.2.1
  have SA : Hid (Ls ((((w.alloc (.cells #[.int .i64 1] 2)).alloc (.cells #[.int .i64 0] 2)).alloc (.cells #[.int .i64 0] 2)).alloc (.cells #[.int .i64 1] 2)) (.slice ao A.length cap) A) := HLA.out.below LI.2.2.2.2
  have SB : Hid (Ls ((((w.alloc (.cells #[.int .i64 1] 2)).alloc (.cells #[.int .i64 0] 2)).alloc (.cells #[.int .i64 0] 2)).alloc (.cells #[.int .i64 1] 2)) (.slice bo B.length cap1) B) := HLB.out.below LI.2.2.2.2
  have SW : Hid (Below w.heap.size w ((((w.alloc (.cells #[.int .i64 1] 2)).alloc (.cells #[.int .i64 0] 2)).alloc (.cells #[.int .i64 0] 2)).alloc (.cells #[.int .i64 1] 2))) := LI.2.2.2.2
  clear LI
  go_enter Try.func32, Try.ntmps32
  go_wp2_with fail
  go_loopg [8, 9, 10, 11, 12, 13] (mu B) (fun k x y s0 s1 t0 t1 wr => ∃ (X Y S0 S1 T0 T1 : List Int) (xo yo so uo ro zo : Option Addr) (xc yc sc uc tc zc : Nat), x = .slice xo X.length xc ∧ y = .slice yo Y.length yc ∧ s0 = .slice so S0.length sc ∧ s1 = .slice uo S1.length uc ∧ t0 = .slice ro T0.length tc ∧ t1 = .slice zo T1.length zc ∧ mu Y ≤ k ∧ Hid (bez p k X Y S0 S1 T0 T1 = R) ∧ Hid (Bk p 20 X Y S0 S1 T0 T1) ∧ Hid (Ls wr (.slice xo X.length xc) X ∧ Ls wr (.slice yo Y.length yc) Y ∧ Ls wr (.slice so S0.length sc) S0 ∧ Ls wr (.slice uo S1.length uc) S1 ∧ Ls wr (.slice ro T0.length tc) T0 ∧ Ls wr (.slice zo T1.length zc) T1) ∧ Hid (Below w.heap.size w wr))
  case atStart => exact ⟨A, B, [1], [0], [0], [1], ao, bo, _, _, _, _, cap, cap1, _, _, _, _, rfl, rfl, rfl, rfl, rfl, rfl, Nat.le_refl _, HR0, HBK, ⟨SA.out, SB.out, SL1.out, SL2.out, SL3.out, SL4.out⟩, SW⟩
  case round =>
    obtain ⟨X, Y, S0, S1, T0, T1, xo, yo, so, uo, ro, zo, xc, yc, sc, uc, tc, zc, rfl, rfl, rfl, rfl, rfl, rfl, hk, hbz, hbk, hls, hb⟩ := hrel
    clear SL1 SL2 SL3 SL4 SA SB SW
    by_cases hY : Y = [0]
    · have HZ : Hid (decide (Y = [0]) = true) := decide_eq_true hY
      have HR : Hid ((X, S0, T0) = ([c], S, T)) := by
        have := hbz.out
        rw [hY, bez_stop] at this
        rw [HRE.out] at this
        exact this
      have h3 := HR.out
      simp only [Prod.mk.injEq] at h3
      obtain ⟨rfl, rfl, rfl⟩ := h3
      have hx := hls.out.1
      obtain ⟨_, _, e0, _, _, hcc⟩ := hx
      obtain ⟨xb, xf, e1, _, hcell⟩ := hcc (by simp)
      simp only [Value.slice.injEq] at e0
      obtain ⟨e2, _, _⟩ := e0
      rw [← e2] at e1
      subst e1
      have hc0 : wr.cell? ⟨xb, xf, none⟩ = some (.int .i64 c) := hcell 0 c rfl
      have HY : Hid (Ls wr (.slice yo Y.length yc) Y) := hls.out.2.1
      clear hY hbz HR hcell hcc e2
      go_wp2_with fail
      refine (szero_any HY.out).mono ?_
      rintro e w1 ⟨rfl, hw1⟩
      rw [hw1, HZ.out]
      clear hw1
      obtain ⟨wa, hwa⟩ : ∃ x, x = wr.alloc (.cells #[.int .i64 iv] 2) := ⟨_, rfl⟩
      have HA : Hid (wa = wr.alloc (.cells #[.int .i64 iv] 2)) := hwa
      have HLV : Hid (Ls wa (.slice (some ⟨wr.heap.size, 0, none⟩) 1 1) [iv]) := by show Ls _ _ _; rw [hwa]; exact lit_ls wr iv
      have hba : Below wr.heap.size wr wa := by rw [hwa]; exact new1 _ _
      have HSV : Hid (Ls wa (.slice so S0.length sc) S0) := hls.out.2.2.1.below hba
      have HTV : Hid (Ls wa (.slice ro T0.length tc) T0) := hls.out.2.2.2.2.1.below hba
      have HBA : Hid (Below w.heap.size w wa) := hb.out.trans (hba.mono hb.out.size)
      clear hwa hba hls hb hbk HY
      go_wp2_with fail
      refine (sinv_any c p HPP.out HC.out _).mono ?_
      rintro e w1 ⟨rfl, hw1⟩
      rw [hw1, ← HII.out]
      clear hw1 hc0
      go_wp2_with fail
      rw [← HA.out]
      refine (HMS.out.c1 HLV.out HSV.out).mono ?_
      rintro e w2 ⟨v2, rfl, o, b⟩
      obtain ⟨a2, c2, rfl⟩ := o.shape
      have P2 : Hid (Ls w2 (.slice a2 (prod [iv] S0).length c2) (prod [iv] S0)) := o.ls (Nat.le_refl _)
      have B2 : Hid (Below wa.heap.size wa w2) := b
      clear o b
      go_wp2_with fail
      refine (HMS.out.c2 P2.out).mono ?_
      rintro e w3 ⟨v3, rfl, o, b⟩
      obtain ⟨a3, c3, rfl⟩ := o.shape
      have P3 : Hid (Ls w3 (.slice a3 (om [iv] S0 p).length c3) (om [iv] S0 p)) := o.ls (Nat.le_refl _)
      have B3 : Hid (Below wa.heap.size wa w3) := B2.out.trans (b.mono B2.out.size)
      have HLV3 : Hid (Ls w3 (.slice (some ⟨wr.heap.size, 0, none⟩) 1 1) [iv]) := HLV.out.below B3.out
      have HTV3 : Hid (Ls w3 (.slice ro T0.length tc) T0) := HTV.out.below B3.out
      clear o b P2 B2
      go_wp2_with fail
      refine (HMT.out.c1 HLV3.out HTV3.out).mono ?_
      rintro e w4 ⟨v4, rfl, o, b⟩
      obtain ⟨a4, c4, rfl⟩ := o.shape
      have P4 : Hid (Ls w4 (.slice a4 (prod [iv] T0).length c4) (prod [iv] T0)) := o.ls (Nat.le_refl _)
      have B4 : Hid (Below w3.heap.size w3 w4) := b
      clear o b
      go_wp2_with fail
      refine (HMT.out.c2 P4.out).mono ?_
      rintro e w5 ⟨v5, rfl, o, b⟩
      obtain ⟨a5, c5, rfl⟩ := o.shape
      have P5 : Hid (Ls w5 (.slice a5 (om [iv] T0 p).length c5) (om [iv] T0 p)) := o.ls (Nat.le_refl _)
      have B5 : Hid (Below w3.heap.size w3 w5) := B4.out.trans (b.mono B4.out.size)
      have P35 : Hid (Ls w5 (.slice a3 (om [iv] S0 p).length c3) (om [iv] S0 p)) := P3.out.below B5.out
      have BW : Hid (Below w.heap.size w w5) := (HBA.out.trans (B3.out.mono HBA.out.size)).trans (B5.out.mono (Nat.le_trans HBA.out.size B3.out.size))
      clear o b
      go_wp2_with fail
      go_ret2
      exact ⟨_, _, rfl, P35.out, P5.out, BW.out⟩
    · have HZ : Hid (decide (Y = [0]) = false) := decide_eq_false hY
      have HYN : Hid (Y ≠ [0]) := hY
      have hm := mu_step HPP.out hbk.out.1.1.1 hbk.out.1.2.1.1 hbk.out.1.2.1.2.2 hY
      obtain ⟨j, rfl⟩ : ∃ j, gk = j + 1 := ⟨gk - 1, by omega⟩
      have HCS : Hid (bez p j Y (dr X Y p) S1 (mns (dq X Y p) S1 S0 p) T1 (mns (dq X Y p) T1 T0 p) = R) := by show _ = R; rw [← hbz.out, bez_step hY]
      have HGN : Hid (Bk p 20 Y (dr X Y p) S1 (mns (dq X Y p) S1 S0 p) T1 (mns (dq X Y p) T1 T0 p)) := ⟨mns_tk HPP.out hbk.out.1 hY, mns_tk HPP.out hbk.out.2 hY⟩
      have hmj : mu (dr X Y p) ≤ j := by omega
      have HOK := round_ok HPP.out hbk.out hY
      have M1 : Hid (PM p [p - 1] (dq X Y p)) := HOK.1
      have M2 : Hid (PM p (om [p - 1] (dq X Y p) p) S1) := HOK.2.1
      have M3 : Hid (PM p (om [p - 1] (dq X Y p) p) T1) := HOK.2.2.1
      have N1 : Hid (Ov S0 p ∧ S0.length ≤ 80) := HOK.2.2.2.1
      have N2 : Hid (Ov T0 p ∧ T0.length ≤ 80) := HOK.2.2.2.2.1
      have N3 : Hid (Ov (om (om [p - 1] (dq X Y p) p) S1 p) p ∧ (om (om [p - 1] (dq X Y p) p) S1 p).length ≤ 80) := HOK.2.2.2.2.2.1
      have N4 : Hid (Ov (om (om [p - 1] (dq X Y p) p) T1 p) p ∧ (om (om [p - 1] (dq X Y p) p) T1 p).length ≤ 80) := HOK.2.2.2.2.2.2
      have HDV := sdiv_any hls.out.1 hls.out.2.1 HPP.out hbk.out.1.1.1 (by have := hbk.out.1.1.2.1; omega) hbk.out.1.2.1.1 hbk.out.1.2.1.2.1 (clean_last hbk.out.1.2.1.2.2 hY hbk.out.1.2.1.1.1)
      have HYL : Hid (Ls wr (.slice yo Y.length yc) Y) := hls.out.2.1
      have HS0 : Hid (Ls wr (.slice so S0.length sc) S0) := hls.out.2.2.1
      have HS1 : Hid (Ls wr (.slice uo S1.length uc) S1) := hls.out.2.2.2.1
      have HT0 : Hid (Ls wr (.slice ro T0.length tc) T0) := hls.out.2.2.2.2.1
      have HT1 : Hid (Ls wr (.slice zo T1.length zc) T1) := hls.out.2.2.2.2.2
      clear hY hbz hbk hm HOK hls
      go_wp2_with fail
      refine (szero_any HYL.out).mono ?_
      rintro e w1 ⟨rfl, hw1⟩
      rw [hw1, HZ.out]
      clear hw1
      go_wp2_with fail
      refine HDV.mono ?_
      rintro e w2 ⟨vq, vr, rfl, oq, o, b⟩
      obtain ⟨ra, rc, rfl⟩ := o.shape
      obtain ⟨qa, qc, rfl⟩ := oq.shape
      have HR2 : Hid (Ls w2 (.slice ra (dr X Y p).length rc) (dr X Y p)) := o.ls (Nat.le_refl _)
      have HQ2 : Hid (Ls w2 (.slice qa (dq X Y p).length qc) (dq X Y p)) := oq.ls (Nat.le_refl _)
      obtain ⟨wa, hwa⟩ : ∃ x, x = w2.alloc (.cells #[.int .i64 (p - 1)] 2) := ⟨_, rfl⟩
      have HA : Hid (wa = w2.alloc (.cells #[.int .i64 (p - 1)] 2)) := hwa
      have HLV : Hid (Ls wa (.slice (some ⟨w2.heap.size, 0, none⟩) 1 1) [p - 1]) := by show Ls _ _ _; rw [hwa]; exact lit_ls w2 (p - 1)
      have hba : Below w2.heap.size w2 wa := by rw [hwa]; exact new1 _ _
      have HQA : Hid (Ls wa (.slice qa (dq X Y p).length qc) (dq X Y p)) := HQ2.out.below hba
      have E3 : Hid (Below w2.heap.size w2 wa) := hba
      have C3 : Hid (Below wr.heap.size wr wa) := b.trans (hba.mono b.size)
      clear o oq b hwa hba HQ2 HDV
      go_wp2_with fail
      rw [← HA.out]
      refine (M1.out.c1 HLV.out HQA.out).mono ?_
      rintro e w4 ⟨v4, rfl, o, b⟩
      obtain ⟨a4, c4, rfl⟩ := o.shape
      have P4 : Hid (Ls w4 (.slice a4 (prod [p - 1] (dq X Y p)).length c4) (prod [p - 1] (dq X Y p))) := o.ls (Nat.le_refl _)
      have E4 : Hid (Below wa.heap.size wa w4) := b
      clear o b
      go_wp2_with fail
      refine (M1.out.c2 P4.out).mono ?_
      rintro e w5 ⟨v5, rfl, o, b⟩
      obtain ⟨a5, c5, rfl⟩ := o.shape
      have P5 : Hid (Ls w5 (.slice a5 (om [p - 1] (dq X Y p) p).length c5) (om [p - 1] (dq X Y p) p)) := o.ls (Nat.le_refl _)
      have E5 : Hid (Below wa.heap.size wa w5) := E4.out.trans (b.mono E4.out.size)
      have F5 : Hid (Below w2.heap.size w2 w5) := E3.out.trans (E5.out.mono E3.out.size)
      have C5 : Hid (Below wr.heap.size wr w5) := C3.out.trans (E5.out.mono C3.out.size)
      have S15 : Hid (Ls w5 (.slice uo S1.length uc) S1) := HS1.out.below C5.out
      clear o b E4 P4
      go_wp2_with fail
      refine (M2.out.c1 P5.out S15.out).mono ?_
      rintro e w6 ⟨v6, rfl, o, b⟩
      obtain ⟨a6, c6, rfl⟩ := o.shape
      have P6 : Hid (Ls w6 (.slice a6 (prod (om [p - 1] (dq X Y p) p) S1).length c6) (prod (om [p - 1] (dq X Y p) p) S1)) := o.ls (Nat.le_refl _)
      have E6 : Hid (Below w5.heap.size w5 w6) := b
      clear o b S15
      go_wp2_with fail
      refine (M2.out.c2 P6.out).mono ?_
      rintro e w7 ⟨v7, rfl, o, b⟩
      obtain ⟨a7, c7, rfl⟩ := o.shape
      have P7 : Hid (Ls w7 (.slice a7 (om (om [p - 1] (dq X Y p) p) S1 p).length c7) (om (om [p - 1] (dq X Y p) p) S1 p)) := o.ls (Nat.le_refl _)
      have E7 : Hid (Below w5.heap.size w5 w7) := E6.out.trans (b.mono E6.out.size)
      have S07 : Hid (Ls w7 (.slice so S0.length sc) S0) := HS0.out.below (C5.out.trans (E7.out.mono C5.out.size))
      clear o b E6 P6
      go_wp2_with fail
      refine (ssum2 HPP.out N1.out N3.out S07.out P7.out).mono ?_
      rintro e w8 ⟨v8, rfl, o, b⟩
      obtain ⟨a8, c8, rfl⟩ := o.shape
      have P8 : Hid (Ls w8 (.slice a8 (mns (dq X Y p) S1 S0 p).length c8) (mns (dq X Y p) S1 S0 p)) := o.ls (Nat.le_refl _)
      have E8 : Hid (Below w5.heap.size w5 w8) := E7.out.trans (b.mono E7.out.size)
      have F8 : Hid (Below w2.heap.size w2 w8) := F5.out.trans (E8.out.mono F5.out.size)
      have C8 : Hid (Below wr.heap.size wr w8) := C5.out.trans (E8.out.mono C5.out.size)
      have P58 : Hid (Ls w8 (.slice a5 (om [p - 1] (dq X Y p) p).length c5) (om [p - 1] (dq X Y p) p)) := P5.out.below E8.out
      have T18 : Hid (Ls w8 (.slice zo T1.length zc) T1) := HT1.out.below C8.out
      clear o b E7 P7 S07 P5 E8
      go_wp2_with fail
      refine (M3.out.c1 P58.out T18.out).mono ?_
      rintro e w9 ⟨v9, rfl, o, b⟩
      obtain ⟨a9, c9, rfl⟩ := o.shape
      have P9 : Hid (Ls w9 (.slice a9 (prod (om [p - 1] (dq X Y p) p) T1).length c9) (prod (om [p - 1] (dq X Y p) p) T1)) := o.ls (Nat.le_refl _)
      have E9 : Hid (Below w8.heap.size w8 w9) := b
      clear o b T18 P58
      go_wp2_with fail
      refine (M3.out.c2 P9.out).mono ?_
      rintro e w10 ⟨v10, rfl, o, b⟩
      obtain ⟨a10, c10, rfl⟩ := o.shape
      have P10 : Hid (Ls w10 (.slice a10 (om (om [p - 1] (dq X Y p) p) T1 p).length c10) (om (om [p - 1] (dq X Y p) p) T1 p)) := o.ls (Nat.le_refl _)
      have E10 : Hid (Below w8.heap.size w8 w10) := E9.out.trans (b.mono E9.out.size)
      have T010 : Hid (Ls w10 (.slice ro T0.length tc) T0) := HT0.out.below (C8.out.trans (E10.out.mono C8.out.size))
      clear o b E9 P9
      go_wp2_with fail
      refine (ssum2 HPP.out N2.out N4.out T010.out P10.out).mono ?_
      rintro e w11 ⟨v11, rfl, o, b⟩
      obtain ⟨a11, c11, rfl⟩ := o.shape
      have P11 : Hid (Ls w11 (.slice a11 (mns (dq X Y p) T1 T0 p).length c11) (mns (dq X Y p) T1 T0 p)) := o.ls (Nat.le_refl _)
      have E11 : Hid (Below w8.heap.size w8 w11) := E10.out.trans (b.mono E10.out.size)
      have F11 : Hid (Below w2.heap.size w2 w11) := F8.out.trans (E11.out.mono F8.out.size)
      have C11 : Hid (Below wr.heap.size wr w11) := C8.out.trans (E11.out.mono C8.out.size)
      have Y11 : Hid (Ls w11 (.slice yo Y.length yc) Y) := HYL.out.below C11.out
      have R11 : Hid (Ls w11 (.slice ra (dr X Y p).length rc) (dr X Y p)) := HR2.out.below F11.out
      have S11 : Hid (Ls w11 (.slice uo S1.length uc) S1) := HS1.out.below C11.out
      have U11 : Hid (Ls w11 (.slice a8 (mns (dq X Y p) S1 S0 p).length c8) (mns (dq X Y p) S1 S0 p)) := P8.out.below E11.out
      have T11 : Hid (Ls w11 (.slice zo T1.length zc) T1) := HT1.out.below C11.out
      have BW : Hid (Below w.heap.size w w11) := hb.out.trans (C11.out.mono hb.out.size)
      clear o b hb
      go_wp2_with fail
      go_roundg j
      case rel => exact ⟨Y, dr X Y p, S1, mns (dq X Y p) S1 S0 p, T1, mns (dq X Y p) T1 T0 p, yo, ra, uo, a8, zo, a11, yc, rc, uc, c8, zc, c11, rfl, rfl, rfl, rfl, rfl, rfl, hmj, HCS, HGN, ⟨Y11.out, R11.out, S11.out, U11.out, T11.out, P11.out⟩, BW⟩
      case measure => omega
end Go.Proofs.Ytfhcfeafohcjpaa.wh
