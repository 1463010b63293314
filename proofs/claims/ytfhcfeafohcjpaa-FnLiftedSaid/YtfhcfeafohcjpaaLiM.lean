/- LiftPair: what the model answers. -/
import Derived.Test.YtfhcfeafohcjpaaLiN
import Derived.Test.YtfhcfeafohcjpaaLiB
namespace Go.Proofs.Ytfhcfeafohcjpaa.fLiftPair
open Go.RowKit Go.Pl Go.Proofs.Ytfhcfeafohcjpaa.wh

theorem sone_any {v : Value} {L : List Int} {w : World} {z : Int} (h : Ls w v L) (hz : L[L.length - 1]? = some z) :
    Calls Try.prog 25 #[v] w fun e w' => e = .returned (.bool (decide (z = 1))) ∧ w' = w := by
  obtain ⟨ao, cap, rfl, hn, hcap, hc⟩ := h
  have hl : 0 < L.length := by have := (List.getElem?_eq_some_iff.1 hz).1; omega
  obtain ⟨b, off, rfl, _, hcell⟩ := hc (by omega)
  have e1 := hcell _ z hz
  generalize L.length = n at *
  clear hcell hc hz
  obtain ⟨m, rfl⟩ : ∃ m, n = m + 1 := ⟨n - 1, by omega⟩
  have q0 : ((m + 1 : Nat) : Int) - 1 = (m : Int) := by omega
  have q1 : (m : Int) + 1 - 1 = (m : Int) := by omega
  have e2 : w.cell? ⟨b, off + m, none⟩ = some (.int .i64 z) := e1
  have e3 : (z == 1) = decide (z = 1) := rfl
  clear e1
  go_enter Try.func25, Try.ntmps25
  go_wp2
  go_ret
  exact ⟨by first | rfl | rw [e3], rfl⟩
/-- what is added to so many terms -/
def addk (A U : List Int) (p : Int) (k : Nat) : List Int := (List.range A.length).map fun j => if j < k then at' A j + p * at' U j else at' A j
theorem addk_len (A U : List Int) (p : Int) (k : Nat) : (addk A U p k).length = A.length := by simp [addk]
theorem addk_get {A U : List Int} {p : Int} {k j : Nat} (h : j < A.length) : (addk A U p k)[j]? = some (if j < k then at' A j + p * at' U j else at' A j) := by simp [addk, h]
theorem addk_zero (A U : List Int) (p : Int) : addk A U p 0 = A := ext_at (addk_len _ _ _ _) fun j hj => by
  rw [addk_len] at hj
  rw [at_get (addk_get hj), if_neg (by omega)]
theorem addk_all {A U : List Int} {p : Int} (_h : U.length ≤ A.length) : addk A U p U.length = weigh A U 1 p := ext_at (by rw [addk_len, weigh_len]; omega) fun j hj => by
  rw [addk_len] at hj
  rw [at_get (addk_get hj), at_get (weigh_get A U 1 p (by omega))]
  by_cases h1 : j < U.length
  · rw [if_pos h1]; omega
  · rw [if_neg h1, at_out (L := U) (by omega)]; omega
theorem addk_put {A U : List Int} {p : Int} {k : Nat} (_h : k < A.length) : (addk A U p k).set k (at' A k + p * at' U k) = addk A U p (k + 1) := by
  apply List.ext_getElem?
  intro j
  by_cases hj : j < A.length
  · by_cases e : k = j
    · subst e
      rw [List.getElem?_set_self (by rw [addk_len]; exact hj), addk_get hj, if_pos (by omega)]
    · rw [List.getElem?_set_ne e, addk_get hj, addk_get hj]
      by_cases h1 : j < k
      · rw [if_pos h1, if_pos (by omega)]
      · rw [if_neg h1, if_neg (by omega)]
  · rw [List.getElem?_eq_none (by rw [List.length_set, addk_len]; omega), List.getElem?_eq_none (by rw [addk_len]; omega)]
theorem shape_of {w : World} {B e n : Nat} {v : Value} {xs : List Value} (h : w.ownsRow B e 1 v n xs) (hn : n ≠ 0) : ∃ g cap, v = .slice (some ⟨g, 0, none⟩) n cap := by
  rcases h.2 with ⟨_, h0⟩ | ⟨g, cap, cur, hv, _⟩
  · exact absurd h0 hn
  · exact ⟨g, cap, hv⟩
/-- a list of numbers stays when a list of wholes grows -/
theorem own_grown {w w' : World} {lo B g n cap m : Nat} {s : Value} {L : List Int} {xs : List Value} (h : Own w lo w.heap.size s L) (hr : w.ownsRow B 26 1 (.slice (some ⟨g, 0, none⟩) n cap) m xs) (hg : w.grownBy w' (some g)) : Own w' lo w'.heap.size s L := by
  obtain ⟨hn, h | ⟨g1, cap1, cs, rfl, hcp, a, b, h3, h4⟩⟩ := h
  · exact ⟨hn, .inl h⟩
  · have hne : g1 ≠ g := fun e => by
      rcases hr.2 with ⟨h', _⟩ | ⟨g', _, cur, h', _, hh, _⟩
      · simp at h'
      · simp only [Value.slice.injEq, Option.some.injEq, Addr.mk.injEq, and_true] at h'
        obtain ⟨rfl, _⟩ := h'
        rw [e, hh] at h3
        simp at h3
    exact ⟨hn, .inr ⟨g1, cap1, cs, rfl, hcp, a, Nat.lt_of_lt_of_le b hg.size, by rw [hg.block g1 b (fun e => hne (by injection e))]; exact h3, h4⟩⟩
theorem md_id {x m : Int} (h0 : 0 ≤ x) (h1 : x < m) : md x m = x := by
  rw [md_pos (by omega) h0]
  exact Int.tmod_eq_of_lt h0 h1
theorem info_w' : (Try.prog.info? 26).map (fun i => (i.zero, i.size, i.bytes)) = some (some (.agg #[.slice none 0 0]), 1, 24) := by kernel_rfl
/-- what the list of both sides holds -/
def sInv (lo : Nat) (RA RB : List Int) : Nat → List Value → World → Prop
  | 0, xs, _ => xs = []
  | 1, xs, w => ∃ s, xs = [s] ∧ Own w lo w.heap.size s RA
  | _, xs, w => ∃ s s2, xs = [s, s2] ∧ Own w lo w.heap.size s RA ∧ Own w lo w.heap.size s2 RB
theorem lk_bz {P G H : List Int} {p : Int} (h : LK P G H p) : ∃ c S T, bez p (mu H) G H [1] [0] [0] [1] = ([c], S, T) ∧ (0 < c ∧ c < p) ∧ (Ov S p ∧ S.length ≤ 20) ∧ (Ov T p ∧ T.length ≤ 20) ∧ om [inv c p] S p = bzS G H p ∧ om [inv c p] T p = bzT G H p ∧ Bk p 20 G H [1] [0] [0] [1] := by
  obtain ⟨c, hc, hcr⟩ := h.unit
  obtain ⟨b1, b2, b3, b4, b5, _⟩ := bez_start h.isp h.og h.oh
  have ht := tk_start h.isp h.og h.oh
  refine ⟨c, _, _, ?_, hcr, ⟨b2, b3⟩, ⟨b4, b5⟩, ?_, ?_, ⟨ht.2, ht.1⟩⟩
  · rw [← hc, ← b1]
  · unfold bzS; rw [hc]; rfl
  · unfold bzT; rw [hc]; rfl
theorem lk_sz {P G H : List Int} {p : Int} (h : LK P G H p) : (Ov (eps P G H p) p ∧ (eps P G H p).length ≤ 9) ∧ (Ov (bzS G H p) p ∧ (bzS G H p).length ≤ 20) ∧ (Ov (bzT G H p) p ∧ (bzT G H p).length ≤ 20) := by
  have hp2 := isP_le h.isp
  obtain ⟨c, S, T, _, hcr, hS, hT, e1, e2, _⟩ := lk_bz h
  have oS := om_ov (A := [inv c p]) (B := S) (p := p) (by omega) (by simp) hS.1.1
  have oT := om_ov (A := [inv c p]) (B := T) (p := p) (by omega) (by simp) hT.1.1
  rw [← e1, ← e2]
  have hne : eps0 P G H p ≠ [] := ne_of_len (by simp [eps0]; exact h.vp.1)
  refine ⟨⟨⟨trim_pos _, trim_in (fun z hz => ?_) hne⟩, h.len_mis.2.2.2⟩, ⟨oS.1, ?_⟩, ⟨oT.1, ?_⟩⟩
  · obtain ⟨k, _, rfl⟩ := List.mem_map.1 hz
    have := md_range (Int.tdiv (md (at' P k - at' (prod G H) k) (p * p)) p) (p := p) (by omega)
    omega
  · have := oS.2; simp at this; omega
  · have := oT.2; simp at this; omega
theorem eps0_get {P G H : List Int} {p : Int} {k : Nat} (h : k < P.length) : (eps0 P G H p)[k]? = some (md (Int.tdiv (md (at' P k - at' (prod G H) k) (p * p)) p) p) := by simp [eps0, h]
theorem row_kept' {w w' : World} {B e n : Nat} {v : Value} {xs : List Value} (h : w.ownsRow B e 1 v n xs) (hb : Below w.heap.size w w') : w'.ownsRow B e 1 v n xs := by
  refine ⟨h.1, ?_⟩
  rcases h.2 with h' | ⟨g', cap', cur, h', hB, hg, r⟩
  · exact .inl h'
  · exact .inr ⟨g', cap', cur, h', hB, by rw [hb.block g' (Array.getElem?_eq_some_iff.1 hg).1]; exact hg, r⟩
theorem outS_no {w w5 : World} {r r2 : Nat} (hB : Below w.heap.size w w5) (h1 : w.heap.size ≤ r) (h2 : w.heap.size ≤ r2) :
    Ans2S [] [] false w (.returned (.tuple #[.agg #[.slice none 0 0], .agg #[.slice none 0 0], .bool false])) ((w5.setCell ⟨r, 0, none⟩ (.slice none 0 0)).setCell ⟨r2, 0, none⟩ (.slice none 0 0)) := (out2_no hB h1 h2).s

set_option maxRecDepth 100000 in
set_option maxHeartbeats 6400000 in
theorem spec_any {P G H : List Int} {v0 v1 v2 : Value} {w : World} (h0 : Wh w v0 P) (h1 : Wh w v1 G) (h2 : Wh w v2 H) (p : Int) (_bp : (Lit.int .i64 p).wf = true) :
    Calls Try.prog 7 #[v0, v1, v2, .int .i64 p] w (Ans2S (R P G H p) (R2 P G H p) (ok P G H p) w) := by
  obtain ⟨_, rfl, h0⟩ := h0
  obtain ⟨po, pc, rfl⟩ := h0.shape
  obtain ⟨_, rfl, h1⟩ := h1
  obtain ⟨go, gc, rfl⟩ := h1.shape
  obtain ⟨_, rfl, h2⟩ := h2
  obtain ⟨ho, hc, rfl⟩ := h2.shape
  obtain ⟨w1, hw⟩ : ∃ x, x = ((((w.alloc (.cells #[.slice po P.length pc] 26)).alloc (.cells #[.slice go G.length gc] 26)).alloc (.cells #[.slice ho H.length hc] 26)).alloc (.cells #[.slice none 0 0] 26)).alloc (.cells #[.slice none 0 0] 26) := ⟨_, rfl⟩
  have XP : Hid (Bx w1 w.heap.size (.slice po P.length pc)) := by rw [hw]; exact ((((Bx.new _ _ _).alloc _).alloc _).alloc _).alloc _
  have XG : Hid (Bx w1 (w.heap.size + 1) (.slice go G.length gc)) := by rw [hw]; exact (((Bx.new2 _ _ _ _).alloc _).alloc _).alloc _
  have XH : Hid (Bx w1 (w.heap.size + 1 + 1) (.slice ho H.length hc)) := by rw [hw]; exact ((Bx.new3 _ _ _ _ _).alloc _).alloc _
  have XR : Hid (Bx w1 (w.heap.size + 1 + 1 + 1) (.slice none 0 0)) := by rw [hw]; exact (bx4 _ _ _ _ _ _).alloc _
  have XQ : Hid (Bx w1 (w.heap.size + 1 + 1 + 1 + 1) (.slice none 0 0)) := by rw [hw]; exact bx5 _ _ _ _ _ _ _
  have B1 : Hid (Below w.heap.size w w1) := by rw [hw]; exact new5 _ _ _ _ _ _
  have LP : Hid (Ls w1 (.slice po P.length pc) P) := Ls.below h0 B1.out
  have LG : Hid (Ls w1 (.slice go G.length gc) G) := Ls.below h1 B1.out
  have LH : Hid (Ls w1 (.slice ho H.length hc) H) := Ls.below h2 B1.out
  have CF : Hid (∀ W, Below w1.heap.size w1 W → W.cell? ⟨w.heap.size, 0, none⟩ = some (.slice po P.length pc) ∧ W.cell? ⟨w.heap.size + 1, 0, none⟩ = some (.slice go G.length gc) ∧ W.cell? ⟨w.heap.size + 1 + 1, 0, none⟩ = some (.slice ho H.length hc) ∧ Ls W (.slice po P.length pc) P ∧ Ls W (.slice go G.length gc) G ∧ Ls W (.slice ho H.length hc) H) :=
    fun W b => ⟨(XP.out.kept b).cell, (XG.out.kept b).cell, (XH.out.kept b).cell, LP.out.below b, LG.out.below b, LH.out.below b⟩
  have LR : Hid (w.heap.size + 1 + 1 + 1 < w1.heap.size ∧ w.heap.size + 1 + 1 + 1 + 1 < w1.heap.size) := ⟨XR.out.lt, XQ.out.lt⟩
  have NO : Hid (∀ W, chk P G H p = false → Below w1.heap.size w1 W → Hid (Ans2S (R P G H p) (R2 P G H p) (ok P G H p) w (.returned (.tuple #[.agg #[.slice none 0 0], .agg #[.slice none 0 0], .bool false])) ((W.setCell ⟨w.heap.size + 1 + 1 + 1, 0, none⟩ (.slice none 0 0)).setCell ⟨w.heap.size + 1 + 1 + 1 + 1, 0, none⟩ (.slice none 0 0))) ∧
      (((W.setCell ⟨w.heap.size + 1 + 1 + 1, 0, none⟩ (.slice none 0 0)).setCell ⟨w.heap.size + 1 + 1 + 1 + 1, 0, none⟩ (.slice none 0 0)).cell? ⟨w.heap.size + 1 + 1 + 1, 0, none⟩ = some (.slice none 0 0) ∧ ((W.setCell ⟨w.heap.size + 1 + 1 + 1, 0, none⟩ (.slice none 0 0)).setCell ⟨w.heap.size + 1 + 1 + 1 + 1, 0, none⟩ (.slice none 0 0)).cell? ⟨w.heap.size + 1 + 1 + 1 + 1, 0, none⟩ = some (.slice none 0 0)) ∧
      (W.setCell ⟨w.heap.size + 1 + 1 + 1, 0, none⟩ (.slice none 0 0)).cell? ⟨w.heap.size + 1 + 1 + 1 + 1, 0, none⟩ = some (.slice none 0 0) ∧ (W.setCell ⟨w.heap.size + 1 + 1 + 1, 0, none⟩ (.slice none 0 0)).frozen? ⟨w.heap.size + 1 + 1 + 1 + 1, 0, none⟩ = false ∧
      W.cell? ⟨w.heap.size + 1 + 1 + 1, 0, none⟩ = some (.slice none 0 0) ∧ W.frozen? ⟨w.heap.size + 1 + 1 + 1, 0, none⟩ = false) := fun W hk b => by
    have x1 := XR.out.kept b
    have x2 := XQ.out.kept b
    obtain ⟨y, z1, z2⟩ := two_set x1 x2 (by omega) (.slice none 0 0) (.slice none 0 0)
    refine ⟨?_, y, z1, z2, x1.cell, x1.free⟩
    show Ans2S _ _ _ _ _ _
    have e1 : R P G H p = [] := if_neg (by rw [hk]; decide)
    have e2 : R2 P G H p = [] := if_neg (by rw [hk]; decide)
    have e3 : ok P G H p = false := hk
    rw [e1, e2, e3]
    exact outS_no (B1.out.trans (b.mono B1.out.size)) (by omega) (by omega)
  have c0 := XP.out.cell
  have c1 := XG.out.cell
  have c2 := XH.out.cell
  have BR : Hid (Below w1.heap.size w1 w1) := Below.refl _ _
  have K0 := is_any c0 LP.out
  clear h0 h1 h2
  go_enter Try.func7, Try.ntmps7
  go_wp2_with fail
  rw [← hw]
  clear hw
  refine K0.mono ?_
  rintro e w0 ⟨rfl, hw0⟩
  rw [hw0]
  clear hw0 K0
  cases hv : val P with
  | false =>
    obtain ⟨HA, ⟨y1, y2⟩, z1, z2, f1, f2⟩ := NO.out w1 (chk_no fun h => by obtain ⟨k1, k2, k3, k4, k5, k6, k7, k8, k9, k10, k11⟩ := h; rw [k3] at hv; cases hv) BR.out
    clear hv
    go_wp2_with fail
    exact bodyPost_ret (v := .tuple #[.agg #[.slice none 0 0], .agg #[.slice none 0 0], .bool false]) (by simp [results, Try.results7, y1, y2, go_sem]) rfl HA.out
  | true =>
    have HVP : Hid (val P = true) := hv
    clear hv
    have K1 := sover_any c1 LG.out p
    go_wp2_with fail
    refine K1.mono ?_
    rintro e w0 ⟨rfl, hw0⟩
    rw [hw0]
    clear hw0 K1
    cases hv : over G p with
    | false =>
      obtain ⟨HA, ⟨y1, y2⟩, z1, z2, f1, f2⟩ := NO.out w1 (chk_no fun h => by obtain ⟨k1, k2, k3, k4, k5, k6, k7, k8, k9, k10, k11⟩ := h; rw [k1] at hv; cases hv) BR.out
      clear hv
      go_wp2_with fail
      exact bodyPost_ret (v := .tuple #[.agg #[.slice none 0 0], .agg #[.slice none 0 0], .bool false]) (by simp [results, Try.results7, y1, y2, go_sem]) rfl HA.out
    | true =>
      have HVG : Hid (over G p = true) := hv
      clear hv
      have K2 := sover_any c2 LH.out p
      go_wp2_with fail
      refine K2.mono ?_
      rintro e w0 ⟨rfl, hw0⟩
      rw [hw0]
      clear hw0 K2
      cases hv : over H p with
      | false =>
        obtain ⟨HA, ⟨y1, y2⟩, z1, z2, f1, f2⟩ := NO.out w1 (chk_no fun h => by obtain ⟨k1, k2, k3, k4, k5, k6, k7, k8, k9, k10, k11⟩ := h; rw [k2] at hv; cases hv) BR.out
        clear hv
        go_wp2_with fail
        exact bodyPost_ret (v := .tuple #[.agg #[.slice none 0 0], .agg #[.slice none 0 0], .bool false]) (by simp [results, Try.results7, y1, y2, go_sem]) rfl HA.out
      | true =>
        have HVH : Hid (over H p = true) := hv
        clear hv
        by_cases hq : 9 < P.length
        · have hq2 : (9 : Int) < (P.length : Int) := by omega
          obtain ⟨HA, ⟨y1, y2⟩, z1, z2, f1, f2⟩ := NO.out w1 (chk_no fun h => by obtain ⟨k1, k2, k3, k4, k5, k6, k7, k8, k9, k10, k11⟩ := h; omega) BR.out
          clear hq
          go_wp2_with fail
          exact bodyPost_ret (v := .tuple #[.agg #[.slice none 0 0], .agg #[.slice none 0 0], .bool false]) (by simp [results, Try.results7, y1, y2, go_sem]) rfl HA.out
        have p9 : ¬ (9 : Int) < (P.length : Int) := by omega
        clear hq
        by_cases hq : G.length < 2
        · have hq2 : (G.length : Int) < 2 := by omega
          obtain ⟨HA, ⟨y1, y2⟩, z1, z2, f1, f2⟩ := NO.out w1 (chk_no fun h => by obtain ⟨k1, k2, k3, k4, k5, k6, k7, k8, k9, k10, k11⟩ := h; omega) BR.out
          clear hq
          go_wp2_with fail
          exact bodyPost_ret (v := .tuple #[.agg #[.slice none 0 0], .agg #[.slice none 0 0], .bool false]) (by simp [results, Try.results7, y1, y2, go_sem]) rfl HA.out
        have g2 : ¬ (G.length : Int) < 2 := by omega
        clear hq
        by_cases hq : H.length < 2
        · have hq2 : (H.length : Int) < 2 := by omega
          obtain ⟨HA, ⟨y1, y2⟩, z1, z2, f1, f2⟩ := NO.out w1 (chk_no fun h => by obtain ⟨k1, k2, k3, k4, k5, k6, k7, k8, k9, k10, k11⟩ := h; omega) BR.out
          clear hq
          go_wp2_with fail
          exact bodyPost_ret (v := .tuple #[.agg #[.slice none 0 0], .agg #[.slice none 0 0], .bool false]) (by simp [results, Try.results7, y1, y2, go_sem]) rfl HA.out
        have h2 : ¬ (H.length : Int) < 2 := by omega
        clear hq
        have K3 := sone_any (z := at' P (P.length - 1)) LP.out (at_some P _ (by have := (val_iff.1 HVP.out).1; omega))
        have K4 := sone_any (z := at' G (G.length - 1)) LG.out (at_some G _ (by omega))
        have K5 := sone_any (z := at' H (H.length - 1)) LH.out (at_some H _ (by omega))
        go_wp2_with fail
        refine K3.mono ?_
        rintro e w0 ⟨rfl, hw0⟩
        rw [hw0]
        clear hw0 K3
        by_cases hv : at' P (P.length - 1) = 1
        case neg =>
          rw [decide_eq_false hv]
          obtain ⟨HA, ⟨y1, y2⟩, z1, z2, f1, f2⟩ := NO.out w1 (chk_no fun h => by obtain ⟨k1, k2, k3, k4, k5, k6, k7, k8, k9, k10, k11⟩ := h; exact hv k7) BR.out
          clear hv
          go_wp2_with fail
          exact bodyPost_ret (v := .tuple #[.agg #[.slice none 0 0], .agg #[.slice none 0 0], .bool false]) (by simp [results, Try.results7, y1, y2, go_sem]) rfl HA.out
        rw [decide_eq_true hv]
        have HLP : Hid (at' P (P.length - 1) = 1) := hv
        clear hv
        go_wp2_with fail
        refine K4.mono ?_
        rintro e w0 ⟨rfl, hw0⟩
        rw [hw0]
        clear hw0 K4
        by_cases hv : at' G (G.length - 1) = 1
        case neg =>
          rw [decide_eq_false hv]
          obtain ⟨HA, ⟨y1, y2⟩, z1, z2, f1, f2⟩ := NO.out w1 (chk_no fun h => by obtain ⟨k1, k2, k3, k4, k5, k6, k7, k8, k9, k10, k11⟩ := h; exact hv k8) BR.out
          clear hv
          go_wp2_with fail
          exact bodyPost_ret (v := .tuple #[.agg #[.slice none 0 0], .agg #[.slice none 0 0], .bool false]) (by simp [results, Try.results7, y1, y2, go_sem]) rfl HA.out
        rw [decide_eq_true hv]
        have HLG : Hid (at' G (G.length - 1) = 1) := hv
        clear hv
        go_wp2_with fail
        refine K5.mono ?_
        rintro e w0 ⟨rfl, hw0⟩
        rw [hw0]
        clear hw0 K5
        by_cases hv : at' H (H.length - 1) = 1
        case neg =>
          rw [decide_eq_false hv]
          obtain ⟨HA, ⟨y1, y2⟩, z1, z2, f1, f2⟩ := NO.out w1 (chk_no fun h => by obtain ⟨k1, k2, k3, k4, k5, k6, k7, k8, k9, k10, k11⟩ := h; exact hv k9) BR.out
          clear hv
          go_wp2_with fail
          exact bodyPost_ret (v := .tuple #[.agg #[.slice none 0 0], .agg #[.slice none 0 0], .bool false]) (by simp [results, Try.results7, y1, y2, go_sem]) rfl HA.out
        rw [decide_eq_true hv]
        have HLH : Hid (at' H (H.length - 1) = 1) := hv
        clear hv
        go_wp2_with fail
        have HPR : Hid (isP p = true ∧ 2 ≤ p ∧ p ≤ 13) := ⟨(over_val HVG.out).1, isP_le (over_val HVG.out).1⟩
        have GG : Hid (Gd G p ∧ Gd H p) := ⟨Gd.of_over HVG.out, Gd.of_over HVH.out⟩
        have VP : Hid (Val P) := val_iff.1 HVP.out
        have LN : Hid (P.length ≤ 9 ∧ 2 ≤ G.length ∧ 2 ≤ H.length) := ⟨by omega, by omega, by omega⟩
        have bd : Hid (Below w1.heap.size w1 w1.drew) := (Below.refl _ _).drew
        have HMUL : Hid (∀ W, Ls W (.slice go G.length gc) G → Ls W (.slice ho H.length hc) H → Calls Try.prog 28 #[.slice go G.length gc, .slice ho H.length hc] W fun e w' => ∃ v', e = .returned v' ∧ Own w' W.heap.size w'.heap.size v' (prod G H) ∧ Below W.heap.size W w') :=
          fun W a b => PM.c1 ⟨GG.out.1.1, GG.out.2.1, by have := GG.out.1.2.1; omega, by have := GG.out.2.2.1; omega, HPR.out.1⟩ a b
        have HMD1 : Hid (∀ W v, Ls W v (prod G H) → Calls Try.prog 27 #[v, .int .i64 p] W fun e w' => ∃ v', e = .returned v' ∧ Own w' W.heap.size w'.heap.size v' (trim (mods (prod G H) p)) ∧ Below W.heap.size W w') :=
          fun W v a => mods_any a (prod_ne GG.out.1.1.1 GG.out.2.1.1) (by rw [prod_len]; have := GG.out.1.2.1; have := GG.out.2.2.1; omega) p ⟨by have := HPR.out; omega, by have := HPR.out; omega⟩
        have HMD2 : Hid (∀ W, Ls W (.slice po P.length pc) P → Calls Try.prog 27 #[.slice po P.length pc, .int .i64 p] W fun e w' => ∃ v', e = .returned v' ∧ Own w' W.heap.size w'.heap.size v' (trim (mods P p)) ∧ Below W.heap.size W w') :=
          fun W a => mods_any a (ne_of_len VP.out.1) (by have := LN.out; omega) p ⟨by have := HPR.out; omega, by have := HPR.out; omega⟩
        have HCO : Hid (∀ W, Ls W (.slice go G.length gc) G → Ls W (.slice ho H.length hc) H → Calls Try.prog 29 #[.slice go G.length gc, .slice ho H.length hc, .int .i64 p] W fun e w' => ∃ v, e = .returned v ∧ Ls w' v (mon (cgo p (mu H) G H) p) ∧ Below W.heap.size W w') :=
          fun W a b => sco_any HPR.out.1 a b GG.out.1 GG.out.2
        clear p9 g2 h2
        by_cases hs : trim (mods (prod G H) p) = trim (mods P p)
        case neg =>
          -- SLOW
          have HSM : Hid (∀ W va vb, Ls W va (trim (mods (prod G H) p)) → Ls W vb (trim (mods P p)) → Calls Try.prog 26 #[va, vb] W fun e w' => e = .returned (.bool false) ∧ Below W.heap.size W w') := fun W va vb a b => by
            have := fSameWhole.same_any a b
            rw [decide_eq_false hs] at this
            exact this
          refine wp_region_held_drew (S := (fun w' => w'.cell? ⟨w.heap.size, 0, none⟩ = some (.slice po P.length pc) ∧ w'.cell? ⟨w.heap.size + 1, 0, none⟩ = some (.slice go G.length gc) ∧ w'.cell? ⟨w.heap.size + 1 + 1, 0, none⟩ = some (.slice ho H.length hc))) (by kernel_rfl) ?_ (fun k0 => ?_)
          · exact ⟨(XP.out.kept bd.out).cell, (XG.out.kept bd.out).cell, (XH.out.kept bd.out).cell⟩
          refine wpAnyH_take (i := 0) (oi := { dst := some 76, op := Op.fieldAddr 26 (Operand.tmp 5) 0, type := 0, pos := "l03_integers.go:714", after := #[], guard := none }) (v := .pointer (some ⟨w.heap.size + 1, 0, none⟩)) rfl (by kernel_rfl) (by kernel_rfl) (by kernel_rfl) (fun _ _ _ h => h) (Or.inl ⟨by rfl, ?_⟩) k0 ?_
          · intro w0 hSw
            go_simp
          simp only [Act.put, List.setIfInBounds_toArray, List.set_cons_zero, List.set_cons_succ]
          refine wpAnyH_take (i := 1) (oi := { dst := some 77, op := Op.load 22 (Operand.tmp 76), type := 22, pos := "l03_integers.go:714", after := #[{ on := 0, ground := Ground.data }], guard := none }) (v := .slice go G.length gc) rfl (by kernel_rfl) (by kernel_rfl) (by kernel_rfl) (fun _ _ _ h => h) (Or.inl ⟨by rfl, ?_⟩) k0 ?_
          · intro w0 hSw
            go_simp
          simp only [Act.put, List.setIfInBounds_toArray, List.set_cons_zero, List.set_cons_succ]
          refine wpAnyH_take (i := 2) (oi := { dst := some 78, op := Op.fieldAddr 26 (Operand.tmp 6) 0, type := 0, pos := "l03_integers.go:714", after := #[], guard := none }) (v := .pointer (some ⟨w.heap.size + 1 + 1, 0, none⟩)) rfl (by kernel_rfl) (by kernel_rfl) (by kernel_rfl) (fun _ _ _ h => h) (Or.inl ⟨by rfl, ?_⟩) k0 ?_
          · intro w0 hSw
            go_simp
          simp only [Act.put, List.setIfInBounds_toArray, List.set_cons_zero, List.set_cons_succ]
          refine wpAnyH_take (i := 3) (oi := { dst := some 79, op := Op.load 22 (Operand.tmp 78), type := 22, pos := "l03_integers.go:714", after := #[{ on := 2, ground := Ground.data }], guard := none }) (v := .slice ho H.length hc) rfl (by kernel_rfl) (by kernel_rfl) (by kernel_rfl) (fun _ _ _ h => h) (Or.inl ⟨by rfl, ?_⟩) k0 ?_
          · intro w0 hSw
            go_simp
          simp only [Act.put, List.setIfInBounds_toArray, List.set_cons_zero, List.set_cons_succ]
          refine wpAnyH_take (i := 5) (oi := { dst := some 81, op := Op.move (Operand.tmp 3), type := 2, pos := "l03_integers.go:714", after := #[], guard := none }) (v := .int .i64 p) rfl (by kernel_rfl) (by kernel_rfl) (by kernel_rfl) (fun _ _ _ h => h) (Or.inl ⟨by rfl, ?_⟩) k0 ?_
          · intro w0 hSw
            go_simp
          simp only [Act.put, List.setIfInBounds_toArray, List.set_cons_zero, List.set_cons_succ]
          refine wpAnyH_take (i := 7) (oi := { dst := some 83, op := Op.fieldAddr 26 (Operand.tmp 4) 0, type := 0, pos := "l03_integers.go:714", after := #[], guard := none }) (v := .pointer (some ⟨w.heap.size, 0, none⟩)) rfl (by kernel_rfl) (by kernel_rfl) (by kernel_rfl) (fun _ _ _ h => h) (Or.inl ⟨by rfl, ?_⟩) k0 ?_
          · intro w0 hSw
            go_simp
          simp only [Act.put, List.setIfInBounds_toArray, List.set_cons_zero, List.set_cons_succ]
          refine wpAnyH_take (i := 8) (oi := { dst := some 84, op := Op.load 22 (Operand.tmp 83), type := 22, pos := "l03_integers.go:714", after := #[{ on := 7, ground := Ground.data }], guard := none }) (v := .slice po P.length pc) rfl (by kernel_rfl) (by kernel_rfl) (by kernel_rfl) (fun _ _ _ h => h) (Or.inl ⟨by rfl, ?_⟩) k0 ?_
          · intro w0 hSw
            go_simp
          simp only [Act.put, List.setIfInBounds_toArray, List.set_cons_zero, List.set_cons_succ]
          refine wpAnyH_take (i := 9) (oi := { dst := some 85, op := Op.move (Operand.tmp 3), type := 2, pos := "l03_integers.go:714", after := #[], guard := none }) (v := .int .i64 p) rfl (by kernel_rfl) (by kernel_rfl) (by kernel_rfl) (fun _ _ _ h => h) (Or.inl ⟨by rfl, ?_⟩) k0 ?_
          · intro w0 hSw
            go_simp
          simp only [Act.put, List.setIfInBounds_toArray, List.set_cons_zero, List.set_cons_succ]
          refine wpAnyH_ready (rs := [4]) (by kernel_rfl) (by simp) ?_
          refine AllReadyH.cons rfl (fun K hK => ?_) AllReadyH.nil
          go_simp
          go_wp2_with (go_at_call 28; refine (HMUL.out _ (LG.out.below bd.out) (LH.out.below bd.out)).mono ?_; rintro e w2 ⟨q1, rfl, o1, b2⟩; have by1 : Hid (Below w1.heap.size w1 w2) := bd.out.trans (b2.mono bd.out.size); have O1 : Hid (Ls w2 q1 (prod G H)) := o1.ls (Nat.le_refl _); clear o1 b2)
          refine hK.out _ _ ?_ (fun k1 => ?_)
          · exact ⟨(XP.out.kept by1.out).cell, (XG.out.kept by1.out).cell, (XH.out.kept by1.out).cell⟩
          clear hK K k0
          refine wpAnyH_ready (rs := [6]) (by kernel_rfl) (by simp) ?_
          refine AllReadyH.cons rfl (fun K hK => ?_) AllReadyH.nil
          go_simp
          go_wp2_with (go_at_call 27; refine (HMD1.out _ _ O1.out).mono ?_; rintro e w3 ⟨m1, rfl, o2, b3⟩; have by2 : Hid (Below w1.heap.size w1 w3) := by1.out.trans (b3.mono by1.out.size); have O2 : Hid (Ls w3 m1 (trim (mods (prod G H) p))) := o2.ls (Nat.le_refl _); clear o2 b3)
          refine hK.out _ _ ?_ (fun k2 => ?_)
          · exact ⟨(XP.out.kept by2.out).cell, (XG.out.kept by2.out).cell, (XH.out.kept by2.out).cell⟩
          clear hK K k1
          refine wpAnyH_ready (rs := [10]) (by kernel_rfl) (by simp) ?_
          refine AllReadyH.cons rfl (fun K hK => ?_) AllReadyH.nil
          go_simp
          go_wp2_with (go_at_call 27; refine (HMD2.out _ (LP.out.below by2.out)).mono ?_; rintro e w4 ⟨m2, rfl, o3, b4⟩; have by3 : Hid (Below w1.heap.size w1 w4) := by2.out.trans (b4.mono by2.out.size); have O3 : Hid (Ls w4 m2 (trim (mods P p))) := o3.ls (Nat.le_refl _); have b23 : Hid (Below w3.heap.size w3 w4) := b4; clear o3 b4)
          refine hK.out _ _ ?_ (fun k3 => ?_)
          · exact ⟨(XP.out.kept by3.out).cell, (XG.out.kept by3.out).cell, (XH.out.kept by3.out).cell⟩
          clear hK K k2
          refine wpAnyH_ready (rs := [11]) (by kernel_rfl) (by simp) ?_
          refine AllReadyH.cons rfl (fun K hK => ?_) AllReadyH.nil
          go_simp
          go_wp2_with (go_at_call 26; refine (HSM.out _ _ _ (O2.out.below b23.out) O3.out).mono ?_; rintro e w5 ⟨rfl, b5⟩; have by4 : Hid (Below w1.heap.size w1 w5) := by3.out.trans (b5.mono by3.out.size); clear b5)
          refine hK.out _ _ ?_ (fun k4 => ?_)
          · exact ⟨(XP.out.kept by4.out).cell, (XG.out.kept by4.out).cell, (XH.out.kept by4.out).cell⟩
          clear hK K k3
          refine wpAnyH_take (i := 12) (oi := { dst := some 88, op := Op.unOp UnOp.not 4 (Operand.tmp 87), type := 4, pos := "l03_integers.go:714", after := #[{ on := 11, ground := Ground.data }], guard := none }) (v := .bool true) rfl (by kernel_rfl) (by kernel_rfl) (by kernel_rfl) (fun _ _ _ h => h) (Or.inl ⟨by rfl, ?_⟩) k4 ?_
          · intro w0 hSw
            go_simp
          simp only [Act.put, List.setIfInBounds_toArray, List.set_cons_zero, List.set_cons_succ]
          refine wpAnyH_take (i := 13) (oi := { dst := some 89, op := Op.move (Operand.tmp 88), type := 4, pos := "l03_integers.go:714", after := #[{ on := 12, ground := Ground.data }, { on := 11, ground := Ground.chain }], guard := none }) (v := .bool true) rfl (by kernel_rfl) (by kernel_rfl) (by kernel_rfl) (fun _ _ _ h => h) (Or.inl ⟨by rfl, ?_⟩) k4 ?_
          · intro w0 hSw
            go_simp
          simp only [Act.put, List.setIfInBounds_toArray, List.set_cons_zero, List.set_cons_succ]
          refine wpAnyH_take (i := 14) (oi := { dst := some 90, op := Op.fieldAddr 26 (Operand.tmp 5) 0, type := 0, pos := "l03_integers.go:714", after := #[{ on := 13, ground := Ground.guard }], guard := some (13, false) }) (v := undef) rfl (by kernel_rfl) (by kernel_rfl) (by kernel_rfl) (fun _ _ _ h => h) (Or.inr ⟨by rfl, rfl⟩) k4 ?_
          simp only [Act.put, List.setIfInBounds_toArray, List.set_cons_zero, List.set_cons_succ]
          refine wpAnyH_take (i := 15) (oi := { dst := some 91, op := Op.load 22 (Operand.tmp 90), type := 22, pos := "l03_integers.go:714", after := #[{ on := 14, ground := Ground.data }, { on := 13, ground := Ground.guard }], guard := some (13, false) }) (v := undef) rfl (by kernel_rfl) (by kernel_rfl) (by kernel_rfl) (fun _ _ _ h => h) (Or.inr ⟨by rfl, rfl⟩) k4 ?_
          simp only [Act.put, List.setIfInBounds_toArray, List.set_cons_zero, List.set_cons_succ]
          refine wpAnyH_take (i := 16) (oi := { dst := some 92, op := Op.fieldAddr 26 (Operand.tmp 6) 0, type := 0, pos := "l03_integers.go:714", after := #[{ on := 13, ground := Ground.guard }], guard := some (13, false) }) (v := undef) rfl (by kernel_rfl) (by kernel_rfl) (by kernel_rfl) (fun _ _ _ h => h) (Or.inr ⟨by rfl, rfl⟩) k4 ?_
          simp only [Act.put, List.setIfInBounds_toArray, List.set_cons_zero, List.set_cons_succ]
          refine wpAnyH_take (i := 17) (oi := { dst := some 93, op := Op.load 22 (Operand.tmp 92), type := 22, pos := "l03_integers.go:714", after := #[{ on := 16, ground := Ground.data }, { on := 13, ground := Ground.guard }], guard := some (13, false) }) (v := undef) rfl (by kernel_rfl) (by kernel_rfl) (by kernel_rfl) (fun _ _ _ h => h) (Or.inr ⟨by rfl, rfl⟩) k4 ?_
          simp only [Act.put, List.setIfInBounds_toArray, List.set_cons_zero, List.set_cons_succ]
          refine wpAnyH_take (i := 18) (oi := { dst := some 94, op := Op.move (Operand.tmp 3), type := 2, pos := "l03_integers.go:714", after := #[{ on := 13, ground := Ground.guard }], guard := some (13, false) }) (v := undef) rfl (by kernel_rfl) (by kernel_rfl) (by kernel_rfl) (fun _ _ _ h => h) (Or.inr ⟨by rfl, rfl⟩) k4 ?_
          simp only [Act.put, List.setIfInBounds_toArray, List.set_cons_zero, List.set_cons_succ]
          refine wpAnyH_take (i := 19) (oi := { dst := some 95, op := Op.call { callee := Callee.value (Operand.func 29), args := #[Operand.tmp 91, Operand.tmp 93, Operand.tmp 94], argTypes := #[22, 22, 2] }, type := 22, pos := "l03_integers.go:714", after := #[{ on := 15, ground := Ground.data }, { on := 17, ground := Ground.data }, { on := 18, ground := Ground.data }, { on := 13, ground := Ground.chain }, { on := 13, ground := Ground.guard }], guard := some (13, false) }) (v := undef) rfl (by kernel_rfl) (by kernel_rfl) (by kernel_rfl) (fun _ _ _ h => h) (Or.inr ⟨by rfl, rfl⟩) k4 ?_
          simp only [Act.put, List.setIfInBounds_toArray, List.set_cons_zero, List.set_cons_succ]
          refine wpAnyH_take (i := 20) (oi := { dst := some 96, op := Op.call { callee := Callee.builtin Builtin.len, args := #[Operand.tmp 95], argTypes := #[22] }, type := 3, pos := "l03_integers.go:714", after := #[{ on := 19, ground := Ground.data }, { on := 13, ground := Ground.guard }], guard := some (13, false) }) (v := undef) rfl (by kernel_rfl) (by kernel_rfl) (by kernel_rfl) (fun _ _ _ h => h) (Or.inr ⟨by rfl, rfl⟩) k4 ?_
          simp only [Act.put, List.setIfInBounds_toArray, List.set_cons_zero, List.set_cons_succ]
          refine wpAnyH_take (i := 21) (oi := { dst := some 97, op := Op.binOp BinOp.neq 3 (Operand.tmp 96) (Operand.const (Value.int IntKind.i64 1)) 3, type := 4, pos := "l03_integers.go:714", after := #[{ on := 20, ground := Ground.data }, { on := 13, ground := Ground.guard }], guard := some (13, false) }) (v := undef) rfl (by kernel_rfl) (by kernel_rfl) (by kernel_rfl) (fun _ _ _ h => h) (Or.inr ⟨by rfl, rfl⟩) k4 ?_
          simp only [Act.put, List.setIfInBounds_toArray, List.set_cons_zero, List.set_cons_succ]
          refine wpAnyH_take (i := 22) (oi := { dst := some 98, op := Op.pick (Operand.tmp 89) (Operand.const (Value.bool true)) (Operand.tmp 97), type := 4, pos := "l03_integers.go:714", after := #[{ on := 13, ground := Ground.data }, { on := 21, ground := Ground.data }], guard := none }) (v := .bool true) rfl (by kernel_rfl) (by kernel_rfl) (by kernel_rfl) (fun _ _ _ h => h) (Or.inl ⟨by rfl, ?_⟩) k4 ?_
          · intro w0 hSw
            go_simp
          simp only [Act.put, List.setIfInBounds_toArray, List.set_cons_zero, List.set_cons_succ]
          refine wpAnyH_done (by kernel_rfl) ?_ _
          obtain ⟨HA, ⟨y1, y2⟩, z1, z2, f1, f2⟩ := NO.out w5 (chk_no fun h => by obtain ⟨k1, k2, k3, k4, k5, k6, k7, k8, k9, k10, k11⟩ := h; exact hs k10) by4.out
          clear hs
          go_wp2_with fail
          exact bodyPost_ret (v := .tuple #[.agg #[.slice none 0 0], .agg #[.slice none 0 0], .bool false]) (by simp [results, Try.results7, y1, y2, go_sem]) rfl HA.out
          -- END
        have HSM : Hid (∀ W va vb, Ls W va (trim (mods (prod G H) p)) → Ls W vb (trim (mods P p)) → Calls Try.prog 26 #[va, vb] W fun e w' => e = .returned (.bool true) ∧ Below W.heap.size W w') := fun W va vb a b => by
          have := fSameWhole.same_any a b
          rw [decide_eq_true hs] at this
          exact this
        have HSS : Hid (trim (mods (prod G H) p) = trim (mods P p)) := hs
        clear hs
        go_region_held3 (fun w' => w'.cell? ⟨w.heap.size, 0, none⟩ = some (.slice po P.length pc) ∧ w'.cell? ⟨w.heap.size + 1, 0, none⟩ = some (.slice go G.length gc) ∧ w'.cell? ⟨w.heap.size + 1 + 1, 0, none⟩ = some (.slice ho H.length hc))
          (first | exact ⟨(XP.out.kept bd.out).cell, (XG.out.kept bd.out).cell, (XH.out.kept bd.out).cell⟩ | exact ⟨(XP.out.kept by1.out).cell, (XG.out.kept by1.out).cell, (XH.out.kept by1.out).cell⟩ | exact ⟨(XP.out.kept by2.out).cell, (XG.out.kept by2.out).cell, (XH.out.kept by2.out).cell⟩ | exact ⟨(XP.out.kept by3.out).cell, (XG.out.kept by3.out).cell, (XH.out.kept by3.out).cell⟩ | exact ⟨(XP.out.kept by4.out).cell, (XG.out.kept by4.out).cell, (XH.out.kept by4.out).cell⟩ | exact ⟨(XP.out.kept by5.out).cell, (XG.out.kept by5.out).cell, (XH.out.kept by5.out).cell⟩)
          (first
            | (go_at_call 29; refine (HCO.out _ (LG.out.below by4.out) (LH.out.below by4.out)).mono ?_; rintro e w6 ⟨vc, rfl, o5, b6⟩; have by5 : Hid (Below w1.heap.size w1 w6) := by4.out.trans (b6.mono by4.out.size); obtain ⟨ca, cc, rfl⟩ := o5.shape; clear o5 b6)
            | (go_at_call 26; refine (HSM.out _ _ _ (O2.out.below b23.out) O3.out).mono ?_; rintro e w5 ⟨rfl, b5⟩; have by4 : Hid (Below w1.heap.size w1 w5) := by3.out.trans (b5.mono by3.out.size); clear b5)
            | (go_at_call 27; refine (HMD2.out _ (LP.out.below by2.out)).mono ?_; rintro e w4 ⟨m2, rfl, o3, b4⟩; have by3 : Hid (Below w1.heap.size w1 w4) := by2.out.trans (b4.mono by2.out.size); have O3 : Hid (Ls w4 m2 (trim (mods P p))) := o3.ls (Nat.le_refl _); have b23 : Hid (Below w3.heap.size w3 w4) := b4; clear o3 b4)
            | (go_at_call 27; refine (HMD1.out _ _ O1.out).mono ?_; rintro e w3 ⟨m1, rfl, o2, b3⟩; have by2 : Hid (Below w1.heap.size w1 w3) := by1.out.trans (b3.mono by1.out.size); have O2 : Hid (Ls w3 m1 (trim (mods (prod G H) p))) := o2.ls (Nat.le_refl _); clear o2 b3)
            | (go_at_call 28; refine (HMUL.out _ (LG.out.below bd.out) (LH.out.below bd.out)).mono ?_; rintro e w2 ⟨q1, rfl, o1, b2⟩; have by1 : Hid (Below w1.heap.size w1 w2) := bd.out.trans (b2.mono bd.out.size); have O1 : Hid (Ls w2 q1 (prod G H)) := o1.ls (Nat.le_refl _); clear o1 b2))
        obtain ⟨m, hm⟩ : ∃ m, m = (mon (cgo p (mu H) G H) p).length := ⟨_, rfl⟩
        rw [← hm]
        by_cases hm1 : m = 1
        case neg =>
          -- SLOW
          have q1 : ((m : Int) == 1) = false := by rw [beq_eq_false_iff_ne]; omega
          have q2 : ((m : Int) != 1) = true := by rw [bne, q1]; rfl
          obtain ⟨HA, ⟨y1, y2⟩, z1, z2, f1, f2⟩ := NO.out w6 (chk_no fun h => by obtain ⟨k1, k2, k3, k4, k5, k6, k7, k8, k9, k10, k11⟩ := h; exact hm1 (hm.trans k11)) by5.out
          clear hm1 hm
          go_wp2_with fail
          exact bodyPost_ret (v := .tuple #[.agg #[.slice none 0 0], .agg #[.slice none 0 0], .bool false]) (by simp [results, Try.results7, y1, y2, go_sem]) rfl HA.out
          -- END
        have HCK : Hid (chk P G H p = true) := chk_iff.2 ⟨HVG.out, HVH.out, HVP.out, LN.out.1, LN.out.2.1, LN.out.2.2, HLP.out, HLG.out, HLH.out, HSS.out, hm.symm.trans hm1⟩
        subst hm1
        have HK : Hid (LK P G H p) := lk_of HCK.out
        have BC : Hid (Below w1.heap.size w1 w6) := by5
        clear hm O1 O2 O3 b23 by1 by2 by3 by4 by5 HSM HSS HMD1 HMD2 HCO bd NO HLP HLG HLH HVP HVG HVH VP
        obtain ⟨sq, hsq⟩ : ∃ s, s = p * p := ⟨_, rfl⟩
        have HSQ : Hid (sq = p * p ∧ 4 ≤ sq ∧ sq ≤ 169) := by
          have h1 := HPR.out.2
          have h2 := mul_le (A := 13) (B := 13) (show -13 ≤ p ∧ p ≤ 13 by omega) (show -13 ≤ p ∧ p ≤ 13 by omega)
          have h3 : 2 * 2 ≤ p * p := Int.mul_le_mul h1.1 h1.1 (by omega) (by omega)
          exact ⟨hsq, by omega, by omega⟩
        have s1 : IntKind.i64.wrap (p * p) = sq := by rw [← hsq]; exact IntWalk.i64_in _ (by have := HSQ.out; omega)
        have s2 : wrap64 (p * p) = sq := by rw [← hsq]; exact IntWalk.wrap64_in _ (by have := HSQ.out; omega)
        clear hsq
        obtain ⟨c0, c1, c2, l0, l1, l2⟩ := CF.out _ BC.out
        have LP6 : Hid (Ls w6 (.slice po P.length pc) P) := l0
        clear l0 l1 l2
        have HN : Hid ((prod G H).length = P.length) := by show _ = _; rw [prod_len]; exact HK.out.mods.2.symm
        have hn9 : P.length ≤ 9 := LN.out.1
        have hml : P.length ≤ maxLen := by unfold maxLen; omega
        obtain ⟨i0, hi, hz0, hz1, hz2⟩ := info_parts info_i
        go_wp2_with (first | (refine wpList_make_full _ rfl (.tmp 106) (.tmp 106) 22 rfl w6.heap.size 2 i0 (.int .i64 0) 1 Try.underlying22 hi hz0 hz1 .i64 .i64 _ _ P.length rfl rfl rfl rfl (by rw [hz2]; omega) hml (Nat.le_refl _) ?_; intro w7 hown hgrow; have B67 : Below w6.heap.size w6 w7 := (Below.refl w6.heap.size w6).grown hgrow (Nat.le_refl _) (by intro k hk; cases hk); have B7 : Hid (Below w1.heap.size w1 w7) := BC.out.trans (B67.mono BC.out.size); have d1 := (CF.out _ B7.out).2.1; have d2 := (CF.out _ B7.out).2.2.1))
        obtain ⟨B, hB⟩ : ∃ B, B = w6.heap.size := ⟨_, rfl⟩
        rw [← hB] at hown
        rw [← hB]
        have HE : Hid (B = w6.heap.size ∧ w1.heap.size ≤ B ∧ B < w7.heap.size) := ⟨hB, by rw [hB]; exact BC.out.size, own_lt hown⟩
        have HOW : Hid (w7.ownsRow B 2 1 (.slice (some ⟨B, 0, none⟩) P.length P.length) P.length (madeCells (Value.int .i64 0).cells (P.length * 1)).toList) := hown
        clear hgrow hB hi hz0 hz1 hz2 c0 c1 c2 hown B67 s1 s2
        obtain ⟨_, _, _, _, l1, l2⟩ := CF.out _ B7.out
        have hmul := HMUL.out _ l1 l2
        clear l1 l2 d1 d2
        refine hmul.mono ?_
        rintro e w8 ⟨vq, rfl, oq, b8⟩
        have B8 : Hid (Below w1.heap.size w1 w8) := B7.out.trans (b8.mono B7.out.size)
        obtain ⟨qa, qc, rfl⟩ := oq.shape
        have OQ : Hid (Own w8 w7.heap.size w8.heap.size (.slice qa (prod G H).length qc) (prod G H)) := oq
        have HOE : Hid (w8.ownsRow B 2 1 (.slice (some ⟨B, 0, none⟩) P.length P.length) P.length (madeCells (Value.int .i64 0).cells (P.length * 1)).toList) := row_kept' HOW.out b8
        have HB8 : Hid (w7.heap.size ≤ w8.heap.size) := b8.size
        have HQB : Hid (∀ k, -2000 ≤ at' (prod G H) k ∧ at' (prod G H) k ≤ 2000) := fun k => prod_bd HPR.out.2 HK.out.og.1 HK.out.oh.1 (by have := HN.out; rw [prod_len] at this; omega) k
        have HPV : Hid (Val P) := HK.out.vp
        clear oq b8 hmul HOW
        go_wp2_with fail
        go_loopw [115] (fun i wr => ∃ (k : Nat) (xs : List Value), k ≤ P.length ∧ i = .int .i64 (k : Int) ∧ Hid (wr.ownsRow B 2 1 (.slice (some ⟨B, 0, none⟩) P.length P.length) P.length xs) ∧ Hid (∀ j, j < k → xs[j]? = some (.int .i64 (md (Int.tdiv (md (at' P j - at' (prod G H) j) (p * p)) p) p))) ∧ Hid (Turned B (B + 1) w8 wr)) (fun i _ => P.length - (intOf i).toNat)
        case atStart => exact ⟨0, _, by omega, rfl, HOE, fun j hj => by omega, Turned.refl _ _ _⟩
        case round =>
          obtain ⟨k, xs, hk, rfl, how, hx, ht⟩ := hrel
          have hb1 : Hid (Below w1.heap.size w1 wr) := B8.out.trans (ht.out.below HE.out.2.1 B8.out.size)
          have OQr : Hid (Own wr w7.heap.size w8.heap.size (.slice qa (prod G H).length qc) (prod G H)) := OQ.out.turned ht.out (.inr HE.out.2.2)
          by_cases hlt : k < P.length
          · obtain ⟨c0, _, _, l0, _, _⟩ := CF.out _ hb1.out
            -- SLOW
            obtain ⟨pb, pf, hpo, e1⟩ : ∃ b off, po = some ⟨b, off, none⟩ ∧ wr.cell? ⟨b, off + k, none⟩ = some (.int .i64 (at' P k)) ∧ b < w1.heap.size := by
              obtain ⟨ao, cap, he, _, _, hc⟩ := LP.out
              simp only [Value.slice.injEq] at he
              obtain ⟨rfl, _⟩ := he
              obtain ⟨b, off, hb, hlt2, hcell⟩ := hc (by omega)
              exact ⟨b, off, hb, (hb1.out.cell (p := ⟨b, off + k, none⟩) hlt2).trans (hcell k _ (at_some P k hlt)), hlt2⟩
            obtain ⟨e1, hpl⟩ := e1
            obtain ⟨qb, qf, hqo, e2, hqb⟩ : ∃ b off, qa = some ⟨b, off, none⟩ ∧ wr.cell? ⟨b, off + k, none⟩ = some (.int .i64 (at' (prod G H) k)) ∧ b ≠ B := by
              obtain ⟨_, ⟨he, _⟩ | ⟨g, cap, cs, he, _, h1, _, h3, _, _, h5⟩⟩ := OQr.out
              · exfalso
                have := HN.out
                simp only [Value.slice.injEq] at he
                omega
              · simp only [Value.slice.injEq] at he
                obtain ⟨rfl, _⟩ := he
                refine ⟨g, 0, rfl, ?_, by have := HE.out; omega⟩
                rw [cell_of_row _ _ _ _ _ _ h3, Nat.zero_add]
                exact h5 k _ (at_some _ k (by have := HN.out; omega))
            subst hpo hqo
            have e3 : wr.cell? ⟨B, k, none⟩ = xs[k]? := how.out.cellAt k (by omega)
            have hxl : xs.length = P.length := by have := how.out.1; simpa using this
            obtain ⟨u, hu⟩ : ∃ u, xs[k]? = some u := ⟨xs[k]'(by omega), List.getElem?_eq_getElem (by omega)⟩
            rw [hu] at e3
            have e4 : wr.frozen? ⟨B, k, none⟩ = false := how.out.frozenAt k
            have bp1 := val_at HPV.out k
            have bq1 := HQB.out k
            have hpp := HPR.out.2
            have hsq := HSQ.out
            obtain ⟨x, hxx⟩ : ∃ x, x = at' P k := ⟨_, rfl⟩
            obtain ⟨y, hyy⟩ : ∃ y, y = at' (prod G H) k := ⟨_, rfl⟩
            rw [← hxx] at e1 bp1
            rw [← hyy] at e2 bq1
            obtain ⟨d, hd⟩ : ∃ d, d = md (x - y) sq := ⟨_, rfl⟩
            have dr := md_range (x - y) (p := sq) (by omega)
            rw [← hd] at dr
            have td := tdiv_bd (x := d) (p := p) (M := 200) (by omega)
            obtain ⟨t, htt⟩ : ∃ t, t = Int.tdiv d p := ⟨_, rfl⟩
            rw [← htt] at td
            obtain ⟨v, hv⟩ : ∃ v, v = md t p := ⟨_, rfl⟩
            have HX : Hid (∀ j, j < k + 1 → (xs.set k (.int .i64 v))[j]? = some (.int .i64 (md (Int.tdiv (md (at' P j - at' (prod G H) j) (p * p)) p) p))) := by
              intro j hj
              by_cases hjk : j = k
              · subst hjk
                rw [List.getElem?_set_self (by omega), hv, htt, hd, hxx, hyy, hsq.1]
              · rw [List.getElem?_set_ne (by omega)]
                exact hx.out j (by omega)
            have HM1 : Hid (∀ W, Calls Try.prog 30 #[.int .i64 (x - y), .int .i64 sq] W fun e w' => e = .returned (.int .i64 d) ∧ w' = W) := fun W => by rw [hd]; exact md_any (x - y) sq ⟨by omega, by omega⟩ W
            have HM2 : Hid (∀ W, Calls Try.prog 30 #[.int .i64 t, .int .i64 p] W fun e w' => e = .returned (.int .i64 v) ∧ w' = W) := fun W => by rw [hv]; exact md_any t p ⟨by omega, by omega⟩ W
            have w1' : IntKind.i64.wrap (x - y) = x - y := IntWalk.i64_in _ (by omega)
            have w2' : wrap64 (x - y) = x - y := IntWalk.wrap64_in _ (by omega)
            have w3' : IntKind.i64.wrap (Int.tdiv d p) = t := by rw [← htt]; exact IntWalk.i64_in _ (by omega)
            have w4' : wrap64 (Int.tdiv d p) = t := by rw [← htt]; exact IntWalk.wrap64_in _ (by omega)
            have hp0 : p ≠ 0 := by omega
            have hp0' : (p == 0) = false := by rw [beq_eq_false_iff_ne]; exact hp0
            have kP : (k : Int) < (P.length : Int) := by omega
            have kQ : (k : Int) < ((prod G H).length : Int) := by have := HN.out; omega
            have kP' : k < P.length := hlt
            have kQ' : k < (prod G H).length := by have := HN.out; omega
            have HO : Hid ((wr.setCell ⟨B, k, none⟩ (.int .i64 v)).ownsRow B 2 1 (.slice (some ⟨B, 0, none⟩) P.length P.length) P.length (xs.set k (.int .i64 v))) := (how.out.stored k (.int .i64 v)).1
            have HT : Hid (Turned B (B + 1) w8 (wr.setCell ⟨B, k, none⟩ (.int .i64 v))) := ht.out.setCell (Nat.le_refl _) (Nat.lt_succ_self _) _
            have hst := store_int (b := v) e3 e4
            have K2 : Hid ((wr.setCell ⟨B, k, none⟩ (.int .i64 v)).cell? ⟨w.heap.size, 0, none⟩ = some (.slice (some ⟨pb, pf, none⟩) P.length pc) ∧ (wr.setCell ⟨B, k, none⟩ (.int .i64 v)).cell? ⟨pb, pf + k, none⟩ = some (.int .i64 x) ∧ (wr.setCell ⟨B, k, none⟩ (.int .i64 v)).cell? ⟨qb, qf + k, none⟩ = some (.int .i64 y)) :=
              ⟨(World.cell?_setCell_far _ _ _ _ (by show B ≠ w.heap.size; have := HE.out; have := XP.out.lt; omega)).trans c0, (World.cell?_setCell_far _ _ _ _ (by show B ≠ pb; have := HE.out; omega)).trans e1, (World.cell?_setCell_far _ _ _ _ (by show B ≠ qb; exact fun h => hqb h.symm)).trans e2⟩
            clear hu ht how hx hxx hyy hd htt hv hb1 OQr l0 td dr bp1 bq1 hsq
            go_wp2_with fail
            go_region_held3 (fun w' => w'.cell? ⟨w.heap.size, 0, none⟩ = some (.slice (some ⟨pb, pf, none⟩) P.length pc) ∧ w'.cell? ⟨pb, pf + k, none⟩ = some (.int .i64 x) ∧ w'.cell? ⟨qb, qf + k, none⟩ = some (.int .i64 y))
              (first | exact ⟨c0, e1, e2⟩ | exact K2.out)
              (first
                | (go_at_call 30; have mk2 := mk1.out; refine (HM2.out _).mono ?_; rintro e w' ⟨rfl, hw'⟩; rw [hw']; clear hw' mk2)
                | (go_at_call 30; refine (HM1.out _).mono ?_; rintro e w' ⟨rfl, hw'⟩; rw [hw']; clear hw'; have mk1 : Hid True := trivial))
            have HT2 : Hid (Turned B (B + 1) w8 (wr.setCell ⟨B, k, none⟩ (.int .i64 v)).drew) := ⟨HT.out.os, HT.out.tape, HT.out.output, HT.out.size, HT.out.block⟩
            have HO2 : Hid ((wr.setCell ⟨B, k, none⟩ (.int .i64 v)).drew.ownsRow B 2 1 (.slice (some ⟨B, 0, none⟩) P.length P.length) P.length (xs.set k (.int .i64 v))) := HO.out
            go_wp2
            go_roundw
            case rel => exact ⟨k + 1, _, by omega, by go_num, HO2, HX, HT2⟩
            case measure => simp [intOf]; omega
            -- END
          · obtain rfl : k = P.length := by omega
            have HEL : Hid ((eps0 P G H p).length = P.length) := by show _ = _; simp [eps0]
            have LE0 : Hid (Ls wr (.slice (some ⟨B, 0, none⟩) P.length P.length) (eps0 P G H p)) := by
              have hxs : xs = (eps0 P G H p).map (Value.int .i64) := by
                apply List.ext_getElem?
                intro j
                have hxl : xs.length = P.length := by have := how.out.1; simpa using this
                by_cases hj : j < P.length
                · rw [hx.out j hj, List.getElem?_map, eps0_get hj]; rfl
                · rw [List.getElem?_eq_none (by omega), List.getElem?_eq_none (by have := HEL.out; simp; omega)]
              have ho' := how.out
              rw [hxs] at ho'
              have h1 := HEL.out
              have h2 : wr.ownsRow B 2 1 (.slice (some ⟨B, 0, none⟩) P.length P.length) (eps0 P G H p).length ((eps0 P G H p).map (Value.int .i64)) := by rw [h1]; exact ho'
              exact (Own.of_row h2 (by omega) (Nat.le_refl _)).ls (Nat.le_refl _)
            obtain ⟨c, S, T, tR, tc, tS, tT, eS, eT, tB⟩ := lk_bz HK.out
            have SZ := lk_sz HK.out
            have HSZ : Hid ((Ov (eps P G H p) p ∧ (eps P G H p).length ≤ 9) ∧ (Ov (bzS G H p) p ∧ (bzS G H p).length ≤ 20) ∧ (Ov (bzT G H p) p ∧ (bzT G H p).length ≤ 20)) := SZ
            have htr := trim_any LE0.out (by have := HEL.out; omega)
            have BW : Hid (Below w1.heap.size w1 wr) := hb1
            clear how hx ht hb1 OQr OQ HOE LE0 SZ
            go_wp2_with fail
            refine htr.mono ?_
            rintro e w9 ⟨ve, rfl, oe, b9⟩
            have B9 : Hid (Below w1.heap.size w1 w9) := BW.out.trans (b9.mono BW.out.size)
            obtain ⟨ea, ec, rfl⟩ := oe.shape
            have LE9 : Hid (Ls w9 (.slice ea (trim (eps0 P G H p)).length ec) (eps P G H p)) := oe.ls (Nat.le_refl _)
            clear oe b9 htr BW
            obtain ⟨_, c1, c2, _, l1, l2⟩ := CF.out _ B9.out
            have hbz := sbez_any HPR.out.1 l1 l2 tB tR tc tS tT
            rw [eS, eT] at hbz
            clear l1 l2 tB tR tc tS tT eS eT
            go_wp2_with fail
            refine hbz.mono ?_
            rintro e wx ⟨vs, vt, rfl, ls, lt, bx⟩
            have BX : Hid (Below w1.heap.size w1 wx) := B9.out.trans (bx.mono B9.out.size)
            obtain ⟨sa, sc, rfl⟩ := ls.shape
            obtain ⟨ta, tc, rfl⟩ := lt.shape
            have LS : Hid (Ls wx (.slice sa (bzS G H p).length sc) (bzS G H p)) := ls
            have LT : Hid (Ls wx (.slice ta (bzT G H p).length tc) (bzT G H p)) := lt
            have LE : Hid (Ls wx (.slice ea (trim (eps0 P G H p)).length ec) (eps P G H p)) := LE9.out.below bx
            have XGx : Hid (Bx wx (w.heap.size + 1) (.slice go G.length gc)) := XG.out.kept BX.out
            have XHx : Hid (Bx wx (w.heap.size + 1 + 1) (.slice ho H.length hc)) := XH.out.kept BX.out
            have LGx : Hid (Ls wx (.slice go G.length gc) G) := LG.out.below BX.out
            have LHx : Hid (Ls wx (.slice ho H.length hc) H) := LH.out.below BX.out
            clear ls lt bx hbz LE9 c1 c2 B9
            have c1 := XGx.out.cell
            have c2 := XHx.out.cell
            have P1 : Hid (PM p (bzT G H p) (eps P G H p)) := ⟨HSZ.out.2.2.1, HSZ.out.1.1, by have := HSZ.out.2.2.2; omega, by have := HSZ.out.1.2; omega, HPR.out.1⟩
            have P2 : Hid (PM p (bzS G H p) (eps P G H p)) := ⟨HSZ.out.2.1.1, HSZ.out.1.1, by have := HSZ.out.2.1.2; omega, by have := HSZ.out.1.2; omega, HPR.out.1⟩
            have OT : Hid (Ov (om (bzT G H p) (eps P G H p) p) p ∧ (om (bzT G H p) (eps P G H p) p).length ≤ 28) := by
              have := om_ov (A := bzT G H p) (B := eps P G H p) (p := p) (by have := HPR.out.2; omega) HSZ.out.2.2.1.1 HSZ.out.1.1.1
              exact ⟨this.1, by have h2 := this.2; have := HSZ.out.2.2.2; have := HSZ.out.1.2; omega⟩
            have DV := dv_ok HPR.out.1 OT.out.1 HK.out.og.1 (by rw [HK.out.gl]; decide)
            have HDV : Hid (Ov (dq (om (bzT G H p) (eps P G H p) p) G p) p ∧ (dq (om (bzT G H p) (eps P G H p) p) G p).length ≤ 28 ∧ Ov (uU P G H p) p ∧ (uU P G H p).length ≤ G.length - 1) := ⟨DV.1, by have := DV.2.2.1; have := OT.out.2; omega, DV.2.1, by
              have hg := HK.out.g2
              rcases DV.2.2.2.2 with h | h
              · exact h
              · show (dr (om (bzT G H p) (eps P G H p) p) G p).length ≤ _; rw [h]; simp; omega⟩
            clear DV
            have bd : Hid (Below wx.heap.size wx wx.drew) := (Below.refl _ _).drew
            go_wp2_with fail
            go_region_held3 (fun w' => w'.cell? ⟨w.heap.size + 1, 0, none⟩ = some (.slice go G.length gc) ∧ w'.cell? ⟨w.heap.size + 1 + 1, 0, none⟩ = some (.slice ho H.length hc))
              (first | exact ⟨(XGx.out.kept bd.out).cell, (XHx.out.kept bd.out).cell⟩ | exact ⟨(XGx.out.kept by1.out).cell, (XHx.out.kept by1.out).cell⟩ | exact ⟨(XGx.out.kept by2.out).cell, (XHx.out.kept by2.out).cell⟩ | exact ⟨(XGx.out.kept by3.out).cell, (XHx.out.kept by3.out).cell⟩)
              (first
                | (go_at_call 33; refine (sdiv_any O2.out (LGx.out.below by2.out) HPR.out.1 OT.out.1 (by have := OT.out.2; omega) HK.out.og.1 HK.out.og.2.1 (by rw [HK.out.gl]; decide)).mono ?_; rintro e wc ⟨vq, vr, rfl, oq, orr, b3⟩; have by3 : Hid (Below wx.heap.size wx wc) := by2.out.trans (b3.mono by2.out.size); obtain ⟨qa, qc, rfl⟩ := oq.shape; obtain ⟨ra, rc, rfl⟩ := orr.shape; have OQ3 : Hid (Ls wc (.slice qa (dq (om (bzT G H p) (eps P G H p) p) G p).length qc) (dq (om (bzT G H p) (eps P G H p) p) G p)) := oq.ls (Nat.le_refl _); have OR3 : Hid (Ls wc (.slice ra (dr (om (bzT G H p) (eps P G H p) p) G p).length rc) (uU P G H p)) := orr.ls (Nat.le_refl _); clear oq orr b3)
                | (go_at_call 27; refine (P1.out.c2 O1.out).mono ?_; rintro e wb ⟨m1, rfl, o2, b2⟩; have by2 : Hid (Below wx.heap.size wx wb) := by1.out.trans (b2.mono by1.out.size); have O2 : Hid (Ls wb m1 (om (bzT G H p) (eps P G H p) p)) := o2.ls (Nat.le_refl _); clear o2 b2)
                | (go_at_call 28; refine (P1.out.c1 (LT.out.below bd.out) (LE.out.below bd.out)).mono ?_; rintro e wa ⟨q1, rfl, o1, b1⟩; have by1 : Hid (Below wx.heap.size wx wa) := bd.out.trans (b1.mono bd.out.size); have O1 : Hid (Ls wa q1 (prod (bzT G H p) (eps P G H p))) := o1.ls (Nat.le_refl _); clear o1 b1))
            have XGc : Hid (Bx wc (w.heap.size + 1) (.slice go G.length gc)) := XGx.out.kept by3.out
            have XHc : Hid (Bx wc (w.heap.size + 1 + 1) (.slice ho H.length hc)) := XHx.out.kept by3.out
            have LHc : Hid (Ls wc (.slice ho H.length hc) H) := LHx.out.below by3.out
            have LEc : Hid (Ls wc (.slice ea (trim (eps0 P G H p)).length ec) (eps P G H p)) := LE.out.below by3.out
            have LSc : Hid (Ls wc (.slice sa (bzS G H p).length sc) (bzS G H p)) := LS.out.below by3.out
            have BCc : Hid (Below w1.heap.size w1 wc) := BX.out.trans (by3.out.mono BX.out.size)
            have P3 : Hid (PM p (dq (om (bzT G H p) (eps P G H p) p) G p) H) := ⟨HDV.out.1, HK.out.oh.1, by have := HDV.out.2.1; omega, by have := HK.out.oh.2.1; omega, HPR.out.1⟩
            have OS : Hid (Ov (om (bzS G H p) (eps P G H p) p) p ∧ (om (bzS G H p) (eps P G H p) p).length ≤ 80) := by
              have := om_ov (A := bzS G H p) (B := eps P G H p) (p := p) (by have := HPR.out.2; omega) HSZ.out.2.1.1.1 HSZ.out.1.1.1
              exact ⟨this.1, by have h2 := this.2; have := HSZ.out.2.1.2; have := HSZ.out.1.2; omega⟩
            have OH : Hid (Ov (om (dq (om (bzT G H p) (eps P G H p) p) G p) H p) p ∧ (om (dq (om (bzT G H p) (eps P G H p) p) G p) H p).length ≤ 80) := by
              have := om_ov (A := (dq (om (bzT G H p) (eps P G H p) p) G p)) (B := H) (p := p) (by have := HPR.out.2; omega) HDV.out.1.1 HK.out.oh.1.1
              exact ⟨this.1, by have h2 := this.2; have := HDV.out.2.1; have := HK.out.oh.2.1; omega⟩
            clear O1 O2 by1 by2 bd XGx XHx LGx LHx LE LS LT P1 c1 c2 BX by3
            have c1 := XGc.out.cell
            have c2 := XHc.out.cell
            have bd2 : Hid (Below wc.heap.size wc wc.drew) := (Below.refl _ _).drew
            go_wp2_with fail
            go_region_held3 (fun w' => w'.cell? ⟨w.heap.size + 1, 0, none⟩ = some (.slice go G.length gc) ∧ w'.cell? ⟨w.heap.size + 1 + 1, 0, none⟩ = some (.slice ho H.length hc))
              (first | exact ⟨(XGc.out.kept bd2.out).cell, (XHc.out.kept bd2.out).cell⟩ | exact ⟨(XGc.out.kept bz1.out).cell, (XHc.out.kept bz1.out).cell⟩ | exact ⟨(XGc.out.kept bz2.out).cell, (XHc.out.kept bz2.out).cell⟩ | exact ⟨(XGc.out.kept bz3.out).cell, (XHc.out.kept bz3.out).cell⟩ | exact ⟨(XGc.out.kept bz4.out).cell, (XHc.out.kept bz4.out).cell⟩ | exact ⟨(XGc.out.kept bz5.out).cell, (XHc.out.kept bz5.out).cell⟩)
              (first
                | (go_at_call 34; refine (ssum2 HPR.out.1 OS.out OH.out (O2.out.below b24.out) O4.out).mono ?_; rintro e wh ⟨vv, rfl, o5, b5⟩; have bz5 : Hid (Below wc.heap.size wc wh) := bz4.out.trans (b5.mono bz4.out.size); obtain ⟨va, vc, rfl⟩ := o5.shape; have OV : Hid (Ls wh (.slice va (smt (om (bzS G H p) (eps P G H p) p) (om (dq (om (bzT G H p) (eps P G H p) p) G p) H p) p).length vc) (vV P G H p)) := o5.ls (Nat.le_refl _); clear o5 b5)
                | (go_at_call 27; refine (P3.out.c2 O3.out).mono ?_; rintro e wg ⟨m2, rfl, o4, b4⟩; have bz4 : Hid (Below wc.heap.size wc wg) := bz3.out.trans (b4.mono bz3.out.size); have O4 : Hid (Ls wg m2 (om (dq (om (bzT G H p) (eps P G H p) p) G p) H p)) := o4.ls (Nat.le_refl _); have b24 : Hid (Below we.heap.size we wg) := b23.out.trans (b4.mono b23.out.size); clear o4 b4)
                | (go_at_call 28; refine (P3.out.c1 (OQ3.out.below bz2.out) (LHc.out.below bz2.out)).mono ?_; rintro e wf ⟨q2, rfl, o3, b3⟩; have bz3 : Hid (Below wc.heap.size wc wf) := bz2.out.trans (b3.mono bz2.out.size); have O3 : Hid (Ls wf q2 (prod (dq (om (bzT G H p) (eps P G H p) p) G p) H)) := o3.ls (Nat.le_refl _); have b23 : Hid (Below we.heap.size we wf) := b3; clear o3 b3)
                | (go_at_call 27; refine (P2.out.c2 O1.out).mono ?_; rintro e we ⟨m1, rfl, o2, b2⟩; have bz2 : Hid (Below wc.heap.size wc we) := bz1.out.trans (b2.mono bz1.out.size); have O2 : Hid (Ls we m1 (om (bzS G H p) (eps P G H p) p)) := o2.ls (Nat.le_refl _); clear o2 b2)
                | (go_at_call 28; refine (P2.out.c1 (LSc.out.below bd2.out) (LEc.out.below bd2.out)).mono ?_; rintro e wd ⟨q1, rfl, o1, b1⟩; have bz1 : Hid (Below wc.heap.size wc wd) := bd2.out.trans (b1.mono bd2.out.size); have O1 : Hid (Ls wd q1 (prod (bzS G H p) (eps P G H p))) := o1.ls (Nat.le_refl _); clear o1 b1))
            have Bh : Hid (Below w1.heap.size w1 wh) := BCc.out.trans (bz5.out.mono BCc.out.size)
            have LU : Hid (Ls wh (.slice ra (dr (om (bzT G H p) (eps P G H p) p) G p).length rc) (uU P G H p)) := OR3.out.below bz5.out
            have HLV : Hid (Ov (vV P G H p) p ∧ (vV P G H p).length ≤ H.length - 1) := by
              obtain ⟨c, hc, hcr⟩ := HK.out.unit'
              obtain ⟨T, h1, h2, h3, h4⟩ := ivm_iv HK.out.isp HK.out.oh HK.out.og hc hcr
              exact (lift_v HK.out.isp HK.out.og.1 HK.out.oh.1 HK.out.gl HK.out.hl HK.out.h2 HK.out.g2 h4 HK.out.ez HK.out.miss HK.out.len_mis.1 HK.out.len_mis.2.2.1 HK.out.high).2
            clear O1 O2 O3 O4 b23 b24 bz1 bz2 bz3 bz4 bz5 bd2 XGc XHc LHc LEc LSc BCc P2 P3 OS OH OT OQ3 OR3 c1 c2 HMUL
            obtain ⟨nu, hnu⟩ : ∃ x, x = (dr (om (bzT G H p) (eps P G H p) p) G p).length := ⟨_, rfl⟩
            obtain ⟨nv, hnv⟩ : ∃ x, x = (smt (om (bzS G H p) (eps P G H p) p) (om (dq (om (bzT G H p) (eps P G H p) p) G p) H p) p).length := ⟨_, rfl⟩
            rw [← hnu] at LU ⊢
            rw [← hnv] at OV ⊢
            have HNU : Hid (nu = (uU P G H p).length ∧ nv = (vV P G H p).length) := ⟨hnu, hnv⟩
            clear hnu hnv
            have LUh : Hid (Ls wh (.slice ra nu rc) (uU P G H p)) := LU
            have LVh : Hid (Ls wh (.slice va nv vc) (vV P G H p)) := OV
            clear LU OV
            obtain ⟨RA, hRA⟩ : ∃ x, x = weigh G (uU P G H p) 1 p := ⟨_, rfl⟩
            obtain ⟨RB, hRB⟩ : ∃ x, x = weigh H (vV P G H p) 1 p := ⟨_, rfl⟩
            have HRA : Hid (RA = addk G (uU P G H p) p (uU P G H p).length) := by show _ = _; rw [hRA, addk_all (by have := HDV.out.2.2.2; omega)]
            have HRB : Hid (RB = addk H (vV P G H p) p (vV P G H p).length) := by show _ = _; rw [hRB, addk_all (by have := HLV.out.2; omega)]
            have HRR : Hid (R P G H p = RA ∧ R2 P G H p = RB ∧ ok P G H p = true) := ⟨by rw [hRA]; exact if_pos HCK.out, by rw [hRB]; exact if_pos HCK.out, HCK.out⟩
            clear hRA hRB
            have start0 : Hid ((wh.alloc (.cells #[] 26)).ownsRow wh.heap.size 26 1 (.slice (some ⟨wh.heap.size, 0, none⟩) 0 0) 0 []) :=
              ⟨rfl, .inr ⟨wh.heap.size, 0, #[], rfl, Nat.le_refl _, heap_alloc_new wh _, by simp, by decide, rfl, rfl⟩⟩
            have startB : Hid (Below wh.heap.size wh (wh.alloc (.cells #[] 26))) := new1 _ _
            go_wp2_with fail
            go_loopw [20, 21] (fun o i wr => ∃ (k g cap : Nat) (xs : List Value), k ≤ 2 ∧ o = .slice (some ⟨g, 0, none⟩) k cap ∧ i = .int .i64 (k : Int) ∧ Hid (wr.ownsRow wh.heap.size 26 1 (.slice (some ⟨g, 0, none⟩) k cap) k xs) ∧ Hid (Below wh.heap.size wh wr) ∧ Hid (sInv wh.heap.size RA RB k xs wr)) (fun _ i _ => 2 - (intOf i).toNat)
            case atStart => exact ⟨0, _, _, [], by omega, rfl, rfl, start0, startB, rfl⟩
            case round =>
              obtain ⟨k, g, cap, xs, hk, rfl, rfl, how, hb, hx⟩ := hrel
              obtain ⟨wo, hwo⟩ : ∃ x, x = wr := ⟨_, rfl⟩
              subst hwo
              clear start0 startB
              have Bhr : Hid (Below w1.heap.size w1 wo) := Bh.out.trans (hb.out.mono Bh.out.size)
              obtain ⟨_, c1, c2, _, l1, l2⟩ := CF.out _ Bhr.out
              have LGr : Hid (Ls wo (.slice go G.length gc) G) := l1
              have LHr : Hid (Ls wo (.slice ho H.length hc) H) := l2
              have LUr : Hid (Ls wo (.slice ra nu rc) (uU P G H p)) := LUh.out.below hb.out
              have LVr : Hid (Ls wo (.slice va nv vc) (vV P G H p)) := LVh.out.below hb.out
              clear l1 l2 Bhr
              rcases (show k = 0 ∨ k = 1 ∨ k = 2 by omega) with rfl | rfl | rfl
              · 
                obtain rfl : xs = [] := hx.out
                clear hx
                obtain ⟨ab, af, hao, hal, hac⟩ : ∃ b off, go = some ⟨b, off, none⟩ ∧ b < wo.heap.size ∧ ∀ (j : Nat) (z : Int), G[j]? = some z → wo.cell? ⟨b, off + j, none⟩ = some (.int .i64 z) := by
                  obtain ⟨ao, cap, he, _, _, hc⟩ := LGr.out
                  simp only [Value.slice.injEq] at he
                  obtain ⟨rfl, _⟩ := he
                  exact hc (by have := HK.out.og.1.1; omega)
                obtain ⟨ub, uf, huo, hul, huc⟩ : ∃ b off, ra = some ⟨b, off, none⟩ ∧ b < wo.heap.size ∧ ∀ (j : Nat) (z : Int), (uU P G H p)[j]? = some z → wo.cell? ⟨b, off + j, none⟩ = some (.int .i64 z) := by
                  obtain ⟨ao, cap, he, _, _, hc⟩ := LUr.out
                  simp only [Value.slice.injEq] at he
                  obtain ⟨rfl, _⟩ := he
                  exact hc (by have := HDV.out.2.2.1.1; omega)
                subst hao huo
                have HUC : Hid (ub < wo.heap.size ∧ ∀ (j : Nat) (z : Int), (uU P G H p)[j]? = some z → wo.cell? ⟨ub, uf + j, none⟩ = some (.int .i64 z)) := ⟨hul, huc⟩
                have HNX : Hid (nu = (uU P G H p).length ∧ (uU P G H p).length ≤ G.length) := ⟨HNU.out.1, by have := HDV.out.2.2.2; omega⟩
                have HUV : Hid (Ov (uU P G H p) p) := HDV.out.2.2.1
                have hA17 : G.length ≤ 17 ∧ 1 ≤ G.length := ⟨HK.out.og.2.1, HK.out.og.1.1⟩
                obtain ⟨i0, hi, hz0, hz1, hz2⟩ := info_parts info_i
                obtain ⟨iw, hy, hy0, hy1, hy2⟩ := info_parts info_w'
                have start : Hid ((wo.alloc (.cells #[] 2)).ownsRow wo.heap.size 2 1 (.slice (some ⟨wo.heap.size, 0, none⟩) 0 0) 0 []) :=
                  ⟨rfl, .inr ⟨wo.heap.size, 0, #[], rfl, Nat.le_refl _, heap_alloc_new wo _, by simp, by decide, rfl, rfl⟩⟩
                have news : Hid (∀ j u, (G.map (Value.int .i64))[j]? = some u → (wo.alloc (.cells #[] 2)).cell? ((⟨ab, af, none⟩ : Addr).add j) = some u) := fun j u hu => by
                  rw [List.getElem?_map] at hu
                  cases hz : G[j]? with
                  | none => rw [hz] at hu; cases hu
                  | some z =>
                    rw [hz] at hu
                    rw [Addr.add_lit, (new1 wo _).cell (p := ⟨ab, af + j, none⟩) hal, ← Option.some.inj hu]
                    exact hac j z hz
                have len : Hid ((G.map (Value.int .i64)).length = G.length * 1) := by show _ = _; rw [List.length_map]; omega
                clear hac hal hul huc LGr LUr
                go_wp2_with (first | (at_builtin; refine wpList_append_own _ rfl (.tmp 187) (.tmp 188) 22 rfl wo.heap.size 2 i0 (.int .i64 0) 1 8 Try.underlying22 hi hz0 hz1 hz2 rfl (by decide) _ 0 [] rfl start.out ⟨ab, af, none⟩ G.length gc _ rfl len.out news.out one_of_map (by unfold maxLen; omega) (by omega) (by simp) ?_; intro v' wt hown' hgrow _; rw [Nat.zero_add, List.nil_append] at hown'; obtain ⟨tg, tcap, rfl⟩ := shape_of hown' (by omega); have BT : Hid (Below wo.heap.size wo wt) := ((Below.refl wo.heap.size wo).alloc (Nat.le_refl _) _).grown hgrow (by simp) (by intro j hj; have hj' : some wo.heap.size = some j := hj; injection hj' with hj'; omega); have OT0 : Hid (wt.ownsRow wo.heap.size 2 1 (.slice (some ⟨tg, 0, none⟩) G.length tcap) G.length ((addk G (uU P G H p) p 0).map (Value.int .i64))) := (by rw [addk_zero]; exact hown'); clear hown' hgrow))
                have OS : Hid (Own wt wo.heap.size wt.heap.size (.slice (some ⟨tg, 0, none⟩) G.length tcap) (addk G (uU P G H p) p 0)) := by
                  have h1 : (addk G (uU P G H p) p 0).length = G.length := addk_len _ _ _ _
                  exact Own.of_row (by rw [h1]; exact OT0.out) (by rw [h1]; omega) (Nat.le_refl _)
                have HTG : Hid (wo.heap.size ≤ tg ∧ tg < wt.heap.size) := by
                  obtain ⟨_, _, he, tg1, _, _, tg2⟩ := OS.out.block (by rw [addk_zero]; exact ne_of_len (by omega))
                  simp only [Value.slice.injEq, Option.some.injEq, Addr.mk.injEq, and_true] at he
                  obtain ⟨rfl, _⟩ := he
                  exact ⟨tg1, tg2⟩
                have HTT : Hid (Turned wo.heap.size wt.heap.size wt wt) := Turned.refl _ _ _
                clear start news len OT0
                go_loopw [192] (fun i wr => ∃ i' : Nat, i' ≤ nu ∧ i = .int .i64 (i' : Int) ∧ Hid (Own wr wo.heap.size wt.heap.size (.slice (some ⟨tg, 0, none⟩) G.length tcap) (addk G (uU P G H p) p i')) ∧ Hid (Turned wo.heap.size wt.heap.size wt wr)) (fun i _ => nu - (intOf i).toNat)
                case atStart => exact ⟨0, by omega, rfl, OS, HTT⟩
                case round =>
                  clear OS HTT
                  obtain ⟨i, hii, rfl, ho1, ht⟩ := hrel
                  have hbs : Hid (Below wo.heap.size wo wr) := BT.out.trans (ht.out.below (Nat.le_refl _) BT.out.size)
                  by_cases hil : i < nu
                  · have hiu : i < (uU P G H p).length ∧ i < G.length := by have := HNX.out; omega
                    have e1 : wr.cell? ⟨ub, uf + i, none⟩ = some (.int .i64 (at' (uU P G H p) i)) := (hbs.out.cell (p := ⟨ub, uf + i, none⟩) HUC.out.1).trans (HUC.out.2 i _ (at_some _ i hiu.1))
                    have e2 : wr.cell? ⟨tg, i, none⟩ = some (.int .i64 (at' G i)) := by have := ho1.out.cell (addk_get (A := G) (U := uU P G H p) (p := p) (k := i) (j := i) hiu.2); rw [if_neg (Nat.lt_irrefl _)] at this; exact this
                    have e3 : wr.frozen? ⟨tg, i, none⟩ = false := ho1.out.free i
                    have PUT : Hid (Own (wr.drew.setCell ⟨tg, i, none⟩ (.int .i64 (at' G i + p * at' (uU P G H p) i))) wo.heap.size wt.heap.size (.slice (some ⟨tg, 0, none⟩) G.length tcap) (addk G (uU P G H p) p (i + 1))) := by
                      have ho1' : Own wr.drew wo.heap.size wt.heap.size (.slice (some ⟨tg, 0, none⟩) G.length tcap) (addk G (uU P G H p) p i) := ho1.out.stay fun _ _ _ _ => rfl
                      have := ho1'.put i (at' G i + p * at' (uU P G H p) i)
                      rw [addk_put hiu.2] at this
                      exact this
                    have ra1 := HK.out.og.1.2.get (at_some G i hiu.2)
                    have ru1 := HUV.out.2.get (at_some (uU P G H p) i hiu.1)
                    have hp13 := HPR.out.2
                    have hsq1 := HSQ.out
                    have hmp := Int.mul_le_mul_of_nonneg_left (show at' (uU P G H p) i ≤ p - 1 by omega) (show (0 : Int) ≤ p by omega)
                    have hmq := Int.mul_nonneg (show (0 : Int) ≤ p by omega) (show (0 : Int) ≤ at' (uU P G H p) i by omega)
                    rw [Int.mul_sub, Int.mul_one] at hmp
                    obtain ⟨a, ha⟩ : ∃ a, a = at' G i := ⟨_, rfl⟩
                    rw [← ha] at e2 ra1 PUT
                    obtain ⟨y, hy'⟩ : ∃ y, y = at' (uU P G H p) i := ⟨_, rfl⟩
                    rw [← hy'] at e1 ru1 hmp hmq PUT
                    obtain ⟨d, hd⟩ : ∃ d, d = a + p * y := ⟨_, rfl⟩
                    rw [← hd] at PUT
                    have w2 : IntKind.i64.wrap (p * y) = p * y := IntWalk.i64_in _ (by omega)
                    have w2' : wrap64 (p * y) = p * y := IntWalk.wrap64_in _ (by omega)
                    have w3 : IntKind.i64.wrap (a + p * y) = d := by rw [← hd]; exact IntWalk.i64_in _ (by omega)
                    have w3' : wrap64 (a + p * y) = d := by rw [← hd]; exact IntWalk.wrap64_in _ (by omega)
                    have HT1 : Hid (Turned wo.heap.size wt.heap.size wt (wr.drew.setCell ⟨tg, i, none⟩ (.int .i64 d))) := (show Turned wo.heap.size wt.heap.size wt wr.drew from ⟨ht.out.os, ht.out.tape, ht.out.output, ht.out.size, ht.out.block⟩).setCell HTG.out.1 HTG.out.2 _
                    have hst := store_int (b := d) (show wr.drew.cell? _ = _ from e2) (show wr.drew.frozen? _ = _ from e3)
                    have HMD : Hid (∀ W, Calls Try.prog 30 #[.int .i64 d, .int .i64 sq] W fun e w' => e = .returned (.int .i64 d) ∧ w' = W) := fun W => by
                      have := md_any d sq ⟨by omega, by omega⟩ W
                      rw [md_id (by omega) (by omega)] at this
                      exact this
                    have d4 : i < G.length := hiu.2
                    have d7 : i < 17 := by omega
                    have d5 : (i : Int) < (G.length : Int) := by omega
                    have d6 : (i : Int) < (nu : Int) := by omega
                    clear ha hy' hd ho1 ht hiu ra1 ru1 hp13 hsq1 hmp hmq hA17
                    go_wp2_with fail
                    go_region_law (first | (go_simp; go_at_call 30; refine (HMD.out _).mono ?_; rintro e w0 ⟨rfl, hw0⟩; rw [hw0]; clear hw0))
                    all_goals (go_wp2; go_roundw; (case rel => exact ⟨i + 1, by omega, by go_num, PUT, HT1⟩); (case measure => simp [intOf]; omega))
                  · obtain rfl : i = nu := by omega
                    have F : Hid (Own wr wo.heap.size wr.heap.size (.slice (some ⟨tg, 0, none⟩) G.length tcap) RA) := by
                      have h := ho1.out.wide (Nat.le_refl _) ht.out.size
                      rw [HNX.out.1, ← HRA.out] at h
                      exact h
                    have HOW : Hid (wr.ownsRow wh.heap.size 26 1 (.slice (some ⟨g, 0, none⟩) 0 cap) 0 []) := row_kept' how.out hbs.out
                    have HBA : Hid (Below wh.heap.size wh wr) := hb.out.trans (hbs.out.mono hb.out.size)
                    have HSZ2 : Hid (wh.heap.size ≤ wo.heap.size ∧ wo.heap.size ≤ wr.heap.size) := ⟨hb.out.size, hbs.out.size⟩
                    clear ho1 ht how hbs hb
                    go_wp2_with (first | (at_builtin; refine wpList_append_own _ rfl (.tmp 212) (.tmp 215) 33 rfl wh.heap.size 26 iw (.agg #[.slice none 0 0]) 1 24 Try.underlying33 hy hy0 hy1 hy2 rfl (by decide) _ 0 [] rfl (HOW.out.alloc _) ⟨wr.heap.size, 0, none⟩ 1 1 [.slice (some ⟨tg, 0, none⟩) G.length tcap] rfl rfl (cell_one_new wr _ _) (by intro u hu; rw [List.mem_singleton] at hu; subst hu; rfl) (by unfold maxLen; omega) (by omega) (by have := HSZ2.out; simp; omega) ?_; intro v' wn hown' hgrow _; obtain ⟨ng, ncap, rfl⟩ := shape_of hown' (by omega); have HROW : Hid (wn.ownsRow wh.heap.size 26 1 (.slice (some ⟨ng, 0, none⟩) (0 + 1) ncap) (0 + 1) ([] ++ [.slice (some ⟨tg, 0, none⟩) G.length tcap])) := hown'; have HBN : Hid (Below wh.heap.size wh wn) := (HBA.out.alloc (by have := HSZ2.out; omega) _).grown hgrow (by have := HSZ2.out; simp; omega) (fun j hj => (HOW.out.lt j hj).1); have HF2 : Hid (Own wn wo.heap.size wn.heap.size (.slice (some ⟨tg, 0, none⟩) G.length tcap) RA) := own_grown ((F.out.kept ((Below.refl _ _).alloc (Nat.le_refl _) _)).wide (Nat.le_refl _) (by simp)) (HOW.out.alloc _) hgrow; clear hown' hgrow))
                    have HIN : Hid (sInv wh.heap.size RA RB 1 ([] ++ [.slice (some ⟨tg, 0, none⟩) G.length tcap]) wn) := ⟨_, rfl, HF2.out.wide HSZ2.out.1 (Nat.le_refl _)⟩
                    clear F HOW HBA HF2 
                    go_wp2_with fail
                    go_roundw
                    case rel => exact ⟨1, ng, ncap, _, by omega, by first | rfl | (go_num; done), by first | rfl | (go_num; done), HROW, HBN, HIN⟩
                    case measure => simp [intOf]; try omega
                
              · 
                obtain ⟨s0, rfl, hx0⟩ : ∃ s, xs = [s] ∧ Hid (Own wo wh.heap.size wo.heap.size s RA) := hx.out
                clear hx
                obtain ⟨ab, af, hao, hal, hac⟩ : ∃ b off, ho = some ⟨b, off, none⟩ ∧ b < wo.heap.size ∧ ∀ (j : Nat) (z : Int), H[j]? = some z → wo.cell? ⟨b, off + j, none⟩ = some (.int .i64 z) := by
                  obtain ⟨ao, cap, he, _, _, hc⟩ := LHr.out
                  simp only [Value.slice.injEq] at he
                  obtain ⟨rfl, _⟩ := he
                  exact hc (by have := HK.out.oh.1.1; omega)
                obtain ⟨ub, uf, huo, hul, huc⟩ : ∃ b off, va = some ⟨b, off, none⟩ ∧ b < wo.heap.size ∧ ∀ (j : Nat) (z : Int), (vV P G H p)[j]? = some z → wo.cell? ⟨b, off + j, none⟩ = some (.int .i64 z) := by
                  obtain ⟨ao, cap, he, _, _, hc⟩ := LVr.out
                  simp only [Value.slice.injEq] at he
                  obtain ⟨rfl, _⟩ := he
                  exact hc (by have := HLV.out.1.1; omega)
                subst hao huo
                have HUC : Hid (ub < wo.heap.size ∧ ∀ (j : Nat) (z : Int), (vV P G H p)[j]? = some z → wo.cell? ⟨ub, uf + j, none⟩ = some (.int .i64 z)) := ⟨hul, huc⟩
                have HNX : Hid (nv = (vV P G H p).length ∧ (vV P G H p).length ≤ H.length) := ⟨HNU.out.2, by have := HLV.out.2; omega⟩
                have HUV : Hid (Ov (vV P G H p) p) := HLV.out.1
                have hA17 : H.length ≤ 17 ∧ 1 ≤ H.length := ⟨HK.out.oh.2.1, HK.out.oh.1.1⟩
                obtain ⟨i0, hi, hz0, hz1, hz2⟩ := info_parts info_i
                obtain ⟨iw, hy, hy0, hy1, hy2⟩ := info_parts info_w'
                have start : Hid ((wo.alloc (.cells #[] 2)).ownsRow wo.heap.size 2 1 (.slice (some ⟨wo.heap.size, 0, none⟩) 0 0) 0 []) :=
                  ⟨rfl, .inr ⟨wo.heap.size, 0, #[], rfl, Nat.le_refl _, heap_alloc_new wo _, by simp, by decide, rfl, rfl⟩⟩
                have news : Hid (∀ j u, (H.map (Value.int .i64))[j]? = some u → (wo.alloc (.cells #[] 2)).cell? ((⟨ab, af, none⟩ : Addr).add j) = some u) := fun j u hu => by
                  rw [List.getElem?_map] at hu
                  cases hz : H[j]? with
                  | none => rw [hz] at hu; cases hu
                  | some z =>
                    rw [hz] at hu
                    rw [Addr.add_lit, (new1 wo _).cell (p := ⟨ab, af + j, none⟩) hal, ← Option.some.inj hu]
                    exact hac j z hz
                have len : Hid ((H.map (Value.int .i64)).length = H.length * 1) := by show _ = _; rw [List.length_map]; omega
                clear hac hal hul huc LHr LVr
                go_wp2_with (first | (at_builtin; refine wpList_append_own _ rfl (.tmp 187) (.tmp 188) 22 rfl wo.heap.size 2 i0 (.int .i64 0) 1 8 Try.underlying22 hi hz0 hz1 hz2 rfl (by decide) _ 0 [] rfl start.out ⟨ab, af, none⟩ H.length hc _ rfl len.out news.out one_of_map (by unfold maxLen; omega) (by omega) (by simp) ?_; intro v' wt hown' hgrow _; rw [Nat.zero_add, List.nil_append] at hown'; obtain ⟨tg, tcap, rfl⟩ := shape_of hown' (by omega); have BT : Hid (Below wo.heap.size wo wt) := ((Below.refl wo.heap.size wo).alloc (Nat.le_refl _) _).grown hgrow (by simp) (by intro j hj; have hj' : some wo.heap.size = some j := hj; injection hj' with hj'; omega); have OT0 : Hid (wt.ownsRow wo.heap.size 2 1 (.slice (some ⟨tg, 0, none⟩) H.length tcap) H.length ((addk H (vV P G H p) p 0).map (Value.int .i64))) := (by rw [addk_zero]; exact hown'); clear hown' hgrow))
                have OS : Hid (Own wt wo.heap.size wt.heap.size (.slice (some ⟨tg, 0, none⟩) H.length tcap) (addk H (vV P G H p) p 0)) := by
                  have h1 : (addk H (vV P G H p) p 0).length = H.length := addk_len _ _ _ _
                  exact Own.of_row (by rw [h1]; exact OT0.out) (by rw [h1]; omega) (Nat.le_refl _)
                have HTG : Hid (wo.heap.size ≤ tg ∧ tg < wt.heap.size) := by
                  obtain ⟨_, _, he, tg1, _, _, tg2⟩ := OS.out.block (by rw [addk_zero]; exact ne_of_len (by omega))
                  simp only [Value.slice.injEq, Option.some.injEq, Addr.mk.injEq, and_true] at he
                  obtain ⟨rfl, _⟩ := he
                  exact ⟨tg1, tg2⟩
                have HTT : Hid (Turned wo.heap.size wt.heap.size wt wt) := Turned.refl _ _ _
                clear start news len OT0
                go_loopw [192] (fun i wr => ∃ i' : Nat, i' ≤ nv ∧ i = .int .i64 (i' : Int) ∧ Hid (Own wr wo.heap.size wt.heap.size (.slice (some ⟨tg, 0, none⟩) H.length tcap) (addk H (vV P G H p) p i')) ∧ Hid (Turned wo.heap.size wt.heap.size wt wr)) (fun i _ => nv - (intOf i).toNat)
                case atStart => exact ⟨0, by omega, rfl, OS, HTT⟩
                case round =>
                  clear OS HTT
                  obtain ⟨i, hii, rfl, ho1, ht⟩ := hrel
                  have hbs : Hid (Below wo.heap.size wo wr) := BT.out.trans (ht.out.below (Nat.le_refl _) BT.out.size)
                  by_cases hil : i < nv
                  · have hiu : i < (vV P G H p).length ∧ i < H.length := by have := HNX.out; omega
                    have e1 : wr.cell? ⟨ub, uf + i, none⟩ = some (.int .i64 (at' (vV P G H p) i)) := (hbs.out.cell (p := ⟨ub, uf + i, none⟩) HUC.out.1).trans (HUC.out.2 i _ (at_some _ i hiu.1))
                    have e2 : wr.cell? ⟨tg, i, none⟩ = some (.int .i64 (at' H i)) := by have := ho1.out.cell (addk_get (A := H) (U := vV P G H p) (p := p) (k := i) (j := i) hiu.2); rw [if_neg (Nat.lt_irrefl _)] at this; exact this
                    have e3 : wr.frozen? ⟨tg, i, none⟩ = false := ho1.out.free i
                    have PUT : Hid (Own (wr.drew.setCell ⟨tg, i, none⟩ (.int .i64 (at' H i + p * at' (vV P G H p) i))) wo.heap.size wt.heap.size (.slice (some ⟨tg, 0, none⟩) H.length tcap) (addk H (vV P G H p) p (i + 1))) := by
                      have ho1' : Own wr.drew wo.heap.size wt.heap.size (.slice (some ⟨tg, 0, none⟩) H.length tcap) (addk H (vV P G H p) p i) := ho1.out.stay fun _ _ _ _ => rfl
                      have := ho1'.put i (at' H i + p * at' (vV P G H p) i)
                      rw [addk_put hiu.2] at this
                      exact this
                    have ra1 := HK.out.oh.1.2.get (at_some H i hiu.2)
                    have ru1 := HUV.out.2.get (at_some (vV P G H p) i hiu.1)
                    have hp13 := HPR.out.2
                    have hsq1 := HSQ.out
                    have hmp := Int.mul_le_mul_of_nonneg_left (show at' (vV P G H p) i ≤ p - 1 by omega) (show (0 : Int) ≤ p by omega)
                    have hmq := Int.mul_nonneg (show (0 : Int) ≤ p by omega) (show (0 : Int) ≤ at' (vV P G H p) i by omega)
                    rw [Int.mul_sub, Int.mul_one] at hmp
                    obtain ⟨a, ha⟩ : ∃ a, a = at' H i := ⟨_, rfl⟩
                    rw [← ha] at e2 ra1 PUT
                    obtain ⟨y, hy'⟩ : ∃ y, y = at' (vV P G H p) i := ⟨_, rfl⟩
                    rw [← hy'] at e1 ru1 hmp hmq PUT
                    obtain ⟨d, hd⟩ : ∃ d, d = a + p * y := ⟨_, rfl⟩
                    rw [← hd] at PUT
                    have w2 : IntKind.i64.wrap (p * y) = p * y := IntWalk.i64_in _ (by omega)
                    have w2' : wrap64 (p * y) = p * y := IntWalk.wrap64_in _ (by omega)
                    have w3 : IntKind.i64.wrap (a + p * y) = d := by rw [← hd]; exact IntWalk.i64_in _ (by omega)
                    have w3' : wrap64 (a + p * y) = d := by rw [← hd]; exact IntWalk.wrap64_in _ (by omega)
                    have HT1 : Hid (Turned wo.heap.size wt.heap.size wt (wr.drew.setCell ⟨tg, i, none⟩ (.int .i64 d))) := (show Turned wo.heap.size wt.heap.size wt wr.drew from ⟨ht.out.os, ht.out.tape, ht.out.output, ht.out.size, ht.out.block⟩).setCell HTG.out.1 HTG.out.2 _
                    have hst := store_int (b := d) (show wr.drew.cell? _ = _ from e2) (show wr.drew.frozen? _ = _ from e3)
                    have HMD : Hid (∀ W, Calls Try.prog 30 #[.int .i64 d, .int .i64 sq] W fun e w' => e = .returned (.int .i64 d) ∧ w' = W) := fun W => by
                      have := md_any d sq ⟨by omega, by omega⟩ W
                      rw [md_id (by omega) (by omega)] at this
                      exact this
                    have d4 : i < H.length := hiu.2
                    have d7 : i < 17 := by omega
                    have d5 : (i : Int) < (H.length : Int) := by omega
                    have d6 : (i : Int) < (nv : Int) := by omega
                    clear ha hy' hd ho1 ht hiu ra1 ru1 hp13 hsq1 hmp hmq hA17
                    go_wp2_with fail
                    go_region_law (first | (go_simp; go_at_call 30; refine (HMD.out _).mono ?_; rintro e w0 ⟨rfl, hw0⟩; rw [hw0]; clear hw0))
                    all_goals (go_wp2; go_roundw; (case rel => exact ⟨i + 1, by omega, by go_num, PUT, HT1⟩); (case measure => simp [intOf]; omega))
                  · obtain rfl : i = nv := by omega
                    have F : Hid (Own wr wo.heap.size wr.heap.size (.slice (some ⟨tg, 0, none⟩) H.length tcap) RB) := by
                      have h := ho1.out.wide (Nat.le_refl _) ht.out.size
                      rw [HNX.out.1, ← HRB.out] at h
                      exact h
                    have HOW : Hid (wr.ownsRow wh.heap.size 26 1 (.slice (some ⟨g, 0, none⟩) 1 cap) 1 [s0]) := row_kept' how.out hbs.out
                    have HBA : Hid (Below wh.heap.size wh wr) := hb.out.trans (hbs.out.mono hb.out.size)
                    have F0 : Hid (Own wr wh.heap.size wr.heap.size s0 RA) := (hx0.out.kept hbs.out).wide (Nat.le_refl _) hbs.out.size
                    have HSZ2 : Hid (wh.heap.size ≤ wo.heap.size ∧ wo.heap.size ≤ wr.heap.size) := ⟨hb.out.size, hbs.out.size⟩
                    clear ho1 ht how hbs hb
                    go_wp2_with (first | (at_builtin; refine wpList_append_own _ rfl (.tmp 212) (.tmp 215) 33 rfl wh.heap.size 26 iw (.agg #[.slice none 0 0]) 1 24 Try.underlying33 hy hy0 hy1 hy2 rfl (by decide) _ 1 [s0] rfl (HOW.out.alloc _) ⟨wr.heap.size, 0, none⟩ 1 1 [.slice (some ⟨tg, 0, none⟩) H.length tcap] rfl rfl (cell_one_new wr _ _) (by intro u hu; rw [List.mem_singleton] at hu; subst hu; rfl) (by unfold maxLen; omega) (by omega) (by have := HSZ2.out; simp; omega) ?_; intro v' wn hown' hgrow _; obtain ⟨ng, ncap, rfl⟩ := shape_of hown' (by omega); have HROW : Hid (wn.ownsRow wh.heap.size 26 1 (.slice (some ⟨ng, 0, none⟩) (1 + 1) ncap) (1 + 1) ([s0] ++ [.slice (some ⟨tg, 0, none⟩) H.length tcap])) := hown'; have HBN : Hid (Below wh.heap.size wh wn) := (HBA.out.alloc (by have := HSZ2.out; omega) _).grown hgrow (by have := HSZ2.out; simp; omega) (fun j hj => (HOW.out.lt j hj).1); have HF2 : Hid (Own wn wo.heap.size wn.heap.size (.slice (some ⟨tg, 0, none⟩) H.length tcap) RB) := own_grown ((F.out.kept ((Below.refl _ _).alloc (Nat.le_refl _) _)).wide (Nat.le_refl _) (by simp)) (HOW.out.alloc _) hgrow; have HF0 : Hid (Own wn wh.heap.size wn.heap.size s0 RA) := own_grown ((F0.out.kept ((Below.refl _ _).alloc (Nat.le_refl _) _)).wide (Nat.le_refl _) (by simp)) (HOW.out.alloc _) hgrow; clear hown' hgrow))
                    have HIN : Hid (sInv wh.heap.size RA RB 2 ([s0] ++ [.slice (some ⟨tg, 0, none⟩) H.length tcap]) wn) := ⟨_, _, rfl, HF0.out, HF2.out.wide HSZ2.out.1 (Nat.le_refl _)⟩
                    clear F HOW HBA HF2 F0 HF0
                    go_wp2_with fail
                    go_roundw
                    case rel => exact ⟨2, ng, ncap, _, by omega, by first | rfl | (go_num; done), by first | rfl | (go_num; done), HROW, HBN, HIN⟩
                    case measure => simp [intOf]; try omega
                
              · obtain ⟨s0, s2, rfl, o1, o2⟩ : ∃ s s2, xs = [s, s2] ∧ Hid (Own wo wh.heap.size wo.heap.size s RA) ∧ Hid (Own wo wh.heap.size wo.heap.size s2 RB) := hx.out
                obtain ⟨sa0, sc0, rfl⟩ := o1.out.shape
                obtain ⟨sa2, sc2, rfl⟩ := o2.out.shape
                have Bo : Hid (Below w1.heap.size w1 wo.drew) := (Bh.out.trans (hb.out.mono Bh.out.size)).drew
                have hwh := Bh.out.size
                have XRo : Hid (Bx wo.drew (w.heap.size + 1 + 1 + 1) (.slice none 0 0)) := XR.out.kept Bo.out
                have XQo : Hid (Bx wo.drew (w.heap.size + 1 + 1 + 1 + 1) (.slice none 0 0)) := XQ.out.kept Bo.out
                have e1 : wo.drew.cell? ⟨g, 0, none⟩ = some (.slice sa0 RA.length sc0) := how.out.cellAt 0 (by omega)
                have e2 : wo.drew.cell? ⟨g, 1, none⟩ = some (.slice sa2 RB.length sc2) := how.out.cellAt 1 (by omega)
                have TS := two_set XRo.out XQo.out (by omega) (.slice sa0 RA.length sc0) (.slice sa2 RB.length sc2)
                have f1 := XRo.out.free
                have g1 := XRo.out.cell
                have z1 : (wo.setCell ⟨w.heap.size + 1 + 1 + 1, 0, none⟩ (.slice sa0 RA.length sc0)).drew.cell? ⟨w.heap.size + 1 + 1 + 1 + 1, 0, none⟩ = some (.slice none 0 0) := TS.2.1
                have z2 : (wo.setCell ⟨w.heap.size + 1 + 1 + 1, 0, none⟩ (.slice sa0 RA.length sc0)).drew.frozen? ⟨w.heap.size + 1 + 1 + 1 + 1, 0, none⟩ = false := TS.2.2
                have hg := how.out.lt g rfl
                have lr := LR.out
                have e3 : (wo.setCell ⟨w.heap.size + 1 + 1 + 1, 0, none⟩ (.slice sa0 RA.length sc0)).drew.cell? ⟨g, 1, none⟩ = some (.slice sa2 RB.length sc2) := (World.cell?_setCell_far _ _ _ _ (by show w.heap.size + 1 + 1 + 1 ≠ g; omega)).trans e2
                have e4 : (wo.setCell ⟨w.heap.size + 1 + 1 + 1 + 1, 0, none⟩ (.slice sa2 RB.length sc2)).drew.cell? ⟨g, 0, none⟩ = some (.slice sa0 RA.length sc0) := (World.cell?_setCell_far _ _ _ _ (by show w.heap.size + 1 + 1 + 1 + 1 ≠ g; omega)).trans e1
                have e5 : (wo.setCell ⟨w.heap.size + 1 + 1 + 1, 0, none⟩ (.slice sa0 RA.length sc0)).drew.cell? ⟨g, 0, none⟩ = some (.slice sa0 RA.length sc0) := (World.cell?_setCell_far _ _ _ _ (by show w.heap.size + 1 + 1 + 1 ≠ g; omega)).trans e1
                have HA : Hid (Ans2S (R P G H p) (R2 P G H p) (ok P G H p) w (.returned (.tuple #[.agg #[.slice sa0 RA.length sc0], .agg #[.slice sa2 RB.length sc2], .bool true])) ((wo.drew.setCell ⟨w.heap.size + 1 + 1 + 1, 0, none⟩ (.slice sa0 RA.length sc0)).setCell ⟨w.heap.size + 1 + 1 + 1 + 1, 0, none⟩ (.slice sa2 RB.length sc2))) := by
                  show Ans2S _ _ _ _ _ _
                  rw [HRR.out.1, HRR.out.2.1, HRR.out.2.2]
                  have q1 : Own wo.drew wh.heap.size wo.drew.heap.size (.slice sa0 RA.length sc0) RA := o1.out.stay fun _ _ _ _ => rfl
                  have q2 : Own wo.drew wh.heap.size wo.drew.heap.size (.slice sa2 RB.length sc2) RB := o2.out.stay fun _ _ _ _ => rfl
                  exact out2_yesS B1.out (by omega) (by have := LR.out; omega) (by omega) (by have := LR.out; omega) (q1.wide hwh (Nat.le_refl _)) (q2.wide hwh (Nat.le_refl _)) Bo.out
                have HA2 : Hid (Ans2S (R P G H p) (R2 P G H p) (ok P G H p) w (.returned (.tuple #[.agg #[.slice sa0 RA.length sc0], .agg #[.slice sa2 RB.length sc2], .bool true])) ((wo.setCell ⟨w.heap.size + 1 + 1 + 1, 0, none⟩ (.slice sa0 RA.length sc0)).setCell ⟨w.heap.size + 1 + 1 + 1 + 1, 0, none⟩ (.slice sa2 RB.length sc2)).drew) := HA
                have YS : Hid ((wo.setCell ⟨w.heap.size + 1 + 1 + 1, 0, none⟩ (.slice sa0 RA.length sc0)).cell? ⟨w.heap.size + 1 + 1 + 1, 0, none⟩ = some (.slice sa0 RA.length sc0) ∧
                    ((wo.setCell ⟨w.heap.size + 1 + 1 + 1, 0, none⟩ (.slice sa0 RA.length sc0)).setCell ⟨w.heap.size + 1 + 1 + 1 + 1, 0, none⟩ (.slice sa2 RB.length sc2)).cell? ⟨w.heap.size + 1 + 1 + 1, 0, none⟩ = some (.slice sa0 RA.length sc0) ∧
                    ((wo.setCell ⟨w.heap.size + 1 + 1 + 1, 0, none⟩ (.slice sa0 RA.length sc0)).setCell ⟨w.heap.size + 1 + 1 + 1 + 1, 0, none⟩ (.slice sa2 RB.length sc2)).cell? ⟨w.heap.size + 1 + 1 + 1 + 1, 0, none⟩ = some (.slice sa2 RB.length sc2) ∧
                    ((wo.setCell ⟨w.heap.size + 1 + 1 + 1, 0, none⟩ (.slice sa0 RA.length sc0)).setCell ⟨w.heap.size + 1 + 1 + 1 + 1, 0, none⟩ (.slice sa2 RB.length sc2)).drew.cell? ⟨w.heap.size + 1 + 1 + 1, 0, none⟩ = some (.slice sa0 RA.length sc0) ∧
                    ((wo.setCell ⟨w.heap.size + 1 + 1 + 1, 0, none⟩ (.slice sa0 RA.length sc0)).setCell ⟨w.heap.size + 1 + 1 + 1 + 1, 0, none⟩ (.slice sa2 RB.length sc2)).drew.cell? ⟨w.heap.size + 1 + 1 + 1 + 1, 0, none⟩ = some (.slice sa2 RB.length sc2)) := ⟨(XRo.out.set (.slice sa0 RA.length sc0)).cell, TS.1.1, TS.1.2, TS.1.1, TS.1.2⟩
                clear hx o1 o2 how hb TS HA
                go_wp2_with fail
                go_region
                obtain ⟨_, _, _, y4, y5⟩ := YS.out
                clear f1 g1 z1 z2 e1 e2 e3 e4 e5
                generalize RA.length = la at *
                generalize RB.length = lb at *
                go_wp2_with fail
                exact bodyPost_ret (v := .tuple #[.agg #[.slice sa0 la sc0], .agg #[.slice sa2 lb sc2], .bool true]) (by simp [results, Try.results7, y4, y5, go_sem]) rfl HA2.out
end Go.Proofs.Ytfhcfeafohcjpaa.fLiftPair
