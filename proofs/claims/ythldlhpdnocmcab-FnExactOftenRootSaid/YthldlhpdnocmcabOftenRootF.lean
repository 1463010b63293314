/- OftenRoot: what both sides answer. -/
import Derived.Test.YthldlhpdnocmcabDrP
import Derived.Test.YthldlhpdnocmcabOf
import Derived.Deep.LoopGhost
namespace Go.Proofs.Ythldlhpdnocmcab.fOftenRoot
open Go.RowKit Go.Pl Go.Proofs.Ythldlhpdnocmcab.wh
def oft (n d : Int) : Nat → List Int → Nat
  | 0, _ => 0
  | f + 1, T => if exok T [-n, d] = true then oft n d f (exq T [-n, d]) + 1 else 0
def ok (A : List Int) (n d : Int) : Bool := valR A && (fr n d && cp n d)
def z (A : List Int) (n d : Int) : Int := if ok A n d = true then ((oft n d A.length A : Nat) : Int) else 0
theorem z_no {A : List Int} {n d : Int} (h : ok A n d = false) : z A n d = 0 := if_neg (by rw [h]; decide)
theorem z_yes {A : List Int} {n d : Int} (h : ok A n d = true) : z A n d = ((oft n d A.length A : Nat) : Int) := if_pos h
/-- what the walks keep of the m-th quotient -/
def St (T : List Int) (n d : Int) (m : Nat) : Prop := 1 ≤ T.length ∧ T.length + m ≤ 9 ∧ Sml T n d m ∧ at' T (T.length - 1) ≠ 0
theorem St.bd {T : List Int} {n d : Int} {m : Nat} (h : St T n d m) : Bd 1000000 T := fun k => h.2.2.1.bd h.2.1 k
theorem St.one {T : List Int} {n d : Int} {m : Nat} (h : St T n d m) (h1 : T.length ≤ 1) : exok T [-n, d] = false := by
  have hp := h.1
  have hl := h.2.2.2
  obtain ⟨c, rfl⟩ : ∃ c, T = [c] := List.length_eq_one_iff.1 (by omega)
  exact ex_one (by simpa [at'] using hl)
theorem St.prt {T : List Int} {n d : Int} {m : Nat} (hd : 1 ≤ d) (h : St T n d m) (h2 : 2 ≤ T.length) {S : List Int × Int} (hp : prt T n d (T.length - 1) (List.replicate (T.length - 1) 0) 0 = some S) : (decide (at' T 0 + n * S.2 = 0) = exok T [-n, d]) ∧ (exok T [-n, d] = true → exq T [-n, d] = S.1 ∧ St S.1 n d (m + 1) ∧ S.1.length = T.length - 1) := by
  by_cases hz : at' T 0 + n * S.2 = 0
  · obtain ⟨k1, k2, k3, k4⟩ := often_step hd h2 h.2.1 h.2.2.1 hp hz
    refine ⟨by rw [decide_eq_true hz, k1], fun _ => ⟨k2, ⟨by omega, by have := h.2.1; omega, k3, ?_⟩, k4⟩⟩
    obtain ⟨f1, f2⟩ := prt_fac (T := T) (n := n) (d := d) (T.length - 1) _ 0 (by simp) (fun j hj => by
      rw [at_out (L := T) (by omega), rep_at, rep_at, Int.mul_zero, Int.mul_zero, Int.add_zero]) (by rw [rep_at]) hp
    intro e
    have h3 := f1 (T.length - 2)
    rw [show T.length - 2 + 1 = T.length - 1 by omega, at_out (L := S.1) (k := T.length - 1) (by omega), Int.mul_zero, Int.add_zero] at h3
    rw [show S.1.length - 1 = T.length - 2 by omega] at e
    rw [e, Int.mul_zero] at h3
    exact h.2.2.2 h3
  · rw [decide_eq_false hz]
    cases he : exok T [-n, d] with
    | false => exact ⟨rfl, fun h' => (by cases h')⟩
    | true =>
      exfalso
      obtain ⟨x, hx, hx2⟩ := dvr_yes h2 he
      rw [hp] at hx
      injection hx with hx
      apply hz
      rw [hx]
      exact hx2
theorem St.none {T : List Int} {n d : Int} (h2 : 2 ≤ T.length) (h : Pl.prt T n d (T.length - 1) (List.replicate (T.length - 1) 0) 0 = none) : exok T [-n, d] = false := by
  cases he : exok T [-n, d] with
  | false => rfl
  | true =>
    obtain ⟨y, hy, _⟩ := dvr_yes h2 he
    rw [h] at hy
    cases hy
theorem St.next {T : List Int} {n d : Int} {m : Nat} (hd : 1 ≤ d) (h : St T n d m) (he : exok T [-n, d] = true) : St (exq T [-n, d]) n d (m + 1) ∧ (exq T [-n, d]).length = T.length - 1 ∧ 2 ≤ T.length := by
  have h2 : 2 ≤ T.length := by
    by_cases h1 : T.length ≤ 1
    · rw [h.one h1] at he; cases he
    · omega
  obtain ⟨x, hx, _⟩ := dvr_yes h2 he
  obtain ⟨_, k⟩ := h.prt hd h2 hx
  obtain ⟨k1, k2, k3⟩ := k he
  rw [k1]
  exact ⟨k2, k3, h2⟩
theorem St.start {A : List Int} {n d : Int} (h : ValR A) : St A n d 0 := ⟨h.pos, by have := h.le; omega, Sml.start h, h.last⟩
theorem oft_no {T : List Int} {n d : Int} (h : exok T [-n, d] = false) : ∀ f, oft n d f T = 0
  | 0 => rfl
  | f + 1 => by rw [oft, if_neg (by rw [h]; decide)]
theorem oft_yes {T : List Int} {n d : Int} {f : Nat} (h : exok T [-n, d] = true) : oft n d (f + 1) T = oft n d f (exq T [-n, d]) + 1 := by rw [oft, if_pos h]
theorem lin_bd {n d : Int} (h : (-1000000 ≤ n ∧ n ≤ 1000000) ∧ 1 ≤ d ∧ d ≤ 1000000) : Bd 1000000 [-n, d] := fun k => by
  match k with
  | 0 => show -1000000 ≤ -n ∧ -n ≤ 1000000; omega
  | 1 => show -1000000 ≤ d ∧ d ≤ 1000000; omega
  | k + 2 => rw [at_out (by simp)]; omega

set_option maxRecDepth 100000 in
set_option maxHeartbeats 6400000 in
theorem spec_any {A : List Int} {v : Value} {w : World} (h : Wh w v A) (n : Int) (_b1 : (Lit.int .i64 n).wf = true) (d : Int) (_b2 : (Lit.int .i64 d).wf = true) : Calls Try.prog 23 #[v, .int .i64 n, .int .i64 d] w fun e w' => e = .returned (.tuple #[.int .i64 (z A n d), .bool (ok A n d)]) ∧ Below w.heap.size w w' := by
  obtain ⟨s, rfl, h⟩ := h
  obtain ⟨ao, cap, rfl⟩ := id h.shape
  have HH : Hid (Ls w (.slice ao A.length cap) A) := h
  clear h
  obtain ⟨w1, hw⟩ : ∃ x, x = w.alloc (.cells #[.slice ao A.length cap] 38) := ⟨_, rfl⟩
  have X : Hid (Bx w1 w.heap.size (.slice ao A.length cap)) := by rw [hw]; exact Bx.new _ _ _
  have B1 : Hid (Below w.heap.size w w1) := by rw [hw]; exact new1 _ _
  have H1 : Hid (Ls w1 (.slice ao A.length cap) A) := HH.out.below B1.out
  have c := X.out.cell
  clear HH
  go_enter Try.func23, Try.ntmps23
  go_wp2_with fail
  rw [← hw]
  clear hw
  refine (isR_any c H1.out).mono ?_
  rintro e w2 ⟨rfl, hw2⟩
  rw [hw2]
  clear hw2
  cases hv : valR A with
  | false =>
    have HZ : Hid (ok A n d = false) := by show ok A n d = false; unfold ok; rw [hv]; rfl
    clear hv
    go_wp2_with fail
    go_ret2
    exact ⟨by rw [z_no HZ.out, HZ.out]; rfl, B1.out⟩
  | true =>
  have HV : Hid (valR A = true) := hv
  clear hv
  go_wp2_with fail
  refine (sfrac_any n d _).mono ?_
  rintro e w2 ⟨rfl, hw2⟩
  rw [hw2]
  clear hw2
  cases hf : fr n d with
  | false =>
    have HZ : Hid (ok A n d = false) := by show ok A n d = false; unfold ok; rw [hf]; simp
    clear hf
    go_wp2_with fail
    go_ret2
    exact ⟨by rw [z_no HZ.out, HZ.out]; rfl, B1.out⟩
  | true =>
  have HF : Hid (fr n d = true) := hf
  have HFB : Hid ((-1000000 ≤ n ∧ n ≤ 1000000) ∧ 1 ≤ d ∧ d ≤ 1000000) := fr_bd hf
  have HSG := sgcd_any n d (by have := fr_bd hf; omega) (by have := fr_bd hf; omega) w1
  have HCP : Hid (cp n d = decide (((Int.gcd n d : Nat) : Int) = 1)) := rfl
  generalize ((Int.gcd n d : Nat) : Int) = gg at HCP HSG
  have HSC : Hid (Calls Try.prog 32 #[.int .i64 n, .int .i64 d] w1 fun e w' => e = .returned (.int .i64 gg) ∧ w' = w1) := HSG
  clear hf HSG
  go_wp2_with fail
  refine HSC.out.mono ?_
  rintro e w2 ⟨rfl, hw2⟩
  rw [hw2]
  clear hw2
  by_cases hg : gg = 1
  case neg =>
    have HZ : Hid (ok A n d = false) := by show ok A n d = false; unfold ok; rw [HCP.out, decide_eq_false hg]; simp
    have hgb : (gg == 1) = false := by rw [beq_eq_false_iff_ne]; exact hg
    have hgc : (gg != 1) = true := by rw [bne, hgb]; rfl
    clear hg
    go_wp2_with fail
    go_ret2
    exact ⟨by rw [z_no HZ.out, HZ.out]; rfl, B1.out⟩
  subst hg
  have HOK : Hid (ok A n d = true) := by show ok A n d = true; unfold ok; rw [HV.out, HF.out, HCP.out]; rfl
  have HZE : Hid (z A n d = ((oft n d A.length A + 0 : Nat) : Int)) := z_yes HOK.out
  have HS0 : Hid (St A n d 0) := St.start (valR_iff.1 HV.out)
  obtain ⟨C, hC⟩ : ∃ C, C = oft n d A.length A + 0 := ⟨_, rfl⟩
  have HC0 : Hid (oft n d A.length A + 0 = C) := hC.symm
  rw [← hC] at HZE
  clear hC
  go_wp2_with fail
  go_loopg [8, 9] A.length (fun k t q wr => ∃ (T : List Int) (m : Nat) (ta : Option Addr) (tc : Nat), t = .slice ta T.length tc ∧ q = .int .i64 (m : Int) ∧ T.length = k ∧ m ≤ 9 ∧ Hid (oft n d k T + m = C) ∧ Hid (St T n d m) ∧ Hid (Ls wr (.slice ta T.length tc) T) ∧ Hid (Below w1.heap.size w1 wr))
  case atStart => exact ⟨A, 0, ao, cap, rfl, rfl, rfl, by omega, HC0, HS0, H1, Below.refl _ _⟩
  case round =>
    obtain ⟨T, m, ta, tc, rfl, rfl, hk, hm9, hoc, hst, hl, hb⟩ := hrel
    have HBF : Hid (Below w.heap.size w wr) := B1.out.trans (hb.out.mono B1.out.size)
    by_cases h2 : T.length ≤ 1
    · have HCM : Hid (C = m) := by
        have := hoc.out
        rw [oft_no (hst.out.one h2)] at this
        show C = m
        omega
      have h2' : ¬ 1 < (T.length : Int) := by omega
      clear hk hoc
      go_wp2_with fail
      go_ret2
      exact ⟨by rw [HZE.out, HOK.out, HCM.out]; rfl, HBF.out⟩
    · have h2' : 1 < (T.length : Int) := by omega
      have HL2 : Hid (2 ≤ T.length ∧ T.length ≤ 17) := ⟨by omega, by have := hst.out.2.1; omega⟩
      have HBD : Hid (Bd 1000000000 T) := hst.out.bd.mono (by omega)
      obtain ⟨j, hj⟩ : ∃ j, gk = j + 1 := ⟨gk - 1, by omega⟩
      have HJ : Hid (T.length = j + 1 ∧ gk = j + 1) := ⟨by omega, hj⟩
      clear h2 hk hj
      go_wp2_with fail
      refine (sprt_any hl.out HL2.out.1 HL2.out.2 HBD.out n d HF.out).mono ?_
      rintro e w3 ⟨hres, b⟩
      have B3 : Hid (Below w1.heap.size w1 w3) := hb.out.trans (b.mono hb.out.size)
      have BF3 : Hid (Below w.heap.size w w3) := HBF.out.trans (b.mono HBF.out.size)
      clear b
      cases hp : prt T n d (T.length - 1) (List.replicate (T.length - 1) 0) 0 with
      | none =>
        rw [hp] at hres
        subst hres
        have HCM : Hid (C = m) := by
          have := hoc.out
          rw [oft_no (St.none HL2.out.1 hp)] at this
          show C = m
          omega
        clear hp hoc
        go_wp2_with fail
        go_ret2
        exact ⟨by rw [HZE.out, HOK.out, HCM.out]; rfl, BF3.out⟩
      | some S =>
        rw [hp] at hres
        obtain ⟨vq, he, oq⟩ := hres
        subst he
        obtain ⟨p1, p2⟩ := hst.out.prt HFB.out.2.1 HL2.out.1 hp
        have P1 : Hid (decide (at' T 0 + n * S.2 = 0) = exok T [-n, d]) := p1
        have P2 : Hid (exok T [-n, d] = true → exq T [-n, d] = S.1 ∧ St S.1 n d (m + 1) ∧ S.1.length = T.length - 1) := p2
        have OQ : Hid (Own w3 wr.heap.size w3.heap.size vq S.1) := oq
        obtain ⟨qa, qc, rfl⟩ := OQ.out.shape
        rw [P1.out]
        clear hp p1 p2 oq P1
        cases hx : exok T [-n, d] with
        | false =>
          have HCM : Hid (C = m) := by
            have := hoc.out
            rw [oft_no hx] at this
            show C = m
            omega
          clear hx hoc P2
          generalize S.1.length = lq at *
          go_wp2_with fail
          go_ret2
          exact ⟨by rw [HZE.out, HOK.out, HCM.out]; rfl, BF3.out⟩
        | true =>
          obtain ⟨k1, k2, k3⟩ := P2.out hx
          have HOC : Hid (oft n d j S.1 + (m + 1) = C) := by
            have := hoc.out
            rw [HJ.out.2, oft_yes hx, k1] at this
            show _ = C
            omega
          have HST : Hid (St S.1 n d (m + 1)) := k2
          have HLN : Hid (S.1.length = j) := by have := HJ.out; show S.1.length = j; omega
          have HSL : Hid (Ls w3 (.slice qa S.1.length qc) S.1) := OQ.out.ls (Nat.le_refl _)
          have hm8 : m + 1 ≤ 9 := by have := k2.2.1; omega
          clear hx hoc P2 k1 k2 k3 OQ hl hb hst
          obtain ⟨Q, hQ⟩ : ∃ Q, Q = S.1 := ⟨_, rfl⟩
          rw [← hQ] at HOC HST HLN HSL ⊢
          clear hQ
          go_wp2_with fail
          go_roundg j
          case rel => exact ⟨Q, m + 1, qa, qc, rfl, by go_num, HLN.out, hm8, HOC, HST, HSL, B3⟩
          case measure => have := HJ.out; omega

set_option maxRecDepth 100000 in
set_option maxHeartbeats 6400000 in
theorem impl_any {A : List Int} {v : Value} {w : World} (h : Wh w v A) (n : Int) (_b1 : (Lit.int .i64 n).wf = true) (d : Int) (_b2 : (Lit.int .i64 d).wf = true) : Calls Try.prog 24 #[v, .int .i64 n, .int .i64 d] w fun e w' => e = .returned (.tuple #[.int .i64 (z A n d), .bool (ok A n d)]) ∧ Below w.heap.size w w' := by
  obtain ⟨s, rfl, h⟩ := h
  obtain ⟨ao, cap, rfl⟩ := id h.shape
  have HH : Hid (Ls w (.slice ao A.length cap) A) := h
  clear h
  obtain ⟨w1, hw⟩ : ∃ x, x = w.alloc (.cells #[.slice ao A.length cap] 38) := ⟨_, rfl⟩
  have X : Hid (Bx w1 w.heap.size (.slice ao A.length cap)) := by rw [hw]; exact Bx.new _ _ _
  have B1 : Hid (Below w.heap.size w w1) := by rw [hw]; exact new1 _ _
  have H1 : Hid (Ls w1 (.slice ao A.length cap) A) := HH.out.below B1.out
  have c := X.out.cell
  clear HH
  go_enter Try.func24, Try.ntmps24
  go_wp2_with fail
  rw [← hw]
  clear hw
  refine (validR_any ⟨_, rfl, H1.out⟩).mono ?_
  rintro e w2 ⟨rfl, b⟩
  replace B1 : Hid (Below w.heap.size w w2) := B1.out.trans (b.mono B1.out.size)
  replace H1 : Hid (Ls w2 (.slice ao A.length cap) A) := H1.out.below b
  replace X : Hid (Bx w2 w.heap.size (.slice ao A.length cap)) := X.out.kept b
  replace c := X.out.cell
  clear b
  cases hv : valR A with
  | false =>
    have HZ : Hid (ok A n d = false) := by show ok A n d = false; unfold ok; rw [hv]; rfl
    clear hv
    go_wp2_with fail
    go_ret2
    exact ⟨by rw [z_no HZ.out, HZ.out]; rfl, B1.out⟩
  | true =>
  have HV : Hid (valR A = true) := hv
  clear hv
  go_wp2_with fail
  refine (iprimf_any n d _).mono ?_
  rintro e w3 ⟨rfl, hw3⟩
  rw [hw3]
  clear hw3
  cases hf : (fr n d && cp n d) with
  | false =>
    have HZ : Hid (ok A n d = false) := by show ok A n d = false; unfold ok; rw [hf]; simp
    clear hf
    go_wp2_with fail
    go_ret2
    exact ⟨by rw [z_no HZ.out, HZ.out]; rfl, B1.out⟩
  | true =>
  have HOK : Hid (ok A n d = true) := by show ok A n d = true; unfold ok; rw [HV.out, hf]; rfl
  have hfr : fr n d = true := by rw [Bool.and_eq_true] at hf; exact hf.1
  have HFB : Hid ((-1000000 ≤ n ∧ n ≤ 1000000) ∧ 1 ≤ d ∧ d ≤ 1000000) := fr_bd hfr
  have n1 : IntKind.i64.wrap (-n) = -n := IntWalk.i64_in _ (by have := HFB.out; omega)
  have n2 : wrap64 (-n) = -n := IntWalk.wrap64_in _ (by have := HFB.out; omega)
  have HZE : Hid (z A n d = ((oft n d A.length A + 0 : Nat) : Int)) := z_yes HOK.out
  have HS0 : Hid (St A n d 0) := St.start (valR_iff.1 HV.out)
  have HDB : Hid (Bd 1000000 [-n, d]) := lin_bd HFB.out
  have HLZ : Hid (at' [-n, d] ([-n, d].length - 1) ≠ 0) := by show d ≠ 0; have := HFB.out; omega
  have HLI : Hid (∀ W : World, Ls (W.alloc (.cells #[.int .i64 (-n), .int .i64 d] 2)) (.slice (some ⟨W.heap.size, 0, none⟩) 2 2) [-n, d]) := fun W =>
    (Own.of_row (L := [-n, d]) (World.ownsRow_lit (base := W.heap.size) (e := 2) (size := 1) W #[.int .i64 (-n), .int .i64 d] 2 (Nat.le_refl _) (by decide) rfl) (by simp) (Nat.le_refl _)).ls (Nat.le_refl _)
  obtain ⟨C, hC⟩ : ∃ C, C = oft n d A.length A + 0 := ⟨_, rfl⟩
  have HC0 : Hid (oft n d A.length A + 0 = C) := hC.symm
  rw [← hC] at HZE
  clear hC hf hfr
  go_wp2_with fail
  refine (ieq_any (H1.out.below (new1 _ _)) (HLI.out _) ⟨HS0.out.1, by have := HS0.out.2.1; omega⟩ (by simp) HS0.out.bd HDB.out HLZ.out).mono ?_
  rintro e w3 ⟨vq, rfl, ho, b⟩
  have B3 : Hid (Below w.heap.size w w3) := B1.out.trans (((new1 w2 _).trans (b.mono (by simp))).mono B1.out.size)
  have HO0 : Hid (exok A [-n, d] = true → Ls w3 vq (exq A [-n, d])) := fun h' => (ho h').ls (Nat.le_refl _)
  clear ho b
  go_wp2_with fail
  go_loopg [8, 9, 10] A.length (fun k q t o wr => ∃ (T : List Int) (m : Nat) (vq : Value), q = .int .i64 (m : Int) ∧ vq = t ∧ o = .bool (exok T [-n, d]) ∧ T.length = k ∧ m ≤ 9 ∧ Hid (oft n d k T + m = C) ∧ Hid (St T n d m) ∧ Hid (exok T [-n, d] = true → Ls wr vq (exq T [-n, d])) ∧ Hid (Below w.heap.size w wr))
  case atStart => exact ⟨A, 0, vq, rfl, rfl, rfl, rfl, by omega, HC0, HS0, HO0, B3⟩
  case round =>
    obtain ⟨T, m, vt, rfl, rfl, rfl, hk, hm9, hoc, hst, hl, hb⟩ := hrel
    cases hx : exok T [-n, d] with
    | false =>
      have HCM : Hid (C = m) := by
        have := hoc.out
        rw [oft_no hx] at this
        show C = m
        omega
      clear hx hoc hk
      go_wp2_with fail
      go_ret2
      exact ⟨by rw [HZE.out, HOK.out, HCM.out]; rfl, hb.out⟩
    | true =>
      obtain ⟨k2, k3, k4⟩ := hst.out.next HFB.out.2.1 hx
      obtain ⟨j, hj⟩ : ∃ j, gk = j + 1 := ⟨gk - 1, by omega⟩
      have HJ : Hid (T.length = j + 1 ∧ gk = j + 1) := ⟨by omega, hj⟩
      have HOC : Hid (oft n d j (exq T [-n, d]) + (m + 1) = C) := by
        have := hoc.out
        rw [hk.symm.trans HJ.out.1, oft_yes hx] at this
        show _ = C
        omega
      have HST : Hid (St (exq T [-n, d]) n d (m + 1)) := k2
      have HLN : Hid ((exq T [-n, d]).length = j) := by have := HJ.out; show _ = j; omega
      have hm8 : m + 1 ≤ 9 := by have := k2.2.1; omega
      have HSL : Hid (Ls wr vt (exq T [-n, d])) := hl.out hx
      obtain ⟨qa, qc, rfl⟩ := HSL.out.shape
      obtain ⟨Q, hQ⟩ : ∃ Q, Q = exq T [-n, d] := ⟨_, rfl⟩
      rw [← hQ] at HOC HST HLN HSL ⊢
      clear hx hoc k2 k3 k4 hl hst hk hj hQ
      go_wp2_with fail
      refine (ieq_any (HSL.out.below (new1 _ _)) (HLI.out _) ⟨HST.out.1, by have := HST.out.2.1; omega⟩ (by simp) HST.out.bd HDB.out HLZ.out).mono ?_
      rintro e w4 ⟨vq2, rfl, ho, b⟩
      have B4 : Hid (Below w.heap.size w w4) := hb.out.trans (((new1 wr _).trans (b.mono (by simp))).mono hb.out.size)
      have HO4 : Hid (exok Q [-n, d] = true → Ls w4 vq2 (exq Q [-n, d])) := fun h' => (ho h').ls (Nat.le_refl _)
      clear ho b
      go_wp2_with fail
      go_roundg j
      case rel => exact ⟨Q, m + 1, vq2, by go_num, rfl, rfl, HLN.out, hm8, HOC, HST, HO4, B4⟩
      case measure => have := HJ.out; omega
end Go.Proofs.Ythldlhpdnocmcab.fOftenRoot
