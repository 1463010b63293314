/- Division over primes: the model's side. -/
import Derived.Test.YtfhcfeafohcjpaaLdO
import Derived.Deep.RegionLaw
namespace Go.Proofs.Ytfhcfeafohcjpaa.wh
open Go.RowKit Go.Pl

set_option maxRecDepth 100000 in
theorem sinv_any (x p : Int) (hp : isP p = true) (hx : 0 < x ∧ x < p) (w : World) : Calls Try.prog 57 #[.int .i64 x, .int .i64 p] w fun e w' => e = .returned (.int .i64 (inv x p)) ∧ w' = w := by
  have hp2 := isP_le hp
  have HI : Hid (1 ≤ inv x p ∧ inv x p < p ∧ Int.tmod (x * inv x p) p = 1) := inv_ok hp hx
  have H0 : Hid (invf x p 12 1 = inv x p) := rfl
  obtain ⟨r, hr⟩ : ∃ r, r = inv x p := ⟨_, rfl⟩
  rw [← hr] at HI H0 ⊢
  have HP : Hid (0 < x ∧ x < 14 ∧ 2 ≤ p ∧ p ≤ 13) := ⟨by omega, by omega, by omega, by omega⟩
  have hpb : (p == 0) = false := by rw [beq_eq_false_iff_ne]; omega
  have hp2' : 2 ≤ p := hp2.1
  clear hr hx hp2
  go_enter Try.func57, Try.ntmps57
  go_wp2_with fail
  go_loop [5] (fun t => ∃ (y : Int) (f : Nat), t = .int .i64 y ∧ y + f = 13 ∧ 1 ≤ y ∧ y ≤ r ∧ Hid (invf x p f y = r)) (fun t => (13 - intOf t).toNat)
  case atStart => exact ⟨1, 12, rfl, by omega, by omega, HI.out.1, H0⟩
  case round =>
    obtain ⟨y, f, rfl, hyf, hy1, hyr, hf⟩ := hrel
    obtain ⟨k1, k2⟩ := inv_step hyf hyr HI.out.2.1 HP.out.2.2.2 hf.out
    have hyp : y < p := by have := HI.out.2.1; omega
    have hbd := xy_bd (x := x) (y := y) ⟨HP.out.1, HP.out.2.1⟩ ⟨by omega, by omega⟩
    have htm := tm_range (x * y) (p := p) (by have := HP.out; omega)
    have hp13 := HP.out.2.2.2
    obtain ⟨m, hm⟩ : ∃ m, m = x * y := ⟨_, rfl⟩
    rw [← hm] at k1 k2 hbd htm
    have w1 : IntKind.i64.wrap (x * y) = m := by rw [← hm]; exact IntWalk.i64_in _ (by omega)
    have w1' : wrap64 (x * y) = m := by rw [← hm]; exact IntWalk.wrap64_in _ (by omega)
    have K1 : Hid (Int.tmod m p = 1 → y = r) := k1
    have K2 : Hid (Int.tmod m p ≠ 1 → ∃ g, f = g + 1 ∧ y + 1 ≤ r ∧ invf x p g (y + 1) = r) := k2
    have w2 : IntKind.i64.wrap (Int.tmod m p) = Int.tmod m p := IntWalk.i64_in _ (by omega)
    have w3 : IntKind.i64.wrap (y + 1) = y + 1 := IntWalk.i64_in _ (by omega)
    clear k1 k2 hbd htm hm hf
    by_cases h1 : Int.tmod m p = 1
    · have HE : Hid (y = r) := K1.out h1
      have b1 : (Int.tmod m p == 1) = true := by rw [beq_iff_eq]; exact h1
      have b2 : (Int.tmod m p != 1) = false := by rw [bne, b1]; rfl
      clear h1 K1 K2 hyr hyf
      go_wp2_with fail
      go_ret
      exact ⟨by rw [HE.out]; rfl, rfl⟩
    · obtain ⟨g, rfl, hg1, hg2⟩ := K2.out h1
      have HG : Hid (invf x p g (y + 1) = r) := hg2
      have b1 : (Int.tmod m p == 1) = false := by rw [beq_eq_false_iff_ne]; exact h1
      have b2 : (Int.tmod m p != 1) = true := by rw [bne, b1]; rfl
      clear h1 K1 K2 hg2
      go_wp2_with fail
      go_round
      case rel => exact ⟨y + 1, g, by go_num, by omega, by omega, hg1, HG⟩
      case measure => simp [intOf]; omega

set_option maxRecDepth 100000 in
set_option maxHeartbeats 6400000 in
theorem sdiv_any {va vb : Value} {A B : List Int} {p : Int} {w : World} (ha : Ls w va A) (hb : Ls w vb B) (hp : isP p = true) (hAo : Ov A p) (hAl : A.length ≤ 40) (hBo : Ov B p) (hBl : B.length ≤ 17) (hl : at' B (B.length - 1) ≠ 0) :
    Calls Try.prog 33 #[va, vb, .int .i64 p] w fun e w' => ∃ vq vr, e = .returned (.tuple #[vq, vr]) ∧ Own w' w.heap.size w'.heap.size vq (dq A B p) ∧ Own w' w.heap.size w'.heap.size vr (dr A B p) ∧ Below w.heap.size w w' := by
  suffices H : ∀ P : Ending → World → Prop,
      (∀ vq vr w', Own w' w.heap.size w'.heap.size vq (dq A B p) → Own w' w.heap.size w'.heap.size vr (dr A B p) → Below w.heap.size w w' → P (.returned (.tuple #[vq, vr])) w') →
      Calls Try.prog 33 #[va, vb, .int .i64 p] w P by
    exact H _ (fun vq vr w' hq hr hb => ⟨_, _, rfl, hq, hr, hb⟩)
  intro P hps
  have HPS : Hid (∀ vq vr w', Own w' w.heap.size w'.heap.size vq (dq A B p) → Own w' w.heap.size w'.heap.size vr (dr A B p) → Below w.heap.size w w' → P (.returned (.tuple #[vq, vr])) w') := hps
  clear hps
  obtain ⟨i0, hi, hz0, hz1, hz2⟩ := info_parts info_i
  have hp2 := isP_le hp
  have HLA : Hid (Ls w va A) := ha
  have hA : 1 ≤ A.length ∧ A.length ≤ 40 := ⟨hAo.1, hAl⟩
  have hB : 1 ≤ B.length ∧ B.length ≤ 17 := ⟨hBo.1, hBl⟩
  have HA : Bd 1000000 A := hAo.bd hp2
  have HB : Bd 1000000 B := hBo.bd hp2
  have hlr := hBo.2.at (by omega) (by omega) (B.length - 1)
  have HLX : Hid (isP p = true ∧ 0 < at' B (B.length - 1) ∧ at' B (B.length - 1) < p) := ⟨hp, by omega, by omega⟩
  have HIV : Hid (1 ≤ inv (at' B (B.length - 1)) p ∧ inv (at' B (B.length - 1)) p ≤ 12) := inv_bd hp (by omega)
  clear hAo hAl hBo hBl hlr hp
  obtain ⟨ao, cap, rfl, hn, hcap, hc⟩ := ha
  obtain ⟨bo, cap1, rfl, hn1, hcap1, hc1⟩ := hb
  obtain ⟨b, off, rfl, hbw, hcell⟩ := hc (by omega)
  obtain ⟨bb, ob, rfl, hbb, hcb⟩ := hc1 (by omega)
  have CB : Hid (∀ (k : Nat) (z : Int), B[k]? = some z → w.cell? ⟨bb, ob + k, none⟩ = some (.int .i64 z)) := hcb
  have LB : Hid (bb < w.heap.size) := hbb
  have HBB : Hid (Bd 1000000 B) := HB
  have start : Hid ((w.alloc (.cells #[] 2)).ownsRow w.heap.size 2 1 (.slice (some ⟨w.heap.size, 0, none⟩) 0 0) 0 []) :=
    ⟨rfl, .inr ⟨w.heap.size, 0, #[], rfl, Nat.le_refl _, heap_alloc_new w _, by simp, by decide, rfl, rfl⟩⟩
  have news : Hid (∀ j u, (A.map (Value.int .i64))[j]? = some u → (w.alloc (.cells #[] 2)).cell? ((⟨b, off, none⟩ : Addr).add j) = some u) := fun j u hu => by
    rw [List.getElem?_map] at hu
    cases hz : A[j]? with
    | none => rw [hz] at hu; cases hu
    | some z =>
      rw [hz] at hu
      rw [Addr.add_lit, (new1 w _).cell (p := ⟨b, off + j, none⟩) hbw, ← Option.some.inj hu]
      exact hcell j z hz
  obtain ⟨la, hla⟩ : ∃ n, n = A.length := ⟨_, rfl⟩
  obtain ⟨lb, hlb⟩ : ∃ n, n = B.length := ⟨_, rfl⟩
  have HLA0 : Hid (la = A.length) := hla
  have HNE : Hid (A ≠ []) := fun e => by rw [e] at hA; simp at hA
  have len : Hid ((A.map (Value.int .i64)).length = la * 1) := by show _ = _; rw [List.length_map]; omega
  have done : Hid (∀ v' w1, w1.ownsRow w.heap.size 2 1 v' (0 + la) ([] ++ A.map (Value.int .i64)) → (w.alloc (.cells #[] 2)).grownBy w1 (some w.heap.size) → Own w1 w.heap.size w1.heap.size v' A ∧ Below w.heap.size w w1) := fun v' w1 ho hg => by
    rw [Nat.zero_add, List.nil_append, hla] at ho
    exact ⟨Own.of_row ho hn (Nat.le_refl _), (new1 w _).grown hg (by simp) (fun j hj => by injection hj with hj; omega)⟩
  by_cases hs : A.length < B.length
  · have HD : Hid (dr A B p = trim A ∧ dq A B p = [0]) := dr_id hs
    have HAL : Hid (A.length ≤ 40) := hA.2
    rw [← hla] at hn hcap hA hs HLA ⊢
    rw [← hlb] at hn1 hcap1 hB hs ⊢
    clear hc hc1 hcell hcb hbw hbb HA HB hla hlb hl
    go_enter Try.func33, Try.ntmps33
    go_wp2_with (first
      | (at_builtin; refine wpList_append_own _ rfl (.tmp 17) (.tmp 18) 22 rfl w.heap.size 2 i0 (.int .i64 0) 1 8 Try.underlying22 hi hz0 hz1 hz2 rfl (by decide) _ 0 [] rfl start.out ⟨b, off, none⟩ la cap _ rfl len.out news.out one_of_map (by unfold maxLen; omega) (by omega) (by simp) ?_; intro v' w1 hown' hgrow _; obtain ⟨o1, b1⟩ := done.out _ _ hown' hgrow; obtain ⟨g1, cp1, rfl, hg1, hg2, hcp, hg3⟩ := o1.block HNE.out; have O1 : Hid (Own w1 w.heap.size w1.heap.size (.slice (some ⟨g1, 0, none⟩) A.length cp1) A) := o1; have B1 : Hid (Below w.heap.size w w1) := b1; have HG1 : Hid (w.heap.size ≤ g1 ∧ g1 < w1.heap.size) := ⟨hg1, hg2⟩; clear o1 b1 hg1 hg2 hcp hg3 hown' hgrow; rw [← HLA0.out] at O1 ⊢))
    have HR := World.ownsRow_lit (base := w1.heap.size) (e := 2) (size := 1) w1 #[.int .i64 0] 1 (Nat.le_refl _) (by decide) rfl
    have HO : Hid (Own (w1.alloc (.cells #[.int .i64 0] 2)) w1.heap.size (w1.alloc (.cells #[.int .i64 0] 2)).heap.size (.slice (some ⟨w1.heap.size, 0, none⟩) 1 1) [0]) := Own.of_row HR (by decide) (Nat.le_refl _)
    clear HR
    refine (trim_any ((O1.out.ls (Nat.le_refl _)).below (new1 _ _)) (by have := HAL.out; omega)).mono ?_
    rintro e w2 ⟨v2, rfl, o2, b2⟩
    have hbs := b2.size
    simp only [World.size_alloc] at hbs
    have O2 : Hid (Own w2 w.heap.size w2.heap.size v2 (trim A)) := o2.wide (by have := B1.out.size; simp; omega) (Nat.le_refl _)
    have O3 : Hid (Own w2 w.heap.size w2.heap.size (.slice (some ⟨w1.heap.size, 0, none⟩) 1 1) [0]) := (HO.out.kept b2).wide B1.out.size (by simp; omega)
    have B3 : Hid (Below w.heap.size w w2) := B1.out.trans (((new1 w1 _).trans (b2.mono (by simp))).mono B1.out.size)
    clear o2 b2
    go_wp2_with fail
    exact HPS.out _ _ _ (by rw [HD.out.2]; exact O3.out) (by rw [HD.out.1]; exact O2.out) B3.out
  obtain ⟨nb, hnb⟩ : ∃ n, n + 1 = lb := ⟨lb - 1, by omega⟩
  obtain ⟨m, hm⟩ : ∃ m, m = la - nb := ⟨_, rfl⟩
  have HN : Hid (la = A.length ∧ lb = B.length ∧ nb + 1 = lb ∧ m + nb = la ∧ 1 ≤ m ∧ m ≤ 40) := ⟨hla, hlb, hnb, by omega, by omega, by omega⟩
  obtain ⟨last, hlast⟩ : ∃ l, l = at' B nb := ⟨_, rfl⟩
  have hbl : at' B (B.length - 1) = last := by rw [hlast]; congr 1; omega
  rw [hbl] at hl HLX HIV
  obtain ⟨iv, hive⟩ : ∃ i, i = inv last p := ⟨_, rfl⟩
  have HII : Hid (iv = inv last p) := hive
  rw [← hive] at HIV
  have HEX : Hid (dvo A B p = ldv (goo iv p) (fun x => md x p) B nb m (List.replicate m 0) A) := by
    show _ = _
    unfold dvo
    rw [hbl, show B.length - 1 = nb by omega, show A.length - nb = m by omega, show max 1 m = m by omega, hive]
  have elast : w.cell? ⟨bb, ob + nb, none⟩ = some (.int .i64 last) := by rw [hlast]; exact hcb _ _ (at_some B nb (by omega))
  have HEL : Hid (w.cell? ⟨bb, ob + nb, none⟩ = some (.int .i64 last)) := elast
  have HB0 : Hid (Bd (1000000 + ((m - m : Nat) : Int) * 17000000000221) A) := by show Bd _ _; rw [Nat.sub_self]; exact HA.mono (by omega)
  have HL0 : Hid ((List.replicate m (0 : Int)).length = m ∧ A.length = la) := ⟨by simp, hla.symm⟩
  rw [← hla] at hn hcap hA hs HLA ⊢
  rw [← hlb] at hn1 hcap1 hB hs ⊢
  have q3 : (la : Int) - (lb : Int) + 1 = (m : Int) := by omega
  have q4 : (la : Int) - (lb : Int) = (m : Int) - 1 := by omega
  have q5 : (lb : Int) - 1 = (nb : Int) := by omega
  have hml : m ≤ maxLen := by unfold maxLen; omega
  have hm17 : m ≤ 40 := by omega
  have hla17 := hA.2
  have hlb17 := hB.2
  have hmla : m + nb = la := by omega
  have HLBE : Hid (lb = nb + 1 ∧ m + nb = la) := ⟨by omega, hmla⟩
  have hm1 : 1 ≤ m := by omega
  have hp3 : 1 ≤ p ∧ p ≤ 13 := by omega
  clear hc hc1 hcell hcb hbw hbb HA HB hla hlb hnb hm hlast hbl elast hive hl
  go_enter Try.func33, Try.ntmps33
  go_wp2_with (first
    | (at_builtin; refine wpList_append_own _ rfl (.tmp 17) (.tmp 18) 22 rfl w.heap.size 2 i0 (.int .i64 0) 1 8 Try.underlying22 hi hz0 hz1 hz2 rfl (by decide) _ 0 [] rfl start.out ⟨b, off, none⟩ la cap _ rfl len.out news.out one_of_map (by unfold maxLen; omega) (by omega) (by simp) ?_; intro v' w1 hown' hgrow _; obtain ⟨o1, b1⟩ := done.out _ _ hown' hgrow; obtain ⟨g1, cp1, rfl, hg1, hg2, hcp, hg3⟩ := o1.block HNE.out; have O1 : Hid (Own w1 w.heap.size w1.heap.size (.slice (some ⟨g1, 0, none⟩) A.length cp1) A) := o1; have B1 : Hid (Below w.heap.size w w1) := b1; have HG1 : Hid (w.heap.size ≤ g1 ∧ g1 < w1.heap.size) := ⟨hg1, hg2⟩; clear o1 b1 hg1 hg2 hcp hg3 hown' hgrow; rw [← HLA0.out] at O1 ⊢)
    | (refine wpList_make_full _ rfl (.tmp 31) (.tmp 31) 22 rfl w1.heap.size 2 i0 (.int .i64 0) 1 Try.underlying22 hi hz0 hz1 .i64 .i64 _ _ m rfl rfl rfl rfl (by rw [hz2]; omega) hml (Nat.le_refl _) ?_; intro wc hown hgrow; have eL : wc.cell? ⟨bb, ob + nb, none⟩ = some (.int .i64 last) := ((((Below.refl w1.heap.size w1).grown hgrow (Nat.le_refl _) (by intro k hk; cases hk)).cell (p := ⟨bb, ob + nb, none⟩) (by have := LB.out; have := B1.out.size; show bb < _; omega)).trans (B1.out.cell (p := ⟨bb, ob + nb, none⟩) LB.out)).trans HEL.out))
  refine (sinv_any last p HLX.out.1 HLX.out.2 _).mono ?_
  rintro e w2 ⟨rfl, hw2⟩
  rw [hw2, ← HII.out]
  clear hw2 eL
  rw [rep_map] at hown
  have o2 : Own wc w1.heap.size wc.heap.size (.slice (some ⟨w1.heap.size, 0, none⟩) m m) (List.replicate m 0) := by
    have h2 : wc.ownsRow w1.heap.size 2 1 (.slice (some ⟨w1.heap.size, 0, none⟩) m m) (List.replicate m (0 : Int)).length ((List.replicate m (0 : Int)).map (Value.int .i64)) := by rw [List.length_replicate]; exact hown
    have := Own.of_row h2 (by have := HN.out; simp; omega) (Nat.le_refl wc.heap.size)
    first | exact this | (rw [List.length_replicate] at this; exact this)
  have O2 : Hid (Own wc w1.heap.size wc.heap.size (.slice (some ⟨w1.heap.size, 0, none⟩) m m) (List.replicate m 0)) := o2
  have B2 : Hid (Below w1.heap.size w1 wc) := (Below.refl _ _).grown hgrow (Nat.le_refl _) (by intro k hk; cases hk)
  have HG2 : Hid (w1.heap.size < wc.heap.size) := by obtain ⟨_, _, _, _, _, h, _⟩ := O2.out.open; exact h
  have O1c : Hid (Own wc w.heap.size w1.heap.size (.slice (some ⟨g1, 0, none⟩) la cp1) A) := O1.out.kept B2.out
  have BC : Hid (Below w.heap.size w wc) := B1.out.trans (B2.out.mono B1.out.size)
  have HS1 : Hid (w.heap.size ≤ w1.heap.size ∧ w1.heap.size ≤ wc.heap.size) := ⟨B1.out.size, B2.out.size⟩
  have HT0 : Hid (Turned w.heap.size wc.heap.size wc wc) := Turned.refl _ _ _
  have HRES : Hid (ldv (goo iv p) (fun x => md x p) B nb m (List.replicate m 0) A = dvo A B p) := HEX.out.symm
  have HCB : Hid (∀ (k : Nat) (z : Int), B[k]? = some z → wc.cell? ⟨bb, ob + k, none⟩ = some (.int .i64 z)) := fun k z hz => (BC.out.cell (p := ⟨bb, ob + k, none⟩) LB.out).trans (CB.out k z hz)
  have Hq6 : Hid (∀ k : Int, k + (lb : Int) - 1 = k + (nb : Int)) := fun k => by have := HLBE.out; omega
  obtain ⟨g, hge⟩ : ∃ g, g = w1.heap.size := ⟨_, rfl⟩
  have HGE : Hid (g = w1.heap.size) := hge
  rw [← hge]
  replace O2 : Hid (Own wc w1.heap.size wc.heap.size (.slice (some ⟨g, 0, none⟩) m m) (List.replicate m 0)) := by show Own _ _ _ _ _; rw [hge]; exact O2.out
  clear o2 hown hgrow hge hi hz0 hz1 hz2 O1 CB HLA HEX HEL start news len done q3
  go_wp2_with fail
  go_loopw [12] (fun t wr => ∃ (q : Int) (j : Nat) (Q R : List Int), t = .int .i64 q ∧ j = (q + 1).toNat ∧ -50 ≤ q ∧ j ≤ m ∧ Hid (ldv (goo iv p) (fun x => md x p) B nb j Q R = dvo A B p) ∧ Hid (Bd (1000000 + ((m - j : Nat) : Int) * 17000000000221) R) ∧ Hid (Q.length = m ∧ R.length = la)
    ∧ Hid (Own wr w.heap.size w1.heap.size (.slice (some ⟨g1, 0, none⟩) la cp1) R) ∧ Hid (Own wr w1.heap.size wc.heap.size (.slice (some ⟨g, 0, none⟩) m m) Q) ∧ Hid (Turned w.heap.size wc.heap.size wc wr)) (fun t _ => (intOf t + 1).toNat)
  case atStart => exact ⟨_, m, _, _, rfl, by (have := HLBE.out; omega), by omega, by omega, HRES, HB0, HL0, O1c, O2, HT0⟩
  case round =>
    obtain ⟨q, j, Q, R, rfl, hj, hq20, hjm, hres, hbd, hlen, ho1, ho2, ht⟩ := hrel
    clear HB0 HL0
    have hbw : Hid (Below w.heap.size wc wr) := ht.out.below (Nat.le_refl _) (by have := HS1.out; omega)
    by_cases hlt : 0 ≤ q
    · obtain ⟨k, rfl⟩ : ∃ k : Nat, q = (k : Int) := ⟨q.toNat, by omega⟩
      have hjk : j = k + 1 := by omega
      subst hjk
      clear hj
      have hkn : k + nb < la := by have := HLBE.out; omega
      have hklq : k < m := by omega
      have e1 : wr.cell? ⟨g1, k + nb, none⟩ = some (.int .i64 (at' R (k + nb))) := ho1.out.cell (at_some R _ (by have := hlen.out; omega))
      have hmj : m - (k + 1) ≤ 40 := by omega
      have hR := hbd.out (k + nb)
      have HYES : Hid (∀ t, goo iv p (at' R (k + nb)) = some t → ldv (goo iv p) (fun x => md x p) B nb k (Q.set k t) (aw (fun x => md x p) R B k t (nb + 1)) = dvo A B p) := fun t h => by rw [← hres.out, ldv_some h]
      obtain ⟨x, hx⟩ : ∃ x, x = at' R (k + nb) := ⟨_, rfl⟩
      rw [← hx] at e1 hR HYES
      have hxi := mul_ab (A := 1000000000000000) (B := 13) (a := x) (b := iv) (by omega) (by have := HIV.out; omega)
      have htm := tm_range (x * iv) (p := p) (by omega)
      obtain ⟨y, hy⟩ : ∃ y, y = x * iv := ⟨_, rfl⟩
      obtain ⟨t, hte⟩ : ∃ t, t = Int.tmod (x * iv) p := ⟨_, rfl⟩
      have HYE : Hid (ldv (goo iv p) (fun x => md x p) B nb k (Q.set k t) (aw (fun x => md x p) R B k t (nb + 1)) = dvo A B p) := HYES.out t (by rw [goo_eq, hte])
      have HTB : Hid (-1000000 ≤ t ∧ t ≤ 1000000) := by show _ ∧ _; rw [hte]; exact tmod_bd13 hp3
      rw [← hte] at htm
      rw [← hy] at hxi
      have w1x : IntKind.i64.wrap (x * iv) = y := by rw [← hy]; exact IntWalk.i64_in _ (by omega)
      have w1x' : wrap64 (x * iv) = y := by rw [← hy]; exact IntWalk.wrap64_in _ (by omega)
      rw [← hy] at hte
      have w1t : IntKind.i64.wrap (Int.tmod y p) = t := by rw [← hte]; exact IntWalk.i64_in _ (by omega)
      have w1t' : wrap64 (Int.tmod y p) = t := by rw [← hte]; exact IntWalk.wrap64_in _ (by omega)
      have w1u : Int.tmod y p = t := hte.symm
      have q7 := Hq6.out (k : Int)
      have hpb : (p == 0) = false := by rw [beq_eq_false_iff_ne]; omega
      have e2 : wr.cell? ⟨g, k, none⟩ = some (.int .i64 (at' Q k)) := ho2.out.cell (at_some Q _ (by have := hlen.out; omega))
      have e3 : wr.frozen? ⟨g, k, none⟩ = false := ho2.out.free k
      have hst := store_int (b := t) e2 e3
      have P1 : Hid (Own (wr.setCell ⟨g, k, none⟩ (.int .i64 t)) w.heap.size w1.heap.size (.slice (some ⟨g1, 0, none⟩) la cp1) R) := ho1.out.other (.inr (by have := HGE.out; omega)) _
      have P2 : Hid (Own (wr.setCell ⟨g, k, none⟩ (.int .i64 t)) w1.heap.size wc.heap.size (.slice (some ⟨g, 0, none⟩) m m) (Q.set k t)) := ho2.out.put k t
      have P3 : Hid (Turned w.heap.size wc.heap.size wc (wr.setCell ⟨g, k, none⟩ (.int .i64 t))) := ht.out.setCell (by have := HGE.out; have := HS1.out; omega) (by have := HGE.out; have := HG2.out; omega) _
      have HLQ : Hid ((Q.set k t).length = m) := by show _ = _; rw [List.length_set]; exact hlen.out.1
      obtain ⟨Q', hQ'⟩ : ∃ Q', Q' = Q.set k t := ⟨_, rfl⟩
      rw [← hQ'] at HYE P2 HLQ
      clear hQ' ho1 ho2 ht HYES hx hR hxi htm hy hte
      go_wp2_with fail
      clear w1x w1x' w1t w1t' w1u e1 e2 e3 hst hpb
      go_loopw [65] (fun i wr => ∃ i' : Nat, i' ≤ nb + 1 ∧ i = .int .i64 (i' : Int) ∧ Hid (Own wr w.heap.size w1.heap.size (.slice (some ⟨g1, 0, none⟩) la cp1) (aw (fun x => md x p) R B k t i')) ∧ Hid (Own wr w1.heap.size wc.heap.size (.slice (some ⟨g, 0, none⟩) m m) Q') ∧ Hid (Turned w.heap.size wc.heap.size wc wr)) (fun i _ => nb + 1 - (intOf i).toNat)
      case atStart => exact ⟨0, by omega, rfl, P1, P2, P3⟩
      case round =>
        clear P1 P2 P3
        obtain ⟨i, hi, rfl, ho1, ho2, ht⟩ := hrel
        have hbs : Hid (Below w.heap.size wc wr) := ht.out.below (Nat.le_refl _) (by have := HS1.out; omega)
        by_cases hil : i < nb + 1
        · have e1 : wr.cell? ⟨bb, ob + i, none⟩ = some (.int .i64 (at' B i)) := (hbs.out.cell (p := ⟨bb, ob + i, none⟩) LB.out).trans (HCB.out i _ (at_some B i (by have := HN.out; omega)))
          have e2 : wr.cell? ⟨g1, k + i, none⟩ = some (.int .i64 (at' (aw (fun x => md x p) R B k t i) (k + i))) := ho1.out.cell (at_some _ _ (by rw [aw_len]; have := hlen.out; omega))
          have e3 : wr.frozen? ⟨g1, k + i, none⟩ = false := ho1.out.free (k + i)
          have hC : ∀ k, -1000000000000 ≤ t * at' B k ∧ t * at' B k ≤ 1000000000000 := fun k => by have := mul_ab (A := 1000000) (B := 1000000) HTB.out (HBB.out k); omega
          have hav := aw_bd (kp := fun x => md x p) (C := 1000000000000) (i := k) (Kp.md hp3) hbd.out (by omega) hC i (k + i)
          have hbi := hC i
          have hmj2 : m - (k + 1) ≤ 40 := by omega
          have PUT : Hid (∀ v, v = md (at' (aw (fun x => md x p) R B k t i) (k + i) - t * at' B i) p → Own (wr.drew.setCell ⟨g1, k + i, none⟩ (.int .i64 v)) w.heap.size w1.heap.size (.slice (some ⟨g1, 0, none⟩) la cp1) (aw (fun x => md x p) R B k t (i + 1))) := fun v hv => by
            subst hv
            have ho1' : Own wr.drew w.heap.size w1.heap.size (.slice (some ⟨g1, 0, none⟩) la cp1) (aw (fun x => md x p) R B k t i) := ho1.out.stay fun _ _ _ _ => rfl
            exact ho1'.put (k + i) _
          obtain ⟨a, ha⟩ : ∃ a, a = at' (aw (fun x => md x p) R B k t i) (k + i) := ⟨_, rfl⟩
          rw [← ha] at e2 hav PUT
          obtain ⟨y, hy⟩ : ∃ y, y = at' B i := ⟨_, rfl⟩
          rw [← hy] at e1 hbi PUT
          obtain ⟨d, hd⟩ : ∃ d, d = a - t * y := ⟨_, rfl⟩
          rw [← hd] at PUT
          have w2 : IntKind.i64.wrap (t * y) = t * y := IntWalk.i64_in _ (by omega)
          have w2' : wrap64 (t * y) = t * y := IntWalk.wrap64_in _ (by omega)
          have w3 : IntKind.i64.wrap (a - t * y) = d := by rw [← hd]; exact IntWalk.i64_in _ (by omega)
          have w3' : wrap64 (a - t * y) = d := by rw [← hd]; exact IntWalk.wrap64_in _ (by omega)
          obtain ⟨v, hv⟩ : ∃ v, v = md d p := ⟨_, rfl⟩
          have HVV : Hid (v = md d p) := hv
          have HO1 : Hid (Own (wr.drew.setCell ⟨g1, k + i, none⟩ (.int .i64 v)) w.heap.size w1.heap.size (.slice (some ⟨g1, 0, none⟩) la cp1) (aw (fun x => md x p) R B k t (i + 1))) := PUT.out v hv
          have HO2 : Hid (Own (wr.drew.setCell ⟨g1, k + i, none⟩ (.int .i64 v)) w1.heap.size wc.heap.size (.slice (some ⟨g, 0, none⟩) m m) Q') := (show Own wr.drew _ _ _ _ from ho2.out.stay fun _ _ _ _ => rfl).other (.inl HG1.out.2) _
          have HT1 : Hid (Turned w.heap.size wc.heap.size wc (wr.drew.setCell ⟨g1, k + i, none⟩ (.int .i64 v))) := (show Turned w.heap.size wc.heap.size wc wr.drew from ⟨ht.out.os, ht.out.tape, ht.out.output, ht.out.size, ht.out.block⟩).setCell HG1.out.1 (by have := HG1.out; have := HS1.out; omega) _
          have hst := store_int (b := v) (show wr.drew.cell? _ = _ from e2) (show wr.drew.frozen? _ = _ from e3)
          have HMD : Hid (∀ w, Calls Try.prog 30 #[.int .i64 d, .int .i64 p] w fun e w' => e = .returned (.int .i64 v) ∧ w' = w) := fun w => by rw [hv]; exact md_any d p (by omega) w
          have d1 : IntKind.i64.wrap ((k : Int) + (i : Int)) = (k : Int) + (i : Int) := IntWalk.i64_in _ (by omega)
          have d2 : (0 : Int) ≤ (k : Int) + (i : Int) := by omega
          have d3 : ((k : Int) + (i : Int)).toNat = k + i := by omega
          have d4 : k + i < la := by have := HLBE.out; omega
          have d5 : (k : Int) + (i : Int) < (la : Int) := by omega
          have d6 : (i : Int) < (lb : Int) := by have := HLBE.out; omega
          clear ha hy hd hav hbi hC PUT ho1 ho2 ht hv
          go_wp2_with fail
          go_region_law (first | (go_simp; go_at_call 30; refine (HMD.out _).mono ?_; rintro e w0 ⟨rfl, hw0⟩; rw [hw0]; clear hw0))
          all_goals (go_wp2; go_roundw; (case rel => exact ⟨i + 1, by omega, by go_num, HO1, HO2, HT1⟩); (case measure => simp [intOf]; omega))
        · obtain rfl : i = nb + 1 := by omega
          have HBN : Hid (Bd (1000000 + ((m - k : Nat) : Int) * 17000000000221) (aw (fun x => md x p) R B k t (nb + 1))) := by
            have hC : ∀ k, -1000000000000 ≤ t * at' B k ∧ t * at' B k ≤ 1000000000000 := fun k => by have := mul_ab (A := 1000000) (B := 1000000) HTB.out (HBB.out k); omega
            refine (aw_bd (kp := fun x => md x p) (C := 1000000000000) (i := k) (Kp.md hp3) hbd.out (by omega) hC (nb + 1)).mono ?_
            have : m - k = (m - (k + 1)) + 1 := by omega
            omega
          have HLN : Hid (Q'.length = m ∧ (aw (fun x => md x p) R B k t (nb + 1)).length = la) := ⟨HLQ.out, by rw [aw_len]; exact hlen.out.2⟩
          go_wp2_with fail
          go_roundw
          case rel => exact ⟨(k : Int) - 1, k, _, _, by first | rfl | (go_num; done), by omega, by omega, by omega, HYE, HBN, HLN, ho1, ho2, ht⟩
          case measure => simp [intOf]; try omega
    · have hj0 : j = 0 := by omega
      subst hj0
      clear hj
      have HRS : Hid (dvo A B p = some (Q, R)) := by show _ = _; rw [← hres.out]; rfl
      have hlt' : q < 0 := by omega
      have HD : Hid (dq A B p = trim Q ∧ dr A B p = trim R) := dq_of HRS.out
      have F2 : Hid (Own wr w.heap.size wr.heap.size (.slice (some ⟨g, 0, none⟩) m m) Q) := ho2.out.wide HS1.out.1 ht.out.size
      have F1 : Hid (Own wr w.heap.size wr.heap.size (.slice (some ⟨g1, 0, none⟩) la cp1) R) := ho1.out.wide (Nat.le_refl _) (by have := HS1.out; have := ht.out.size; omega)
      have HBF : Hid (Below w.heap.size w wr) := BC.out.trans hbw.out
      obtain ⟨wf, hwf⟩ : ∃ x, x = wr := ⟨_, rfl⟩
      rw [← hwf] at F1 F2 HBF ⊢
      clear hres hbd ho1 ho2 ht hbw hwf HRES O1c O2 HT0 BC B2 B1
      go_wp2_with fail
      refine (trim_any (F2.out.ls (Nat.le_refl _)) (by have := hlen.out; omega)).mono ?_
      rintro e w4 ⟨v4, rfl, o4, b4⟩
      have O4 : Hid (Own w4 w.heap.size w4.heap.size v4 (trim Q)) := o4.wide HBF.out.size (Nat.le_refl _)
      have F3 : Hid (Ls w4 (.slice (some ⟨g1, 0, none⟩) la cp1) R) := (F1.out.ls (Nat.le_refl _)).below b4
      have HB4 : Hid (Below w.heap.size w w4) := HBF.out.trans (b4.mono HBF.out.size)
      clear o4 b4
      go_wp2_with fail
      refine (trim_any F3.out (by have := hlen.out; omega)).mono ?_
      rintro e w5 ⟨v5, rfl, o5, b5⟩
      have O5 : Hid (Own w5 w.heap.size w5.heap.size v5 (trim R)) := o5.wide HB4.out.size (Nat.le_refl _)
      have O6 : Hid (Own w5 w.heap.size w5.heap.size v4 (trim Q)) := (O4.out.kept b5).wide (Nat.le_refl _) b5.size
      have HB5 : Hid (Below w.heap.size w w5) := HB4.out.trans (b5.mono HB4.out.size)
      clear o5 b5
      go_wp2_with fail
      exact HPS.out _ _ _ (by rw [HD.out.1]; exact O6.out) (by rw [HD.out.2]; exact O5.out) HB5.out
end Go.Proofs.Ytfhcfeafohcjpaa.wh
