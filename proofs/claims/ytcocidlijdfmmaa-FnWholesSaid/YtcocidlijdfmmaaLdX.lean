/- Exact long division: the program's side. -/
import Derived.Test.YtcocidlijdfmmaaSt
import Derived.Test.YtcocidlijdfmmaaFnP
import Derived.Test.YtcocidlijdfmmaaLd
import Derived.Test.YtcocidlijdfmmaaHr
import Derived.Deep.DeepCutAuto
import Derived.OwnWalk
namespace Go.Proofs.Ytcocidlijdfmmaa.wh
open Go.RowKit Go.Pl

theorem gx1_any {bx : Nat} {last : Int} {w : World} (hb : w.cell? ⟨bx, 0, none⟩ = some (.int .i64 last)) (x : Int) (hx : -1000000000000000 ≤ x ∧ x ≤ 1000000000000000) (hl : last ≠ 0) :
    Calls Try.prog 37 #[.int .i64 x, .pointer (some ⟨bx, 0, none⟩)] w fun e w' => e = .returned (.tuple #[.int .i64 (Int.tdiv x last), .bool (gbx last x)]) ∧ w' = w := by
  have h1 := tdiv_le x last
  have h2 := tdiv_mul_le x last
  have hlb : (last == 0) = false := by rw [beq_eq_false_iff_ne]; exact hl
  have HV : Hid (gbx last x = (decide (Int.tdiv x last * last = x) && decide (-1000000 ≤ Int.tdiv x last ∧ Int.tdiv x last ≤ 1000000))) := rfl
  obtain ⟨q, hq⟩ : ∃ q, q = Int.tdiv x last := ⟨_, rfl⟩
  have HQ : Hid (Int.tdiv x last = q) := hq.symm
  rw [← hq] at h1 h2 HV
  obtain ⟨p, hp⟩ : ∃ p, p = q * last := ⟨_, rfl⟩
  have HP : Hid (q * last = p) := hp.symm
  rw [← hp] at h2 HV
  have w1 : IntKind.i64.wrap (Int.tdiv x last) = q := by rw [HQ.out]; exact IntWalk.i64_in _ (by omega)
  have w1' : wrap64 (Int.tdiv x last) = q := by rw [HQ.out]; exact IntWalk.wrap64_in _ (by omega)
  have w2 : IntKind.i64.wrap (q * last) = p := by rw [HP.out]; exact IntWalk.i64_in _ (by omega)
  have w2' : wrap64 (q * last) = p := by rw [HP.out]; exact IntWalk.wrap64_in _ (by omega)
  rw [HQ.out]
  clear hq hp h1 h2
  by_cases he : p = x
  · subst he
    have HV' : Hid (gbx last p = decide (-1000000 ≤ q ∧ q ≤ 1000000)) := by show _ = _; rw [HV.out]; simp
    go_enter Try.func37, Try.ntmps37
    go_wp2_with fail
    refine (from_any q _ _ _).mono ?_
    rintro e w3 ⟨rfl, hw3⟩
    rw [hw3, ← HV'.out]
    clear hw3
    go_wp2_with fail
    go_ret2
    exact ⟨by first | rfl | simp, rfl⟩
  · have HV' : Hid (gbx last x = false) := by show _ = _; rw [HV.out, decide_eq_false he]; rfl
    go_enter Try.func37, Try.ntmps37
    go_wp2_with fail
    go_ret2
    exact ⟨by rw [HV'.out]; first | rfl | simp, rfl⟩
theorem gx2_any (x : Int) (w : World) : Calls Try.prog 38 #[.int .i64 x] w fun e w' => e = .returned (.int .i64 x) ∧ w' = w := by
  go_enter Try.func38, Try.ntmps38
  go_wp2
  go_ret
  exact ⟨rfl, rfl⟩

set_option maxRecDepth 100000 in
set_option maxHeartbeats 6400000 in
theorem ldx_any {va vb : Value} {A B : List Int} {w : World} {bx : Nat} {last : Int} (hbx : w.cell? ⟨bx, 0, none⟩ = some (.int .i64 last)) (hbl : bx < w.heap.size) (hl : last ≠ 0) (ha : Ls w va A) (hb : Ls w vb B) (hA : 1 ≤ A.length ∧ A.length ≤ 40) (hB : 1 ≤ B.length ∧ B.length ≤ 17) (HA : Bd 1000000 A) (HB : Bd 1000000 B) :
    Calls Try.prog 39 #[va, vb, .func (.func 37) #[] #[.pointer (some ⟨bx, 0, none⟩)], .func (.func 38) #[] #[]] w fun e w' =>
      (match ldv (gox last) (fun x => x) B (B.length - 1) (A.length - (B.length - 1)) (List.replicate (max 1 (A.length - (B.length - 1))) 0) A with
        | none => e = .returned (.tuple #[.slice none 0 0, .slice none 0 0, .bool false])
        | some S => ∃ vq vr, e = .returned (.tuple #[vq, vr, .bool true]) ∧ Own w' w.heap.size w'.heap.size vq S.1 ∧ Own w' w.heap.size w'.heap.size vr S.2) ∧ Below w.heap.size w w' := by
  obtain ⟨i0, hi, hz0, hz1, hz2⟩ := info_parts info_i
  have HLA : Hid (Ls w va A) := ha
  obtain ⟨ao, cap, rfl, hn, hcap, hc⟩ := ha
  obtain ⟨bo, cap1, rfl, hn1, hcap1, hc1⟩ := hb
  obtain ⟨bb, ob, rfl, hbb, hcb⟩ := hc1 (by omega)
  have CB : Hid (∀ (k : Nat) (z : Int), B[k]? = some z → w.cell? ⟨bb, ob + k, none⟩ = some (.int .i64 z)) := hcb
  have LB : Hid (bb < w.heap.size) := hbb
  have HBA : Hid (Bd 1000000 A) := HA
  have HBB : Hid (Bd 1000000 B) := HB
  obtain ⟨la, hla⟩ : ∃ n, n = A.length := ⟨_, rfl⟩
  obtain ⟨nb, hlb⟩ : ∃ n, n + 1 = B.length := ⟨B.length - 1, by omega⟩
  obtain ⟨m, hm⟩ : ∃ m, m = la - nb := ⟨_, rfl⟩
  obtain ⟨lq, hlq⟩ : ∃ q, q = max 1 m := ⟨_, rfl⟩
  have HNE : Hid (A ≠ []) := fun e => by rw [e] at hA; simp at hA
  have HN : Hid (la = A.length ∧ nb + 1 = B.length ∧ m = la - nb ∧ lq = max 1 m ∧ 1 ≤ lq ∧ lq ≤ 40) := ⟨hla, hlb, hm, hlq, by omega, by omega⟩
  obtain ⟨RES, hRES⟩ : ∃ r, r = ldv (gox last) (fun x => x) B nb m (List.replicate lq 0) A := ⟨_, rfl⟩
  have HRES : Hid (ldv (gox last) (fun x => x) B nb m (List.replicate lq 0) A = RES) := hRES.symm
  rw [show B.length - 1 = nb by omega, ← hla, ← hm, ← hlq, ← hRES]
  rw [← hla] at hn hcap hA HLA
  rw [← hlb] at hn1 hcap1 hB
  simp only [← hlb]
  have hA2 := hA.2
  have hB2 := hB.2
  have hA1 := hA.1
  have q1 : ((nb + 1 : Nat) : Int) - 1 = (nb : Int) := by omega
  have q2 : (nb : Int) + 1 - 1 = (nb : Int) := by omega
  have hm1 : 1 < (la : Int) - (nb : Int) → (la : Int) - (nb : Int) = (m : Int) := by omega
  clear hc hc1 hcb hbb HA HB hla hlb hlq hRES hA hB hm
  suffices H : ∀ P : Ending → World → Prop, (∀ w', RES = none → Below w.heap.size w w' → P (.returned (.tuple #[.slice none 0 0, .slice none 0 0, .bool false])) w') →
      (∀ Q R vq vr w', RES = some (Q, R) → Own w' w.heap.size w'.heap.size vq Q → Own w' w.heap.size w'.heap.size vr R → Below w.heap.size w w' → P (.returned (.tuple #[vq, vr, .bool true])) w') →
      Calls Try.prog 39 #[.slice ao la cap, .slice (some ⟨bb, ob, none⟩) (nb + 1) cap1, .func (.func 37) #[] #[.pointer (some ⟨bx, 0, none⟩)], .func (.func 38) #[] #[]] w P by
    refine H _ (fun w' h hb => ⟨by rw [h], hb⟩) (fun Q R vq vr w' h hq hr hb => ⟨?_, hb⟩)
    rw [h]
    exact ⟨vq, vr, rfl, hq, hr⟩
  intro P hpn hps
  have HPN : Hid (∀ w', RES = none → Below w.heap.size w w' → P (.returned (.tuple #[.slice none 0 0, .slice none 0 0, .bool false])) w') := hpn
  have HPS : Hid (∀ Q R vq vr w', RES = some (Q, R) → Own w' w.heap.size w'.heap.size vq Q → Own w' w.heap.size w'.heap.size vr R → Below w.heap.size w w' → P (.returned (.tuple #[vq, vr, .bool true])) w') := hps
  clear hpn hps
  go_enter Try.func39, Try.ntmps39
  go_wp2_with fail
  refine (clone_any HLA.out HNE.out (by have := HN.out; omega)).mono ?_
  rintro e w1 ⟨v1, rfl, o1, b1⟩
  obtain ⟨g1, cp1, rfl, hg1, hg2, hcp, hg3⟩ := o1.block HNE.out
  have O1 : Hid (Own w1 w.heap.size w1.heap.size (.slice (some ⟨g1, 0, none⟩) A.length cp1) A) := o1
  have B1 : Hid (Below w.heap.size w w1) := b1
  have HG1 : Hid (w.heap.size ≤ g1 ∧ g1 < w1.heap.size) := ⟨hg1, hg2⟩
  clear o1 b1 hg1 hg2 hcp hg3
  rw [← HN.out.1] at O1 ⊢
  go_upto_region 3 with fail
  go_cut [13] (fun v wc => ∃ g, v = .slice (some ⟨g, 0, none⟩) lq lq ∧ Hid (w1.heap.size ≤ g ∧ Own wc w1.heap.size wc.heap.size (.slice (some ⟨g, 0, none⟩) lq lq) (List.replicate lq 0)) ∧ Hid (Below w1.heap.size w1 wc))
  case first =>
    have fin : ∀ (n : Nat) (wm : World), n = lq → wm.ownsRow w1.heap.size 2 1 (.slice (some ⟨w1.heap.size, 0, none⟩) n n) n (madeCells (Value.int .i64 0).cells (n * 1)).toList → w1.grownBy wm none →
        (∃ g, (Value.slice (some ⟨w1.heap.size, 0, none⟩) n n) = .slice (some ⟨g, 0, none⟩) lq lq ∧ Hid (w1.heap.size ≤ g ∧ Own wm w1.heap.size wm.heap.size (.slice (some ⟨g, 0, none⟩) lq lq) (List.replicate lq 0)) ∧ Hid (Below w1.heap.size w1 wm)) := fun n wm e ho hg => by
      subst e
      rw [rep_map] at ho
      refine ⟨_, rfl, ⟨Nat.le_refl _, ?_⟩, (Below.refl _ _).grown hg (Nat.le_refl _) (by intro k hk; cases hk)⟩
      have h2 : wm.ownsRow w1.heap.size 2 1 (.slice (some ⟨w1.heap.size, 0, none⟩) n n) (List.replicate n (0 : Int)).length ((List.replicate n (0 : Int)).map (Value.int .i64)) := by rw [List.length_replicate]; exact ho
      have := Own.of_row h2 (by have := HN.out; simp; omega) (Nat.le_refl wm.heap.size)
      exact this
    have FIN : Hid (∀ (n : Nat) (wm : World), n = lq → wm.ownsRow w1.heap.size 2 1 (.slice (some ⟨w1.heap.size, 0, none⟩) n n) n (madeCells (Value.int .i64 0).cells (n * 1)).toList → w1.grownBy wm none →
        (∃ g, (Value.slice (some ⟨w1.heap.size, 0, none⟩) n n) = .slice (some ⟨g, 0, none⟩) lq lq ∧ Hid (w1.heap.size ≤ g ∧ Own wm w1.heap.size wm.heap.size (.slice (some ⟨g, 0, none⟩) lq lq) (List.replicate lq 0)) ∧ Hid (Below w1.heap.size w1 wm))) := fin
    clear fin
    by_cases h1 : 1 < (la : Int) - (nb : Int)
    · have q3 := hm1 h1
      have hml : m ≤ maxLen := by unfold maxLen; omega
      have h1' : (1 : Int) < (m : Int) := by omega
      go_wp2_with (first | (refine wpList_make_full _ rfl (.tmp 28) (.tmp 28) 24 rfl w1.heap.size 2 i0 (.int .i64 0) 1 Try.underlying24 hi hz0 hz1 .i64 .i64 _ _ m rfl rfl rfl rfl (by rw [hz2]; omega) hml (Nat.le_refl _) ?_; intro wm hown hgrow))
      all_goals (go_meet; exact FIN.out _ _ (by have := HN.out; omega) hown hgrow)
    · have hml : 1 ≤ maxLen := by unfold maxLen; omega
      by_cases h2 : (la : Int) - (nb : Int) = 1
      · go_wp2_with (first | (refine wpList_make_full _ rfl (.tmp 28) (.tmp 28) 24 rfl w1.heap.size 2 i0 (.int .i64 0) 1 Try.underlying24 hi hz0 hz1 .i64 .i64 _ _ 1 rfl rfl rfl rfl (by rw [hz2]; omega) hml (Nat.le_refl _) ?_; intro wm hown hgrow))
        all_goals (go_meet; exact FIN.out _ _ (by have := HN.out; omega) hown hgrow)
      · have h3 : (la : Int) - (nb : Int) < 1 := by omega
        go_wp2_with (first | (refine wpList_make_full _ rfl (.tmp 28) (.tmp 28) 24 rfl w1.heap.size 2 i0 (.int .i64 0) 1 Try.underlying24 hi hz0 hz1 .i64 .i64 _ _ 1 rfl rfl rfl rfl (by rw [hz2]; omega) hml (Nat.le_refl _) ?_; intro wm hown hgrow))
        all_goals (go_meet; exact FIN.out _ _ (by have := HN.out; omega) hown hgrow)
  case rest =>
    obtain ⟨g, rfl, hO2, hb2⟩ := hcut
    have B2 : Hid (Below w1.heap.size w1 wc) := hb2
    have O2 : Hid (Own wc w1.heap.size wc.heap.size (.slice (some ⟨g, 0, none⟩) lq lq) (List.replicate lq 0)) := hO2.out.2
    have HG2 : Hid (w1.heap.size ≤ g ∧ g < wc.heap.size) := ⟨hO2.out.1, by obtain ⟨_, _, _, _, _, h, _⟩ := O2.out.open; exact h⟩
    have O1c : Hid (Own wc w.heap.size w1.heap.size (.slice (some ⟨g1, 0, none⟩) la cp1) A) := O1.out.kept B2.out
    have BC : Hid (Below w.heap.size w wc) := B1.out.trans (B2.out.mono B1.out.size)
    have HS1 : Hid (w.heap.size ≤ w1.heap.size ∧ w1.heap.size ≤ wc.heap.size) := ⟨B1.out.size, B2.out.size⟩
    have HT0 : Hid (Turned w.heap.size wc.heap.size wc wc) := Turned.refl _ _ _
    have HB0 : Hid (Bd (1000000 + ((m - m : Nat) : Int) * 17000000000221) A) := by show Bd _ _; rw [Nat.sub_self]; exact HBA.out.mono (by omega)
    have HL0 : Hid ((List.replicate lq (0 : Int)).length = lq ∧ A.length = la) := ⟨by simp, HN.out.1.symm⟩
    have hmj : m = ((la : Int) - 1 - (nb : Int) + 1).toNat := by have := HN.out; omega
    have HM : Hid (m = la - nb) := HN.out.2.2.1
    have hm17 : m ≤ 40 := by have := HM.out; omega
    have HCB : Hid (∀ (k : Nat) (z : Int), B[k]? = some z → wc.cell? ⟨bb, ob + k, none⟩ = some (.int .i64 z)) := fun k z hz => (BC.out.cell (p := ⟨bb, ob + k, none⟩) LB.out).trans (CB.out k z hz)
    have HBX : Hid (∀ W, Below w.heap.size wc W → W.cell? ⟨bx, 0, none⟩ = some (.int .i64 last)) := fun W hW => ((BC.out.trans hW).cell (p := ⟨bx, 0, none⟩) hbl).trans hbx
    clear hO2 hb2 hi hz0 hz1 hz2 O1 CB HLA hm1 HBA
    go_wp2_with fail
    go_loopw [14] (fun t wr => ∃ (q : Int) (j : Nat) (Q R : List Int), t = .int .i64 q ∧ j = (q + 1).toNat ∧ -50 ≤ q ∧ j ≤ m ∧ Hid (ldv (gox last) (fun x => x) B nb j Q R = RES) ∧ Hid (Bd (1000000 + ((m - j : Nat) : Int) * 17000000000221) R) ∧ Hid (Q.length = lq ∧ R.length = la)
      ∧ Hid (Own wr w.heap.size w1.heap.size (.slice (some ⟨g1, 0, none⟩) la cp1) R) ∧ Hid (Own wr w1.heap.size wc.heap.size (.slice (some ⟨g, 0, none⟩) lq lq) Q) ∧ Hid (Turned w.heap.size wc.heap.size wc wr)) (fun t _ => (intOf t + 1).toNat)
    case atStart => exact ⟨_, m, _, _, rfl, hmj, by omega, by omega, HRES, HB0, HL0, O1c, O2, HT0⟩
    case round =>
      obtain ⟨q, j, Q, R, rfl, hj, hq20, hjm, hres, hbd, hlen, ho1, ho2, ht⟩ := hrel
      clear HB0 HL0 hmj
      have hbw : Hid (Below w.heap.size wc wr) := ht.out.below (Nat.le_refl _) (by have := HS1.out; omega)
      by_cases hlt : 0 ≤ q
      · obtain ⟨k, rfl⟩ : ∃ k : Nat, q = (k : Int) := ⟨q.toNat, by omega⟩
        have hjk : j = k + 1 := by omega
        subst hjk
        clear hj
        have hkn : k + nb < la := by have := HM.out; omega
        have hklq : k < lq := by have := HN.out; omega
        have e1 : wr.cell? ⟨g1, k + nb, none⟩ = some (.int .i64 (at' R (k + nb))) := ho1.out.cell (at_some R _ (by have := hlen.out; omega))
        have hmj : m - (k + 1) ≤ 40 := by omega
        have hR := hbd.out (k + nb)
        have HNO : Hid (gox last (at' R (k + nb)) = none → RES = none) := fun h => by rw [← hres.out, ldv_none h]
        have HYES : Hid (∀ t, gox last (at' R (k + nb)) = some t → ldv (gox last) (fun x => x) B nb k (Q.set k t) (aw (fun x => x) R B k t (nb + 1)) = RES) := fun t h => by rw [← hres.out, ldv_some h]
        obtain ⟨x, hx⟩ : ∃ x, x = at' R (k + nb) := ⟨_, rfl⟩
        rw [← hx] at e1 hR HNO HYES
        have hxb : -1000000000000000 ≤ x ∧ x ≤ 1000000000000000 := by omega
        have HXB : Hid (-1000000000000000 ≤ x ∧ x ≤ 1000000000000000) := hxb
        clear hx hR
        go_wp2_with fail
        refine (gx1_any (HBX.out wr hbw.out) x HXB.out hl).mono ?_
        rintro e w0 ⟨rfl, hw0⟩
        rw [hw0]
        clear hw0
        cases hgb : gbx last x with
        | false =>
          have HRN : Hid (RES = none) := HNO.out (by unfold gox; rw [if_neg (by rw [hgb]; decide)])
          clear hgb
          go_wp2_with fail
          exact HPN.out _ HRN.out (BC.out.trans hbw.out)
        | true =>
          have HYE : Hid (ldv (gox last) (fun x => x) B nb k (Q.set k (Int.tdiv x last)) (aw (fun x => x) R B k (Int.tdiv x last) (nb + 1)) = RES) := HYES.out _ (by unfold gox; rw [if_pos hgb])
          have htb : -1000000 ≤ Int.tdiv x last ∧ Int.tdiv x last ≤ 1000000 := gbx_bd hgb
          obtain ⟨t, hte⟩ : ∃ t, t = Int.tdiv x last := ⟨_, rfl⟩
          rw [← hte] at HYE htb ⊢
          have HTB : Hid (-1000000 ≤ t ∧ t ≤ 1000000) := htb
          clear hte hgb HNO HYES
          have e2 : wr.cell? ⟨g, k, none⟩ = some (.int .i64 (at' Q k)) := ho2.out.cell (at_some Q _ (by have := hlen.out; omega))
          have e3 : wr.frozen? ⟨g, k, none⟩ = false := ho2.out.free k
          have hst := store_int (b := t) e2 e3
          have P1 : Hid (Own (wr.setCell ⟨g, k, none⟩ (.int .i64 t)) w.heap.size w1.heap.size (.slice (some ⟨g1, 0, none⟩) la cp1) R) := ho1.out.other (.inr HG2.out.1) _
          have P2 : Hid (Own (wr.setCell ⟨g, k, none⟩ (.int .i64 t)) w1.heap.size wc.heap.size (.slice (some ⟨g, 0, none⟩) lq lq) (Q.set k t)) := ho2.out.put k t
          have P3 : Hid (Turned w.heap.size wc.heap.size wc (wr.setCell ⟨g, k, none⟩ (.int .i64 t))) := ht.out.setCell (by have := HG2.out; have := HS1.out; omega) HG2.out.2 _
          have HLQ : Hid ((Q.set k t).length = lq) := by show _ = _; rw [List.length_set]; exact hlen.out.1
          obtain ⟨Q', hQ'⟩ : ∃ Q', Q' = Q.set k t := ⟨_, rfl⟩
          rw [← hQ'] at HYE P2 HLQ
          clear hQ' ho1 ho2 ht
          go_wp2_with fail
          go_loopw [58] (fun i wr => ∃ i' : Nat, i' ≤ nb + 1 ∧ i = .int .i64 (i' : Int) ∧ Hid (Own wr w.heap.size w1.heap.size (.slice (some ⟨g1, 0, none⟩) la cp1) (aw (fun x => x) R B k t i')) ∧ Hid (Own wr w1.heap.size wc.heap.size (.slice (some ⟨g, 0, none⟩) lq lq) Q') ∧ Hid (Turned w.heap.size wc.heap.size wc wr)) (fun i _ => nb + 1 - (intOf i).toNat)
          case atStart => exact ⟨0, by omega, rfl, P1, P2, P3⟩
          case round =>
            clear P1 P2 P3 e1 e2 e3 hst
            obtain ⟨i, hi, rfl, ho1, ho2, ht⟩ := hrel
            have hbs : Hid (Below w.heap.size wc wr) := ht.out.below (Nat.le_refl _) (by have := HS1.out; omega)
            by_cases hil : i < nb + 1
            · have e1 : wr.cell? ⟨bb, ob + i, none⟩ = some (.int .i64 (at' B i)) := (hbs.out.cell (p := ⟨bb, ob + i, none⟩) LB.out).trans (HCB.out i _ (at_some B i (by have := HN.out; omega)))
              have e2 : wr.cell? ⟨g1, k + i, none⟩ = some (.int .i64 (at' (aw (fun x => x) R B k t i) (k + i))) := ho1.out.cell (at_some _ _ (by rw [aw_len]; have := hlen.out; omega))
              have e3 : wr.frozen? ⟨g1, k + i, none⟩ = false := ho1.out.free (k + i)
              have hC : ∀ k, -1000000000000 ≤ t * at' B k ∧ t * at' B k ≤ 1000000000000 := fun k => by have := mul_ab (A := 1000000) (B := 1000000) HTB.out (HBB.out k); omega
              have hav := aw_bd (kp := fun x => x) (C := 1000000000000) (i := k) Kp.id hbd.out (by omega) hC i (k + i)
              have hbi := hC i
              have hmj2 : m - (k + 1) ≤ 40 := by omega
              have PUT : Hid (∀ v, v = id (at' (aw (fun x => x) R B k t i) (k + i) - t * at' B i) → Own (wr.setCell ⟨g1, k + i, none⟩ (.int .i64 v)) w.heap.size w1.heap.size (.slice (some ⟨g1, 0, none⟩) la cp1) (aw (fun x => x) R B k t (i + 1))) := fun v hv => by
                subst hv
                exact ho1.out.put (k + i) _
              obtain ⟨a, ha⟩ : ∃ a, a = at' (aw (fun x => x) R B k t i) (k + i) := ⟨_, rfl⟩
              rw [← ha] at e2 hav PUT
              obtain ⟨y, hy⟩ : ∃ y, y = at' B i := ⟨_, rfl⟩
              rw [← hy] at e1 hbi PUT
              obtain ⟨d, hd⟩ : ∃ d, d = a - t * y := ⟨_, rfl⟩
              rw [← hd] at PUT
              have hdb : -1000000000000000 ≤ d ∧ d ≤ 1000000000000000 := by omega
              have HDB : Hid (-1000000000000000 ≤ d ∧ d ≤ 1000000000000000) := hdb
              have w2 : IntKind.i64.wrap (t * y) = t * y := IntWalk.i64_in _ (by omega)
              have w2' : wrap64 (t * y) = t * y := IntWalk.wrap64_in _ (by omega)
              have w3 : IntKind.i64.wrap (a - t * y) = d := by rw [← hd]; exact IntWalk.i64_in _ (by omega)
              have w3' : wrap64 (a - t * y) = d := by rw [← hd]; exact IntWalk.wrap64_in _ (by omega)
              clear ha hy hd hav hbi hC hdb
              go_wp2_with fail
              refine (gx2_any d _).mono ?_
              rintro e w0 ⟨rfl, hw0⟩
              rw [hw0]
              clear hw0
              obtain ⟨v, hv⟩ : ∃ v, v = d := ⟨_, rfl⟩
              rw [← hv]
              have HO := PUT.out v hv
              have HO1 : Hid (Own (wr.setCell ⟨g1, k + i, none⟩ (.int .i64 v)) w.heap.size w1.heap.size (.slice (some ⟨g1, 0, none⟩) la cp1) (aw (fun x => x) R B k t (i + 1))) := HO
              have HO2 : Hid (Own (wr.setCell ⟨g1, k + i, none⟩ (.int .i64 v)) w1.heap.size wc.heap.size (.slice (some ⟨g, 0, none⟩) lq lq) Q') := ho2.out.other (.inl HG1.out.2) _
              have HT1 : Hid (Turned w.heap.size wc.heap.size wc (wr.setCell ⟨g1, k + i, none⟩ (.int .i64 v))) := ht.out.setCell HG1.out.1 (by have := HG1.out; have := HS1.out; omega) _
              have hst := store_int (b := v) e2 e3
              clear hv HO PUT ho1 ho2 ht
              go_wp2_with fail
              go_roundw
              case rel => exact ⟨i + 1, by omega, by go_num, HO1, HO2, HT1⟩
              case measure => simp [intOf]; omega
            · obtain rfl : i = nb + 1 := by omega
              have HBN : Hid (Bd (1000000 + ((m - k : Nat) : Int) * 17000000000221) (aw (fun x => x) R B k t (nb + 1))) := by
                have hC : ∀ k, -1000000000000 ≤ t * at' B k ∧ t * at' B k ≤ 1000000000000 := fun k => by have := mul_ab (A := 1000000) (B := 1000000) HTB.out (HBB.out k); omega
                refine (aw_bd (kp := fun x => x) (C := 1000000000000) (i := k) Kp.id hbd.out (by omega) hC (nb + 1)).mono ?_
                have : m - k = (m - (k + 1)) + 1 := by omega
                omega
              have HLN : Hid (Q'.length = lq ∧ (aw (fun x => x) R B k t (nb + 1)).length = la) := ⟨HLQ.out, by rw [aw_len]; exact hlen.out.2⟩
              go_wp2_with fail
              go_roundw
              case rel => exact ⟨(k : Int) - 1, k, _, _, by first | rfl | (go_num; done), by omega, by omega, by omega, HYE, HBN, HLN, ho1, ho2, ht⟩
              case measure => simp [intOf]; try omega
      · have hj0 : j = 0 := by omega
        subst hj0
        clear hj
        have HRS : Hid (RES = some (Q, R)) := by show _ = _; rw [← hres.out]; rfl
        have hlt' : q < 0 := by omega
        have F1 : Hid (Own wr w.heap.size wr.heap.size (.slice (some ⟨g1, 0, none⟩) la cp1) R) := ho1.out.wide (Nat.le_refl _) (by have := HS1.out; have := ht.out.size; omega)
        have F2 : Hid (Own wr w.heap.size wr.heap.size (.slice (some ⟨g, 0, none⟩) lq lq) Q) := ho2.out.wide HS1.out.1 ht.out.size
        go_wp2_with fail
        exact HPS.out _ _ _ _ _ HRS.out F2.out F1.out (BC.out.trans hbw.out)
end Go.Proofs.Ytcocidlijdfmmaa.wh
