/- Division over primes: the program's side. -/
import Derived.Test.YtfhcfeafohcjpaaEqF
import Derived.Test.YtfhcfeafohcjpaaPm
import Derived.Deep.LoopGhost
import Derived.Deep.RegionHeld3
namespace Go.Proofs.Ytfhcfeafohcjpaa.wh
open Go.RowKit Go.Pl

theorem inv_bd {x p : Int} (hp : isP p = true) (h : 0 < x ∧ x < p) : 1 ≤ inv x p ∧ inv x p ≤ 12 := by
  have := inv_ok hp h
  have := isP_le hp
  omega
theorem xy_bd {x y : Int} (hx : 0 < x ∧ x < 14) (hy : 0 ≤ y ∧ y ≤ 13) : -1000 ≤ x * y ∧ x * y ≤ 1000 := by
  have := mul_ab (A := 13) (B := 13) (a := x) (b := y) (by omega) (by omega)
  omega
/-- what a step of the search for an inverse does -/
theorem inv_step {x p y r : Int} {f : Nat} (h1 : y + f = 13) (h2 : y ≤ r) (h3 : r < p) (h4 : p ≤ 13) (h : invf x p f y = r) : (Int.tmod (x * y) p = 1 → y = r) ∧ (Int.tmod (x * y) p ≠ 1 → ∃ g, f = g + 1 ∧ y + 1 ≤ r ∧ invf x p g (y + 1) = r) := by
  cases f with
  | zero => omega
  | succ f =>
    refine ⟨fun e => ?_, fun e => ?_⟩
    · rw [invf_yes e] at h; exact h
    · rw [invf_no e] at h
      have := invf_ge x p f (y + 1)
      exact ⟨f, rfl, by omega, h⟩

set_option maxRecDepth 100000 in
theorem iinv_any (x p : Int) (hp : isP p = true) (hx : 0 < x ∧ x < p) (w : World) : Calls Try.prog 79 #[.int .i64 x, .int .i64 p] w fun e w' => e = .returned (.int .i64 (inv x p)) ∧ w' = w := by
  have hp2 := isP_le hp
  have HI : Hid (1 ≤ inv x p ∧ inv x p < p ∧ Int.tmod (x * inv x p) p = 1) := inv_ok hp hx
  have H0 : Hid (invf x p 12 1 = inv x p) := rfl
  obtain ⟨r, hr⟩ : ∃ r, r = inv x p := ⟨_, rfl⟩
  rw [← hr] at HI H0 ⊢
  have HP : Hid (0 < x ∧ x < 14 ∧ 2 ≤ p ∧ p ≤ 13) := ⟨by omega, by omega, by omega, by omega⟩
  have hpb : (p == 0) = false := by rw [beq_eq_false_iff_ne]; omega
  have hp2' : 2 ≤ p := hp2.1
  clear hr hx hp2
  go_enter Try.func79, Try.ntmps79
  go_wp2_with fail
  go_loop [5] (fun t => ∃ (y : Int) (f : Nat), t = .int .i64 y ∧ y + f = 13 ∧ 1 ≤ y ∧ y ≤ r ∧ Hid (invf x p f y = r)) (fun t => (13 - intOf t).toNat)
  case atStart => exact ⟨1, 12, rfl, by omega, by omega, HI.out.1, H0⟩
  case round =>
    obtain ⟨y, f, rfl, hyf, hy1, hyr, hf⟩ := hrel
    obtain ⟨k1, k2⟩ := inv_step hyf hyr HI.out.2.1 HP.out.2.2.2 hf.out
    have hbd := xy_bd (x := x) (y := y) ⟨HP.out.1, HP.out.2.1⟩ ⟨by omega, by omega⟩
    have htm := tm_range (x * y) (p := p) (by have := HP.out; omega)
    have hp13 := HP.out.2.2.2
    obtain ⟨m, hm⟩ : ∃ m, m = x * y := ⟨_, rfl⟩
    rw [← hm] at k1 k2 hbd htm
    have w1 : IntKind.i64.wrap (x * y) = m := by rw [← hm]; exact IntWalk.i64_in _ (by omega)
    have w1' : wrap64 (x * y) = m := by rw [← hm]; exact IntWalk.wrap64_in _ (by omega)
    have K1 : Hid (Int.tmod m p = 1 → y = r) := k1
    have K2 : Hid (Int.tmod m p ≠ 1 → ∃ g, f = g + 1 ∧ y + 1 ≤ r ∧ invf x p g (y + 1) = r) := k2
    have w2 : IntKind.i64.wrap (Int.tmod m p) = Int.tmod m p := IntWalk.i64_in _ (by omega)
    have w3 : IntKind.i64.wrap (y + 1) = y + 1 := IntWalk.i64_in _ (by omega)
    clear k1 k2 hbd htm hm hf
    by_cases h1 : Int.tmod m p = 1
    · have HE : Hid (y = r) := K1.out h1
      have b1 : (Int.tmod m p == 1) = true := by rw [beq_iff_eq]; exact h1
      have b2 : (Int.tmod m p != 1) = false := by rw [bne, b1]; rfl
      clear h1 K1 K2 hyr hyf
      go_wp2_with fail
      go_ret
      exact ⟨by rw [HE.out]; rfl, rfl⟩
    · obtain ⟨g, rfl, hg1, hg2⟩ := K2.out h1
      have HG : Hid (invf x p g (y + 1) = r) := hg2
      have b1 : (Int.tmod m p == 1) = false := by rw [beq_eq_false_iff_ne]; exact h1
      have b2 : (Int.tmod m p != 1) = true := by rw [bne, b1]; rfl
      clear h1 K1 K2 hg2
      go_wp2_with fail
      go_round
      case rel => exact ⟨y + 1, g, by go_num, by omega, by omega, hg1, HG⟩
      case measure => simp [intOf]; omega

theorem gv1_any {bi bp : Nat} {iv p : Int} {w : World} (h1 : w.cell? ⟨bi, 0, none⟩ = some (.int .i64 iv)) (h2 : w.cell? ⟨bp, 0, none⟩ = some (.int .i64 p)) (x : Int) (hx : -1000000000000000 ≤ x ∧ x ≤ 1000000000000000) (hiv : 0 ≤ iv ∧ iv ≤ 13) (hp : 1 ≤ p ∧ p ≤ 13) :
    Calls Try.prog 96 #[.int .i64 x, .pointer (some ⟨bi, 0, none⟩), .pointer (some ⟨bp, 0, none⟩)] w fun e w' => e = .returned (.tuple #[.int .i64 (Int.tmod (x * iv) p), .bool (gbt x)]) ∧ w' = w := by
  have hb := mul_ab (A := 1000000000000000) (B := 13) (a := x) (b := iv) hx (by omega)
  have ht := tm_range (x * iv) (p := p) (by omega)
  obtain ⟨m, hm⟩ : ∃ m, m = x * iv := ⟨_, rfl⟩
  have HM : Hid (x * iv = m) := hm.symm
  rw [← hm] at hb ht
  have w1 : IntKind.i64.wrap (x * iv) = m := by rw [← hm]; exact IntWalk.i64_in _ (by omega)
  have w1' : wrap64 (x * iv) = m := by rw [← hm]; exact IntWalk.wrap64_in _ (by omega)
  have w2 : IntKind.i64.wrap (Int.tmod m p) = Int.tmod m p := IntWalk.i64_in _ (by omega)
  have hpb : (p == 0) = false := by rw [beq_eq_false_iff_ne]; omega
  rw [HM.out]
  clear hm hb ht hx
  go_enter Try.func96, Try.ntmps96
  go_wp2_with fail
  go_ret2
  exact ⟨rfl, rfl⟩
theorem gv2_any {bp : Nat} {p : Int} {w : World} (h2 : w.cell? ⟨bp, 0, none⟩ = some (.int .i64 p)) (x : Int) (hp : 1 ≤ p ∧ p ≤ 13) :
    Calls Try.prog 97 #[.int .i64 x, .pointer (some ⟨bp, 0, none⟩)] w fun e w' => e = .returned (.int .i64 (md x p)) ∧ w' = w := by
  have HC := rem_any x p (by omega) w
  go_enter Try.func97, Try.ntmps97
  go_wp2_with fail
  refine HC.mono ?_
  rintro e w1 ⟨rfl, hw1⟩
  rw [hw1]
  clear hw1 HC
  go_wp2_with fail
  go_ret
  exact ⟨rfl, rfl⟩

set_option maxRecDepth 100000 in
set_option maxHeartbeats 6400000 in
theorem ldo_any {va vb : Value} {A B : List Int} {w : World} {bi bp : Nat} {iv p : Int} (hbi : w.cell? ⟨bi, 0, none⟩ = some (.int .i64 iv)) (hbp : w.cell? ⟨bp, 0, none⟩ = some (.int .i64 p)) (hil : bi < w.heap.size) (hpl : bp < w.heap.size) (hiv : 0 ≤ iv ∧ iv ≤ 13) (hp : 1 ≤ p ∧ p ≤ 13) (ha : Ls w va A) (hb : Ls w vb B) (hA : 1 ≤ A.length ∧ A.length ≤ 40) (hB : 1 ≤ B.length ∧ B.length ≤ 17) (HA : Bd 1000000 A) (HB : Bd 1000000 B) :
    Calls Try.prog 99 #[va, vb, .func (.func 96) #[] #[.pointer (some ⟨bi, 0, none⟩), .pointer (some ⟨bp, 0, none⟩)], .func (.func 97) #[] #[.pointer (some ⟨bp, 0, none⟩)]] w fun e w' =>
      (match ldv (goo iv p) (fun x => md x p) B (B.length - 1) (A.length - (B.length - 1)) (List.replicate (max 1 (A.length - (B.length - 1))) 0) A with
        | none => e = .returned (.tuple #[.slice none 0 0, .slice none 0 0, .bool false])
        | some S => ∃ vq vr, e = .returned (.tuple #[vq, vr, .bool true]) ∧ ∃ wm : World, (w.heap.size ≤ wm.heap.size ∧ wm.heap.size ≤ w'.heap.size) ∧ Own w' wm.heap.size w'.heap.size vq S.1 ∧ Own w' w.heap.size wm.heap.size vr S.2) ∧ Below w.heap.size w w' := by
  obtain ⟨i0, hi, hz0, hz1, hz2⟩ := info_parts info_i
  have HLA : Hid (Ls w va A) := ha
  obtain ⟨ao, cap, rfl, hn, hcap, hc⟩ := ha
  obtain ⟨bo, cap1, rfl, hn1, hcap1, hc1⟩ := hb
  obtain ⟨bb, ob, rfl, hbb, hcb⟩ := hc1 (by omega)
  have CB : Hid (∀ (k : Nat) (z : Int), B[k]? = some z → w.cell? ⟨bb, ob + k, none⟩ = some (.int .i64 z)) := hcb
  have LB : Hid (bb < w.heap.size) := hbb
  have HBA : Hid (Bd 1000000 A) := HA
  have HBB : Hid (Bd 1000000 B) := HB
  obtain ⟨la, hla⟩ : ∃ n, n = A.length := ⟨_, rfl⟩
  obtain ⟨nb, hlb⟩ : ∃ n, n + 1 = B.length := ⟨B.length - 1, by omega⟩
  obtain ⟨m, hm⟩ : ∃ m, m = la - nb := ⟨_, rfl⟩
  obtain ⟨lq, hlq⟩ : ∃ q, q = max 1 m := ⟨_, rfl⟩
  have HNE : Hid (A ≠ []) := fun e => by rw [e] at hA; simp at hA
  have HN : Hid (la = A.length ∧ nb + 1 = B.length ∧ m = la - nb ∧ lq = max 1 m ∧ 1 ≤ lq ∧ lq ≤ 40) := ⟨hla, hlb, hm, hlq, by omega, by omega⟩
  obtain ⟨RES, hRES⟩ : ∃ r, r = ldv (goo iv p) (fun x => md x p) B nb m (List.replicate lq 0) A := ⟨_, rfl⟩
  have HRES : Hid (ldv (goo iv p) (fun x => md x p) B nb m (List.replicate lq 0) A = RES) := hRES.symm
  rw [show B.length - 1 = nb by omega, ← hla, ← hm, ← hlq, ← hRES]
  rw [← hla] at hn hcap hA HLA
  rw [← hlb] at hn1 hcap1 hB
  simp only [← hlb]
  have hA2 := hA.2
  have hB2 := hB.2
  have hA1 := hA.1
  have q1 : ((nb + 1 : Nat) : Int) - 1 = (nb : Int) := by omega
  have q2 : (nb : Int) + 1 - 1 = (nb : Int) := by omega
  have hm1 : 1 < (la : Int) - (nb : Int) → (la : Int) - (nb : Int) = (m : Int) := by omega
  clear hc hc1 hcb hbb HA HB hla hlb hlq hRES hA hB hm
  suffices H : ∀ P : Ending → World → Prop, (∀ w', RES = none → Below w.heap.size w w' → P (.returned (.tuple #[.slice none 0 0, .slice none 0 0, .bool false])) w') →
      (∀ Q R vq vr (wm : World) w', RES = some (Q, R) → (w.heap.size ≤ wm.heap.size ∧ wm.heap.size ≤ w'.heap.size) → Own w' wm.heap.size w'.heap.size vq Q → Own w' w.heap.size wm.heap.size vr R → Below w.heap.size w w' → P (.returned (.tuple #[vq, vr, .bool true])) w') →
      Calls Try.prog 99 #[.slice ao la cap, .slice (some ⟨bb, ob, none⟩) (nb + 1) cap1, .func (.func 96) #[] #[.pointer (some ⟨bi, 0, none⟩), .pointer (some ⟨bp, 0, none⟩)], .func (.func 97) #[] #[.pointer (some ⟨bp, 0, none⟩)]] w P by
    refine H _ (fun w' h hb => ⟨by rw [h], hb⟩) (fun Q R vq vr wm w' h hm hq hr hb => ⟨?_, hb⟩)
    rw [h]
    exact ⟨vq, vr, rfl, wm, hm, hq, hr⟩
  intro P hpn hps
  have HPN : Hid (∀ w', RES = none → Below w.heap.size w w' → P (.returned (.tuple #[.slice none 0 0, .slice none 0 0, .bool false])) w') := hpn
  have HPS : Hid (∀ Q R vq vr (wm : World) w', RES = some (Q, R) → (w.heap.size ≤ wm.heap.size ∧ wm.heap.size ≤ w'.heap.size) → Own w' wm.heap.size w'.heap.size vq Q → Own w' w.heap.size wm.heap.size vr R → Below w.heap.size w w' → P (.returned (.tuple #[vq, vr, .bool true])) w') := hps
  clear hpn hps
  go_enter Try.func99, Try.ntmps99
  go_wp2_with fail
  refine (clone_any HLA.out HNE.out (by have := HN.out; omega)).mono ?_
  rintro e w1 ⟨v1, rfl, o1, b1⟩
  obtain ⟨g1, cp1, rfl, hg1, hg2, hcp, hg3⟩ := o1.block HNE.out
  have O1 : Hid (Own w1 w.heap.size w1.heap.size (.slice (some ⟨g1, 0, none⟩) A.length cp1) A) := o1
  have B1 : Hid (Below w.heap.size w w1) := b1
  have HG1 : Hid (w.heap.size ≤ g1 ∧ g1 < w1.heap.size) := ⟨hg1, hg2⟩
  clear o1 b1 hg1 hg2 hcp hg3
  rw [← HN.out.1] at O1 ⊢
  go_upto_region 3 with fail
  go_cut [13] (fun v wc => ∃ g, v = .slice (some ⟨g, 0, none⟩) lq lq ∧ Hid (w1.heap.size ≤ g ∧ Own wc w1.heap.size wc.heap.size (.slice (some ⟨g, 0, none⟩) lq lq) (List.replicate lq 0)) ∧ Hid (Below w1.heap.size w1 wc))
  case first =>
    have fin : ∀ (n : Nat) (wm : World), n = lq → wm.ownsRow w1.heap.size 2 1 (.slice (some ⟨w1.heap.size, 0, none⟩) n n) n (madeCells (Value.int .i64 0).cells (n * 1)).toList → w1.grownBy wm none →
        (∃ g, (Value.slice (some ⟨w1.heap.size, 0, none⟩) n n) = .slice (some ⟨g, 0, none⟩) lq lq ∧ Hid (w1.heap.size ≤ g ∧ Own wm w1.heap.size wm.heap.size (.slice (some ⟨g, 0, none⟩) lq lq) (List.replicate lq 0)) ∧ Hid (Below w1.heap.size w1 wm)) := fun n wm e ho hg => by
      subst e
      rw [rep_map] at ho
      refine ⟨_, rfl, ⟨Nat.le_refl _, ?_⟩, (Below.refl _ _).grown hg (Nat.le_refl _) (by intro k hk; cases hk)⟩
      have h2 : wm.ownsRow w1.heap.size 2 1 (.slice (some ⟨w1.heap.size, 0, none⟩) n n) (List.replicate n (0 : Int)).length ((List.replicate n (0 : Int)).map (Value.int .i64)) := by rw [List.length_replicate]; exact ho
      have := Own.of_row h2 (by have := HN.out; simp; omega) (Nat.le_refl wm.heap.size)
      exact this
    have FIN : Hid (∀ (n : Nat) (wm : World), n = lq → wm.ownsRow w1.heap.size 2 1 (.slice (some ⟨w1.heap.size, 0, none⟩) n n) n (madeCells (Value.int .i64 0).cells (n * 1)).toList → w1.grownBy wm none →
        (∃ g, (Value.slice (some ⟨w1.heap.size, 0, none⟩) n n) = .slice (some ⟨g, 0, none⟩) lq lq ∧ Hid (w1.heap.size ≤ g ∧ Own wm w1.heap.size wm.heap.size (.slice (some ⟨g, 0, none⟩) lq lq) (List.replicate lq 0)) ∧ Hid (Below w1.heap.size w1 wm))) := fin
    clear fin
    by_cases h1 : 1 < (la : Int) - (nb : Int)
    · have q3 := hm1 h1
      have hml : m ≤ maxLen := by unfold maxLen; omega
      have h1' : (1 : Int) < (m : Int) := by omega
      go_wp2_with (first | (refine wpList_make_full _ rfl (.tmp 28) (.tmp 28) 22 rfl w1.heap.size 2 i0 (.int .i64 0) 1 Try.underlying22 hi hz0 hz1 .i64 .i64 _ _ m rfl rfl rfl rfl (by rw [hz2]; omega) hml (Nat.le_refl _) ?_; intro wm hown hgrow))
      all_goals (go_meet; exact FIN.out _ _ (by have := HN.out; omega) hown hgrow)
    · have hml : 1 ≤ maxLen := by unfold maxLen; omega
      by_cases h2 : (la : Int) - (nb : Int) = 1
      · go_wp2_with (first | (refine wpList_make_full _ rfl (.tmp 28) (.tmp 28) 22 rfl w1.heap.size 2 i0 (.int .i64 0) 1 Try.underlying22 hi hz0 hz1 .i64 .i64 _ _ 1 rfl rfl rfl rfl (by rw [hz2]; omega) hml (Nat.le_refl _) ?_; intro wm hown hgrow))
        all_goals (go_meet; exact FIN.out _ _ (by have := HN.out; omega) hown hgrow)
      · have h3 : (la : Int) - (nb : Int) < 1 := by omega
        go_wp2_with (first | (refine wpList_make_full _ rfl (.tmp 28) (.tmp 28) 22 rfl w1.heap.size 2 i0 (.int .i64 0) 1 Try.underlying22 hi hz0 hz1 .i64 .i64 _ _ 1 rfl rfl rfl rfl (by rw [hz2]; omega) hml (Nat.le_refl _) ?_; intro wm hown hgrow))
        all_goals (go_meet; exact FIN.out _ _ (by have := HN.out; omega) hown hgrow)
  case rest =>
    obtain ⟨g, rfl, hO2, hb2⟩ := hcut
    have B2 : Hid (Below w1.heap.size w1 wc) := hb2
    have O2 : Hid (Own wc w1.heap.size wc.heap.size (.slice (some ⟨g, 0, none⟩) lq lq) (List.replicate lq 0)) := hO2.out.2
    have HG2 : Hid (w1.heap.size ≤ g ∧ g < wc.heap.size) := ⟨hO2.out.1, by obtain ⟨_, _, _, _, _, h, _⟩ := O2.out.open; exact h⟩
    have O1c : Hid (Own wc w.heap.size w1.heap.size (.slice (some ⟨g1, 0, none⟩) la cp1) A) := O1.out.kept B2.out
    have BC : Hid (Below w.heap.size w wc) := B1.out.trans (B2.out.mono B1.out.size)
    have HS1 : Hid (w.heap.size ≤ w1.heap.size ∧ w1.heap.size ≤ wc.heap.size) := ⟨B1.out.size, B2.out.size⟩
    have HT0 : Hid (Turned w.heap.size wc.heap.size wc wc) := Turned.refl _ _ _
    have HB0 : Hid (Bd (1000000 + ((m - m : Nat) : Int) * 17000000000221) A) := by show Bd _ _; rw [Nat.sub_self]; exact HBA.out.mono (by omega)
    have HL0 : Hid ((List.replicate lq (0 : Int)).length = lq ∧ A.length = la) := ⟨by simp, HN.out.1.symm⟩
    have hmj : m = ((la : Int) - 1 - (nb : Int) + 1).toNat := by have := HN.out; omega
    have HM : Hid (m = la - nb) := HN.out.2.2.1
    have hm17 : m ≤ 40 := by have := HM.out; omega
    have HCB : Hid (∀ (k : Nat) (z : Int), B[k]? = some z → wc.cell? ⟨bb, ob + k, none⟩ = some (.int .i64 z)) := fun k z hz => (BC.out.cell (p := ⟨bb, ob + k, none⟩) LB.out).trans (CB.out k z hz)
    have HBX : Hid (∀ W, Below w.heap.size wc W → W.cell? ⟨bi, 0, none⟩ = some (.int .i64 iv) ∧ W.cell? ⟨bp, 0, none⟩ = some (.int .i64 p)) := fun W hW => ⟨((BC.out.trans hW).cell (p := ⟨bi, 0, none⟩) hil).trans hbi, ((BC.out.trans hW).cell (p := ⟨bp, 0, none⟩) hpl).trans hbp⟩
    clear hO2 hb2 hi hz0 hz1 hz2 O1 CB HLA hm1 HBA
    go_wp2_with fail
    go_loopw [14] (fun t wr => ∃ (q : Int) (j : Nat) (Q R : List Int), t = .int .i64 q ∧ j = (q + 1).toNat ∧ -50 ≤ q ∧ j ≤ m ∧ Hid (ldv (goo iv p) (fun x => md x p) B nb j Q R = RES) ∧ Hid (Bd (1000000 + ((m - j : Nat) : Int) * 17000000000221) R) ∧ Hid (Q.length = lq ∧ R.length = la)
      ∧ Hid (Own wr w.heap.size w1.heap.size (.slice (some ⟨g1, 0, none⟩) la cp1) R) ∧ Hid (Own wr w1.heap.size wc.heap.size (.slice (some ⟨g, 0, none⟩) lq lq) Q) ∧ Hid (Turned w.heap.size wc.heap.size wc wr)) (fun t _ => (intOf t + 1).toNat)
    case atStart => exact ⟨_, m, _, _, rfl, hmj, by omega, by omega, HRES, HB0, HL0, O1c, O2, HT0⟩
    case round =>
      obtain ⟨q, j, Q, R, rfl, hj, hq20, hjm, hres, hbd, hlen, ho1, ho2, ht⟩ := hrel
      clear HB0 HL0 hmj
      have hbw : Hid (Below w.heap.size wc wr) := ht.out.below (Nat.le_refl _) (by have := HS1.out; omega)
      by_cases hlt : 0 ≤ q
      · obtain ⟨k, rfl⟩ : ∃ k : Nat, q = (k : Int) := ⟨q.toNat, by omega⟩
        have hjk : j = k + 1 := by omega
        subst hjk
        clear hj
        have hkn : k + nb < la := by have := HM.out; omega
        have hklq : k < lq := by have := HN.out; omega
        have e1 : wr.cell? ⟨g1, k + nb, none⟩ = some (.int .i64 (at' R (k + nb))) := ho1.out.cell (at_some R _ (by have := hlen.out; omega))
        have hmj : m - (k + 1) ≤ 40 := by omega
        have hR := hbd.out (k + nb)
        have HNO : Hid (goo iv p (at' R (k + nb)) = none → RES = none) := fun h => by rw [← hres.out, ldv_none h]
        have HYES : Hid (∀ t, goo iv p (at' R (k + nb)) = some t → ldv (goo iv p) (fun x => md x p) B nb k (Q.set k t) (aw (fun x => md x p) R B k t (nb + 1)) = RES) := fun t h => by rw [← hres.out, ldv_some h]
        obtain ⟨x, hx⟩ : ∃ x, x = at' R (k + nb) := ⟨_, rfl⟩
        rw [← hx] at e1 hR HNO HYES
        have hxb : -1000000000000000 ≤ x ∧ x ≤ 1000000000000000 := by omega
        have HXB : Hid (-1000000000000000 ≤ x ∧ x ≤ 1000000000000000) := hxb
        clear hx hR
        go_wp2_with fail
        refine (gv1_any (HBX.out wr hbw.out).1 (HBX.out wr hbw.out).2 x HXB.out hiv hp).mono ?_
        rintro e w0 ⟨rfl, hw0⟩
        rw [hw0]
        clear hw0
        cases hgb : gbt x with
        | false =>
          have HRN : Hid (RES = none) := HNO.out (by unfold goo; rw [if_neg (by rw [hgb]; decide)])
          clear hgb
          go_wp2_with fail
          exact HPN.out _ HRN.out (BC.out.trans hbw.out)
        | true =>
          have HYE : Hid (ldv (goo iv p) (fun x => md x p) B nb k (Q.set k (Int.tmod (x * iv) p)) (aw (fun x => md x p) R B k (Int.tmod (x * iv) p) (nb + 1)) = RES) := HYES.out _ (by unfold goo; rw [if_pos hgb])
          have htb : -1000000 ≤ Int.tmod (x * iv) p ∧ Int.tmod (x * iv) p ≤ 1000000 := tmod_bd13 hp
          obtain ⟨t, hte⟩ : ∃ t, t = Int.tmod (x * iv) p := ⟨_, rfl⟩
          rw [← hte] at HYE htb ⊢
          have HTB : Hid (-1000000 ≤ t ∧ t ≤ 1000000) := htb
          clear hte hgb HNO HYES
          have e2 : wr.cell? ⟨g, k, none⟩ = some (.int .i64 (at' Q k)) := ho2.out.cell (at_some Q _ (by have := hlen.out; omega))
          have e3 : wr.frozen? ⟨g, k, none⟩ = false := ho2.out.free k
          have hst := store_int (b := t) e2 e3
          have P1 : Hid (Own (wr.setCell ⟨g, k, none⟩ (.int .i64 t)) w.heap.size w1.heap.size (.slice (some ⟨g1, 0, none⟩) la cp1) R) := ho1.out.other (.inr HG2.out.1) _
          have P2 : Hid (Own (wr.setCell ⟨g, k, none⟩ (.int .i64 t)) w1.heap.size wc.heap.size (.slice (some ⟨g, 0, none⟩) lq lq) (Q.set k t)) := ho2.out.put k t
          have P3 : Hid (Turned w.heap.size wc.heap.size wc (wr.setCell ⟨g, k, none⟩ (.int .i64 t))) := ht.out.setCell (by have := HG2.out; have := HS1.out; omega) HG2.out.2 _
          have HLQ : Hid ((Q.set k t).length = lq) := by show _ = _; rw [List.length_set]; exact hlen.out.1
          obtain ⟨Q', hQ'⟩ : ∃ Q', Q' = Q.set k t := ⟨_, rfl⟩
          rw [← hQ'] at HYE P2 HLQ
          clear hQ' ho1 ho2 ht
          go_wp2_with fail
          go_loopw [58] (fun i wr => ∃ i' : Nat, i' ≤ nb + 1 ∧ i = .int .i64 (i' : Int) ∧ Hid (Own wr w.heap.size w1.heap.size (.slice (some ⟨g1, 0, none⟩) la cp1) (aw (fun x => md x p) R B k t i')) ∧ Hid (Own wr w1.heap.size wc.heap.size (.slice (some ⟨g, 0, none⟩) lq lq) Q') ∧ Hid (Turned w.heap.size wc.heap.size wc wr)) (fun i _ => nb + 1 - (intOf i).toNat)
          case atStart => exact ⟨0, by omega, rfl, P1, P2, P3⟩
          case round =>
            clear P1 P2 P3 e1 e2 e3 hst
            obtain ⟨i, hi, rfl, ho1, ho2, ht⟩ := hrel
            have hbs : Hid (Below w.heap.size wc wr) := ht.out.below (Nat.le_refl _) (by have := HS1.out; omega)
            by_cases hil : i < nb + 1
            · have e1 : wr.cell? ⟨bb, ob + i, none⟩ = some (.int .i64 (at' B i)) := (hbs.out.cell (p := ⟨bb, ob + i, none⟩) LB.out).trans (HCB.out i _ (at_some B i (by have := HN.out; omega)))
              have e2 : wr.cell? ⟨g1, k + i, none⟩ = some (.int .i64 (at' (aw (fun x => md x p) R B k t i) (k + i))) := ho1.out.cell (at_some _ _ (by rw [aw_len]; have := hlen.out; omega))
              have e3 : wr.frozen? ⟨g1, k + i, none⟩ = false := ho1.out.free (k + i)
              have hC : ∀ k, -1000000000000 ≤ t * at' B k ∧ t * at' B k ≤ 1000000000000 := fun k => by have := mul_ab (A := 1000000) (B := 1000000) HTB.out (HBB.out k); omega
              have hav := aw_bd (kp := fun x => md x p) (C := 1000000000000) (i := k) (Kp.md hp) hbd.out (by omega) hC i (k + i)
              have hbi := hC i
              have hmj2 : m - (k + 1) ≤ 40 := by omega
              have PUT : Hid (∀ v, v = (fun x => md x p) (at' (aw (fun x => md x p) R B k t i) (k + i) - t * at' B i) → Own (wr.setCell ⟨g1, k + i, none⟩ (.int .i64 v)) w.heap.size w1.heap.size (.slice (some ⟨g1, 0, none⟩) la cp1) (aw (fun x => md x p) R B k t (i + 1))) := fun v hv => by
                subst hv
                exact ho1.out.put (k + i) _
              obtain ⟨a, ha⟩ : ∃ a, a = at' (aw (fun x => md x p) R B k t i) (k + i) := ⟨_, rfl⟩
              rw [← ha] at e2 hav PUT
              obtain ⟨y, hy⟩ : ∃ y, y = at' B i := ⟨_, rfl⟩
              rw [← hy] at e1 hbi PUT
              obtain ⟨d, hd⟩ : ∃ d, d = a - t * y := ⟨_, rfl⟩
              rw [← hd] at PUT
              have hdb : -1000000000000000 ≤ d ∧ d ≤ 1000000000000000 := by omega
              have HDB : Hid (-1000000000000000 ≤ d ∧ d ≤ 1000000000000000) := hdb
              have w2 : IntKind.i64.wrap (t * y) = t * y := IntWalk.i64_in _ (by omega)
              have w2' : wrap64 (t * y) = t * y := IntWalk.wrap64_in _ (by omega)
              have w3 : IntKind.i64.wrap (a - t * y) = d := by rw [← hd]; exact IntWalk.i64_in _ (by omega)
              have w3' : wrap64 (a - t * y) = d := by rw [← hd]; exact IntWalk.wrap64_in _ (by omega)
              clear ha hy hd hav hbi hC hdb
              go_wp2_with fail
              refine (gv2_any (HBX.out wr hbs.out).2 d hp).mono ?_
              rintro e w0 ⟨rfl, hw0⟩
              rw [hw0]
              clear hw0
              obtain ⟨v, hv⟩ : ∃ v, v = md d p := ⟨_, rfl⟩
              rw [← hv]
              have HO := PUT.out v hv
              have HO1 : Hid (Own (wr.setCell ⟨g1, k + i, none⟩ (.int .i64 v)) w.heap.size w1.heap.size (.slice (some ⟨g1, 0, none⟩) la cp1) (aw (fun x => md x p) R B k t (i + 1))) := HO
              have HO2 : Hid (Own (wr.setCell ⟨g1, k + i, none⟩ (.int .i64 v)) w1.heap.size wc.heap.size (.slice (some ⟨g, 0, none⟩) lq lq) Q') := ho2.out.other (.inl HG1.out.2) _
              have HT1 : Hid (Turned w.heap.size wc.heap.size wc (wr.setCell ⟨g1, k + i, none⟩ (.int .i64 v))) := ht.out.setCell HG1.out.1 (by have := HG1.out; have := HS1.out; omega) _
              have hst := store_int (b := v) e2 e3
              clear hv HO PUT ho1 ho2 ht
              go_wp2_with fail
              go_roundw
              case rel => exact ⟨i + 1, by omega, by go_num, HO1, HO2, HT1⟩
              case measure => simp [intOf]; omega
            · obtain rfl : i = nb + 1 := by omega
              have HBN : Hid (Bd (1000000 + ((m - k : Nat) : Int) * 17000000000221) (aw (fun x => md x p) R B k t (nb + 1))) := by
                have hC : ∀ k, -1000000000000 ≤ t * at' B k ∧ t * at' B k ≤ 1000000000000 := fun k => by have := mul_ab (A := 1000000) (B := 1000000) HTB.out (HBB.out k); omega
                refine (aw_bd (kp := fun x => md x p) (C := 1000000000000) (i := k) (Kp.md hp) hbd.out (by omega) hC (nb + 1)).mono ?_
                have : m - k = (m - (k + 1)) + 1 := by omega
                omega
              have HLN : Hid (Q'.length = lq ∧ (aw (fun x => md x p) R B k t (nb + 1)).length = la) := ⟨HLQ.out, by rw [aw_len]; exact hlen.out.2⟩
              go_wp2_with fail
              go_roundw
              case rel => exact ⟨(k : Int) - 1, k, _, _, by first | rfl | (go_num; done), by omega, by omega, by omega, HYE, HBN, HLN, ho1, ho2, ht⟩
              case measure => simp [intOf]; try omega
      · have hj0 : j = 0 := by omega
        subst hj0
        clear hj
        have HRS : Hid (RES = some (Q, R)) := by show _ = _; rw [← hres.out]; rfl
        have hlt' : q < 0 := by omega
        have F1 : Hid (Own wr w.heap.size w1.heap.size (.slice (some ⟨g1, 0, none⟩) la cp1) R) := ho1
        have F2 : Hid (Own wr w1.heap.size wr.heap.size (.slice (some ⟨g, 0, none⟩) lq lq) Q) := ho2.out.wide (Nat.le_refl _) ht.out.size
        have HMM : Hid (w.heap.size ≤ w1.heap.size ∧ w1.heap.size ≤ wr.heap.size) := ⟨HS1.out.1, Nat.le_trans HS1.out.2 ht.out.size⟩
        go_wp2_with fail
        exact HPS.out _ _ _ _ w1 _ HRS.out HMM.out F2.out F1.out (BC.out.trans hbw.out)

set_option maxRecDepth 100000 in
set_option maxHeartbeats 1600000 in
theorem idiv2_any {va vb : Value} {A B : List Int} {p : Int} {w : World} (ha : Ls w va A) (hb : Ls w vb B) (hp : isP p = true) (hA : Ov A p) (hAl : A.length ≤ 40) (hB : Ov B p) (hBl : B.length ≤ 17) (hl : at' B (B.length - 1) ≠ 0) :
    Calls Try.prog 76 #[va, vb, .int .i64 p] w fun e w' => ∃ vq vr, e = .returned (.tuple #[vq, vr]) ∧ (∃ wm : World, (w.heap.size ≤ wm.heap.size ∧ wm.heap.size ≤ w'.heap.size) ∧ Own w' wm.heap.size w'.heap.size vq (dq A B p) ∧ Own w' w.heap.size wm.heap.size vr (dr A B p)) ∧ Below w.heap.size w w' := by
  have hp2 := isP_le hp
  have HLA : Hid (Ls w va A) := ha
  have HLB : Hid (Ls w vb B) := hb
  obtain ⟨ao, cap, rfl⟩ := ha.shape
  obtain ⟨bo, cap1, rfl⟩ := hb.shape
  have HZ : Hid (B[B.length - 1]? = some (at' B (B.length - 1))) := at_some B _ (by have := hB.1; omega)
  have hlr := hB.2.at (by omega) (by omega) (B.length - 1)
  have HIV : Hid (1 ≤ inv (at' B (B.length - 1)) p ∧ inv (at' B (B.length - 1)) p ≤ 12) := inv_bd hp (by omega)
  have HLX : Hid (0 < at' B (B.length - 1) ∧ at' B (B.length - 1) < p) := by show _ ∧ _; omega
  have HALL : Hid (1 ≤ A.length ∧ A.length ≤ 40 ∧ 1 ≤ B.length ∧ B.length ≤ 17 ∧ Bd 1000000 A ∧ Bd 1000000 B) := ⟨hA.1, hAl, hB.1, hBl, hA.bd hp2, hB.bd hp2⟩
  have HPP : Hid (isP p = true ∧ 1 ≤ p ∧ p ≤ 13) := ⟨hp, by omega, by omega⟩
  have HE : Hid (dvo A B p = ldv (goo (inv (at' B (B.length - 1)) p) p) (fun x => md x p) B (B.length - 1) (A.length - (B.length - 1)) (List.replicate (max 1 (A.length - (B.length - 1))) 0) A) := rfl
  have HLN : Hid (∀ S, dvo A B p = some S → 1 ≤ S.1.length ∧ 1 ≤ S.2.length) := fun S hS => by
    have h1 := ldv_len _ _ _ hS
    rw [List.length_replicate] at h1
    have := hA.1
    omega
  have HDQ : Hid (∀ S, dvo A B p = some S → dq A B p = trim S.1 ∧ dr A B p = trim S.2) := fun S hS => dq_of hS
  obtain ⟨last, hlast⟩ : ∃ l, l = at' B (B.length - 1) := ⟨_, rfl⟩
  rw [← hlast] at HZ HIV HLX HE
  obtain ⟨iv, hiv⟩ : ∃ i, i = inv last p := ⟨_, rfl⟩
  have HII : Hid (iv = inv last p) := hiv
  rw [← hiv] at HIV HE
  obtain ⟨w1, hw1⟩ : ∃ x, x = w.alloc (.cells #[.int .i64 p] 2) := ⟨_, rfl⟩
  have X1 : Hid (Bx w1 w.heap.size (.int .i64 p)) := by rw [hw1]; exact Bx.new _ _ _
  have B1 : Hid (Below w.heap.size w w1) := by rw [hw1]; exact new1 _ _
  have HB1 : Hid (Ls w1 (.slice bo B.length cap1) B) := HLB.out.below B1.out
  have HA1 : Hid (Ls w1 (.slice ao A.length cap) A) := HLA.out.below B1.out
  have c1 := X1.out.cell
  clear ha hb hA hAl hB hBl hl hlr hp2 hlast hiv HLA HLB hp
  go_enter Try.func76, Try.ntmps76
  go_upto_region 1 with fail
  rw [← hw1]
  clear hw1
  have bd : Hid (Below w1.heap.size w1 w1.drew) := (Below.refl _ _).drew
  go_cut [8] (fun s wx => s = .pointer (some ⟨w1.heap.size, 0, none⟩) ∧ Hid (Bx wx w1.heap.size (.int .i64 iv) ∧ Below w1.heap.size w1 wx))
  case first =>
    go_region_held3 (fun w' => w'.cell? ⟨w.heap.size, 0, none⟩ = some (.int .i64 p) ∧ Hid (Below w1.heap.size w1 w'))
      (first
        | exact ⟨(X1.out.kept bd.out).cell, bd⟩
        | exact ⟨((X1.out.kept bd.out).alloc _).cell, bd.out.alloc bd.out.size _⟩
        | exact ⟨(((X1.out.kept bd.out).alloc _).other (by have := X1.out.lt; omega) _).cell, (bd.out.alloc bd.out.size _).setCell (by show _ ≤ _; simp) _⟩)
      (first
        | (go_at_call 59; first | (refine (last_any (HB1.out.below bd.out) HZ.out).mono ?_; rintro e w3 ⟨rfl, hw3⟩; rw [hw3]; clear hw3) | (refine (last_any ((HB1.out.below bd.out).below (new1 _ _)) HZ.out).mono ?_; rintro e w3 ⟨rfl, hw3⟩; rw [hw3]; clear hw3))
        | (go_at_call 79; refine (iinv_any last p HPP.out.1 HLX.out _).mono ?_; rintro e w3 ⟨rfl, hw3⟩; rw [hw3, ← HII.out]; clear hw3))
    all_goals (go_wp2_with fail; go_meet; exact ⟨rfl, (show Bx _ _ _ from Bx.new w1 _ _), ((Below.refl _ _).alloc (Nat.le_refl _) _).drew⟩)
  case rest =>
    obtain ⟨rfl, hcu⟩ := hcut
    have X2 : Hid (Bx wc w1.heap.size (.int .i64 iv)) := hcu.out.1
    have B2 : Hid (Below w1.heap.size w1 wc) := hcu.out.2
    have X1' : Hid (Bx wc w.heap.size (.int .i64 p)) := X1.out.kept B2.out
    have BC : Hid (Below w.heap.size w wc) := B1.out.trans (B2.out.mono B1.out.size)
    clear hcu c1
    go_wp2_with fail
    obtain ⟨a1, a2, a3, a4, a5, a6⟩ := HALL.out
    have hv0 : 0 ≤ iv ∧ iv ≤ 13 := by have := HIV.out; omega
    refine (ldo_any X2.out.cell X1'.out.cell X2.out.lt X1'.out.lt hv0 HPP.out.2 (HA1.out.below B2.out) (HB1.out.below B2.out) ⟨a1, a2⟩ ⟨a3, a4⟩ a5 a6).mono ?_
    rintro e w3 ⟨hres, b3⟩
    rw [← HE.out] at hres
    have B3 : Hid (Below w.heap.size w w3) := BC.out.trans (b3.mono BC.out.size)
    have S3 : Hid (w.heap.size ≤ wc.heap.size ∧ wc.heap.size ≤ w3.heap.size) := ⟨BC.out.size, b3.size⟩
    clear a1 a2 a3 a4 a5 a6 b3 HE hv0
    obtain ⟨S, hS⟩ := dvo_some A B p
    rw [hS] at hres
    obtain ⟨vq, vr, he, wm, hmm, oq, orr⟩ := hres
    have HMM : Hid (wc.heap.size ≤ wm.heap.size ∧ wm.heap.size ≤ w3.heap.size) := hmm
    clear hmm
    subst he
    have hln := HLN.out S hS
    have n1 : Hid (S.1 ≠ []) := ne_of_len hln.1
    have n2 : Hid (S.2 ≠ []) := ne_of_len hln.2
    have HD : Hid (dq A B p = trim S.1 ∧ dr A B p = trim S.2) := HDQ.out S hS
    have OQ : Hid (Own w3 wm.heap.size w3.heap.size vq S.1) := oq
    have OR : Hid (Own w3 wc.heap.size wm.heap.size vr S.2) := orr
    clear oq orr hln hS HLN HDQ
    obtain ⟨rao, rcap, rfl⟩ := OR.out.shape
    obtain ⟨qao, qcap, rfl⟩ := OQ.out.shape
    generalize hlq : S.1.length = lq at *
    generalize hlr : S.2.length = lr at *
    clear hlr hlq
    go_wp2_with fail
    refine (wz_any OQ.out (Nat.le_refl _) n1.out).mono ?_
    rintro e w4 ⟨v4, rfl, o4, hw4⟩
    rw [hw4]
    clear hw4
    have O4 : Hid (Own w3 wm.heap.size w3.heap.size v4 (trim S.1)) := o4
    clear o4
    go_wp2_with fail
    refine (wz_any OR.out HMM.out.2 n2.out).mono ?_
    rintro e w4 ⟨v5, rfl, o5, hw4⟩
    rw [hw4]
    clear hw4
    have O5 : Hid (Own w3 wc.heap.size wm.heap.size v5 (trim S.2)) := o5
    clear o5
    go_wp2_with fail
    go_ret2
    exact ⟨_, _, rfl, ⟨wm, ⟨Nat.le_trans S3.out.1 HMM.out.1, HMM.out.2⟩, by rw [HD.out.1]; exact O4.out, by rw [HD.out.2]; exact O5.out.wide S3.out.1 (Nat.le_refl _)⟩, B3.out⟩

theorem idiv_any {va vb : Value} {A B : List Int} {p : Int} {w : World} (ha : Ls w va A) (hb : Ls w vb B) (hp : isP p = true) (hA : Ov A p) (hAl : A.length ≤ 40) (hB : Ov B p) (hBl : B.length ≤ 17) (hl : at' B (B.length - 1) ≠ 0) :
    Calls Try.prog 76 #[va, vb, .int .i64 p] w fun e w' => ∃ vq vr, e = .returned (.tuple #[vq, vr]) ∧ Own w' w.heap.size w'.heap.size vq (dq A B p) ∧ Own w' w.heap.size w'.heap.size vr (dr A B p) ∧ Below w.heap.size w w' := by
  exact (idiv2_any ha hb hp hA hAl hB hBl hl).mono fun e w' ⟨vq, vr, he, ⟨wm, hm, h1, h2⟩, hbl⟩ => ⟨vq, vr, he, h1.wide hm.1 (Nat.le_refl _), h2.wide (Nat.le_refl _) hm.2, hbl⟩

set_option maxRecDepth 100000 in
theorem irest_any {va vb : Value} {A B : List Int} {p : Int} {w : World} (ha : Ls w va A) (hb : Ls w vb B) (hp : isP p = true) (hA : Ov A p) (hAl : A.length ≤ 40) (hB : Ov B p) (hBl : B.length ≤ 17) (hl : at' B (B.length - 1) ≠ 0) :
    Calls Try.prog 64 #[va, vb, .int .i64 p] w fun e w' => ∃ vr, e = .returned vr ∧ Own w' w.heap.size w'.heap.size vr (dr A B p) ∧ Below w.heap.size w w' := by
  have HC := idiv_any ha hb hp hA hAl hB hBl hl
  obtain ⟨ao, cap, rfl⟩ := ha.shape
  obtain ⟨bo, cap1, rfl⟩ := hb.shape
  generalize A.length = n at *
  generalize B.length = m at *
  clear ha hb hp hA hAl hB hBl hl
  go_enter Try.func64, Try.ntmps64
  go_wp2_with fail
  refine HC.mono ?_
  rintro e w1 ⟨vq, vr, rfl, oq, orr, b⟩
  have O : Hid (Own w1 w.heap.size w1.heap.size vr (dr A B p)) := orr
  have BB : Hid (Below w.heap.size w w1) := b
  obtain ⟨rao, rcap, rfl⟩ := O.out.shape
  obtain ⟨qao, qcap, rfl⟩ := oq.shape
  generalize hlq : (dq A B p).length = lq at *
  generalize hlr : (dr A B p).length = lr at *
  clear oq orr b HC hlr hlq
  go_wp2_with fail
  go_ret
  exact ⟨_, rfl, O.out, BB.out⟩
end Go.Proofs.Ytfhcfeafohcjpaa.wh
