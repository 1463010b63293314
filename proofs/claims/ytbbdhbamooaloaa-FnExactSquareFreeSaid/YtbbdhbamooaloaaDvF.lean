/- Exact quotients: the model's side. -/
import Derived.Test.YtbbdhbamooaloaaEqF
namespace Go.Proofs.Ytbbdhbamooaloaa.wh
open Go.RowKit Go.Pl

set_option maxRecDepth 100000 in
set_option maxHeartbeats 6400000 in
theorem seq_any {va vb : Value} {A B : List Int} {w : World} (ha : Ls w va A) (hb : Ls w vb B) (hA : 1 ≤ A.length ∧ A.length ≤ 40) (hB : 1 ≤ B.length ∧ B.length ≤ 17) (HA : Bd 1000000 A) (HB : Bd 1000000 B) (hl : at' B (B.length - 1) ≠ 0) (hat : A.length = 1 ∨ A[A.length - 1]? ≠ some 0) :
    Calls Try.prog 63 #[va, vb] w fun e w' => ∃ vq, e = .returned (.tuple #[vq, .bool (exok A B)]) ∧ (exok A B = true → Own w' w.heap.size w'.heap.size vq (exq A B)) ∧ Below w.heap.size w w' := by
  suffices H : ∀ P : Ending → World → Prop, (∀ w', exok A B = false → Below w.heap.size w w' → P (.returned (.tuple #[.slice none 0 0, .bool false])) w') →
      (∀ vq w', exok A B = true → Own w' w.heap.size w'.heap.size vq (exq A B) → Below w.heap.size w w' → P (.returned (.tuple #[vq, .bool true])) w') →
      Calls Try.prog 63 #[va, vb] w P by
    exact H _ (fun w' h hb => ⟨_, by rw [h], fun h' => (by rw [h] at h'; cases h'), hb⟩) (fun vq w' h hq hb => ⟨_, by rw [h], fun _ => hq, hb⟩)
  intro P hpn hps
  have HPN : Hid (∀ w', exok A B = false → Below w.heap.size w w' → P (.returned (.tuple #[.slice none 0 0, .bool false])) w') := hpn
  have HPS : Hid (∀ vq w', exok A B = true → Own w' w.heap.size w'.heap.size vq (exq A B) → Below w.heap.size w w' → P (.returned (.tuple #[vq, .bool true])) w') := hps
  clear hpn hps
  obtain ⟨i0, hi, hz0, hz1, hz2⟩ := info_parts info_i
  have HLA : Hid (Ls w va A) := ha
  have HLB : Hid (Ls w vb B) := hb
  by_cases hz : A = [0]
  · have HE : Hid (exok A B = true ∧ exq A B = [0]) := by show _ ∧ _; rw [hz]; exact ex_zero hB.1
    obtain ⟨ao, cap, rfl⟩ := ha.shape
    obtain ⟨bo, cap1, rfl⟩ := hb.shape
    have HO : Hid (Own (w.alloc (.cells #[.int .i64 0] 2)) w.heap.size (w.alloc (.cells #[.int .i64 0] 2)).heap.size (.slice (some ⟨w.heap.size, 0, none⟩) 1 1) (exq A B)) := by
      have HR := World.ownsRow_lit (base := w.heap.size) (e := 2) (size := 1) w #[.int .i64 0] 1 (Nat.le_refl _) (by decide) rfl
      rw [HE.out.2]
      exact Own.of_row HR (by decide) (Nat.le_refl _)
    have HZ0 : Hid (A = [0]) := hz
    obtain ⟨la, hla⟩ : ∃ n, n = A.length := ⟨_, rfl⟩
    obtain ⟨lb, hlb⟩ : ∃ n, n = B.length := ⟨_, rfl⟩
    rw [← hla] at HLA ⊢
    rw [← hlb] at HLB ⊢
    clear ha hb hA hB HA HB hat hi hz0 hz1 hz2 hl hz hla hlb
    go_enter Try.func63, Try.ntmps63
    go_wp2_with fail
    refine (szero_any HLA.out).mono ?_
    rintro e w1 ⟨rfl, hw1⟩
    rw [hw1, decide_eq_true HZ0.out]
    clear hw1
    go_wp2_with fail
    exact HPS.out _ _ HE.out.1 HO.out (new1 _ _)
  have HZ : Hid (trim A ≠ [0]) := by
    show _ ≠ _
    rw [trim_id (fun e => by rw [e] at hA; simp at hA) hat]; exact hz
  by_cases hs : A.length < B.length
  · have HE : Hid (exok A B = false) := ex_short hs HZ.out
    obtain ⟨ao, cap, rfl⟩ := ha.shape
    obtain ⟨bo, cap1, rfl⟩ := hb.shape
    obtain ⟨la, hla⟩ : ∃ n, n = A.length := ⟨_, rfl⟩
    obtain ⟨lb, hlb⟩ : ∃ n, n = B.length := ⟨_, rfl⟩
    rw [← hla] at hA hs HLA ⊢
    rw [← hlb] at hB hs HLB ⊢
    clear ha hb HA HB hat hi hz0 hz1 hz2 hla hlb hl
    go_enter Try.func63, Try.ntmps63
    go_wp2_with fail
    refine (szero_any HLA.out).mono ?_
    rintro e w1 ⟨rfl, hw1⟩
    rw [hw1, decide_eq_false hz]
    clear hw1 hz
    go_wp2_with fail
    exact HPN.out _ HE.out (Below.refl _ _)
  obtain ⟨ao, cap, rfl, hn, hcap, hc⟩ := ha
  obtain ⟨bo, cap1, rfl, hn1, hcap1, hc1⟩ := hb
  obtain ⟨b, off, rfl, hbw, hcell⟩ := hc (by omega)
  obtain ⟨bb, ob, rfl, hbb, hcb⟩ := hc1 (by omega)
  have CB : Hid (∀ (k : Nat) (z : Int), B[k]? = some z → w.cell? ⟨bb, ob + k, none⟩ = some (.int .i64 z)) := hcb
  have LB : Hid (bb < w.heap.size) := hbb
  have HBB : Hid (Bd 1000000 B) := HB
  have start : Hid ((w.alloc (.cells #[] 2)).ownsRow w.heap.size 2 1 (.slice (some ⟨w.heap.size, 0, none⟩) 0 0) 0 []) :=
    ⟨rfl, .inr ⟨w.heap.size, 0, #[], rfl, Nat.le_refl _, heap_alloc_new w _, by simp, by decide, rfl, rfl⟩⟩
  have news : Hid (∀ j u, (A.map (Value.int .i64))[j]? = some u → (w.alloc (.cells #[] 2)).cell? ((⟨b, off, none⟩ : Addr).add j) = some u) := fun j u hu => by
    rw [List.getElem?_map] at hu
    cases hz : A[j]? with
    | none => rw [hz] at hu; cases hu
    | some z =>
      rw [hz] at hu
      rw [Addr.add_lit, (new1 w _).cell (p := ⟨b, off + j, none⟩) hbw, ← Option.some.inj hu]
      exact hcell j z hz
  obtain ⟨la, hla⟩ : ∃ n, n = A.length := ⟨_, rfl⟩
  obtain ⟨lb, hlb⟩ : ∃ n, n = B.length := ⟨_, rfl⟩
  obtain ⟨nb, hnb⟩ : ∃ n, n + 1 = lb := ⟨lb - 1, by omega⟩
  obtain ⟨m, hm⟩ : ∃ m, m = la - nb := ⟨_, rfl⟩
  have HNE : Hid (A ≠ []) := fun e => by rw [e] at hA; simp at hA
  have HN : Hid (la = A.length ∧ lb = B.length ∧ nb + 1 = lb ∧ m + nb = la ∧ 1 ≤ m ∧ m ≤ 40) := ⟨hla, hlb, hnb, by omega, by omega, by omega⟩
  have len : Hid ((A.map (Value.int .i64)).length = la * 1) := by show _ = _; rw [List.length_map]; omega
  have done : Hid (∀ v' w1, w1.ownsRow w.heap.size 2 1 v' (0 + la) ([] ++ A.map (Value.int .i64)) → (w.alloc (.cells #[] 2)).grownBy w1 (some w.heap.size) → Own w1 w.heap.size w1.heap.size v' A ∧ Below w.heap.size w w1) := fun v' w1 ho hg => by
    rw [Nat.zero_add, List.nil_append, hla] at ho
    exact ⟨Own.of_row ho hn (Nat.le_refl _), (new1 w _).grown hg (by simp) (fun j hj => by injection hj with hj; omega)⟩
  obtain ⟨last, hlast⟩ : ∃ l, l = at' B nb := ⟨_, rfl⟩
  have hbl : at' B (B.length - 1) = last := by rw [hlast]; congr 1; omega
  rw [hbl] at hl
  have HEX : Hid (exr A B = ldv (gox last) (fun x => x) B nb m (List.replicate m 0) A) := by
    show _ = _
    unfold exr
    rw [hbl, show B.length - 1 = nb by omega, show A.length - nb = m by omega, show max 1 m = m by omega]
  have elast : w.cell? ⟨bb, ob + nb, none⟩ = some (.int .i64 last) := by rw [hlast]; exact hcb _ _ (at_some B nb (by omega))
  have HEL : Hid (w.cell? ⟨bb, ob + nb, none⟩ = some (.int .i64 last)) := elast
  have HB0 : Hid (Bd (1000000 + ((m - m : Nat) : Int) * 17000000000221) A) := by show Bd _ _; rw [Nat.sub_self]; exact HA.mono (by omega)
  have HL0 : Hid ((List.replicate m (0 : Int)).length = m ∧ A.length = la) := ⟨by simp, hla.symm⟩
  rw [← hla] at hn hcap hA hs HLA ⊢
  rw [← hlb] at hn1 hcap1 hB hs ⊢
  have q3 : (la : Int) - (lb : Int) + 1 = (m : Int) := by omega
  have q4 : (la : Int) - (lb : Int) = (m : Int) - 1 := by omega
  have q5 : (lb : Int) - 1 = (nb : Int) := by omega
  have hml : m ≤ maxLen := by unfold maxLen; omega
  have hm17 : m ≤ 40 := by omega
  have hla17 := hA.2
  have hlb17 := hB.2
  have hmla : m + nb = la := by omega
  have hlbe : lb = nb + 1 := by omega
  have HLBE : Hid (lb = nb + 1 ∧ m + nb = la) := ⟨hlbe, hmla⟩
  have hm1 : 1 ≤ m := by omega
  clear hc hc1 hcell hcb hbw hbb HA HB hat hla hlb hnb hm hlast hbl elast HLB hlbe
  go_enter Try.func63, Try.ntmps63
  go_wp2_with fail
  refine (szero_any HLA.out).mono ?_
  rintro e w1 ⟨rfl, hw1⟩
  rw [hw1, decide_eq_false hz]
  clear hw1 hz
  go_wp2_with (first
    | (at_builtin; refine wpList_append_own _ rfl (.tmp 22) (.tmp 23) 22 rfl w.heap.size 2 i0 (.int .i64 0) 1 8 Try.underlying22 hi hz0 hz1 hz2 rfl (by decide) _ 0 [] rfl start.out ⟨b, off, none⟩ la cap _ rfl len.out news.out one_of_map (by unfold maxLen; omega) (by omega) (by simp) ?_; intro v' w1 hown' hgrow _; obtain ⟨o1, b1⟩ := done.out _ _ hown' hgrow; obtain ⟨g1, cp1, rfl, hg1, hg2, hcp, hg3⟩ := o1.block HNE.out; have O1 : Hid (Own w1 w.heap.size w1.heap.size (.slice (some ⟨g1, 0, none⟩) A.length cp1) A) := o1; have B1 : Hid (Below w.heap.size w w1) := b1; have HG1 : Hid (w.heap.size ≤ g1 ∧ g1 < w1.heap.size) := ⟨hg1, hg2⟩; clear o1 b1 hg1 hg2 hcp hg3 hown' hgrow; rw [← HN.out.1] at O1 ⊢)
    | (refine wpList_make_full _ rfl (.tmp 29) (.tmp 29) 22 rfl w1.heap.size 2 i0 (.int .i64 0) 1 Try.underlying22 hi hz0 hz1 .i64 .i64 _ _ m rfl rfl rfl rfl (by rw [hz2]; omega) hml (Nat.le_refl _) ?_; intro wc hown hgrow))
  rw [rep_map] at hown
  have o2 : Own wc w1.heap.size wc.heap.size (.slice (some ⟨w1.heap.size, 0, none⟩) m m) (List.replicate m 0) := by
    have h2 : wc.ownsRow w1.heap.size 2 1 (.slice (some ⟨w1.heap.size, 0, none⟩) m m) (List.replicate m (0 : Int)).length ((List.replicate m (0 : Int)).map (Value.int .i64)) := by rw [List.length_replicate]; exact hown
    have := Own.of_row h2 (by have := HN.out; simp; omega) (Nat.le_refl wc.heap.size)
    first | exact this | (rw [List.length_replicate] at this; exact this)
  have O2 : Hid (Own wc w1.heap.size wc.heap.size (.slice (some ⟨w1.heap.size, 0, none⟩) m m) (List.replicate m 0)) := o2
  have B2 : Hid (Below w1.heap.size w1 wc) := (Below.refl _ _).grown hgrow (Nat.le_refl _) (by intro k hk; cases hk)
  have HG2 : Hid (w1.heap.size < wc.heap.size) := by obtain ⟨_, _, _, _, _, h, _⟩ := O2.out.open; exact h
  have O1c : Hid (Own wc w.heap.size w1.heap.size (.slice (some ⟨g1, 0, none⟩) la cp1) A) := O1.out.kept B2.out
  have BC : Hid (Below w.heap.size w wc) := B1.out.trans (B2.out.mono B1.out.size)
  have HS1 : Hid (w.heap.size ≤ w1.heap.size ∧ w1.heap.size ≤ wc.heap.size) := ⟨B1.out.size, B2.out.size⟩
  have HT0 : Hid (Turned w.heap.size wc.heap.size wc wc) := Turned.refl _ _ _
  have HRES : Hid (ldv (gox last) (fun x => x) B nb m (List.replicate m 0) A = exr A B) := HEX.out.symm
  have hmj : m = ((la : Int) - (lb : Int) + 1).toNat := by have := HLBE.out; omega
  have HCB : Hid (∀ (k : Nat) (z : Int), B[k]? = some z → wc.cell? ⟨bb, ob + k, none⟩ = some (.int .i64 z)) := fun k z hz => (BC.out.cell (p := ⟨bb, ob + k, none⟩) LB.out).trans (CB.out k z hz)
  have HLC : Hid (wc.cell? ⟨bb, ob + nb, none⟩ = some (.int .i64 last)) := (BC.out.cell (p := ⟨bb, ob + nb, none⟩) LB.out).trans HEL.out
  have hlb0 : (last == 0) = false := by rw [beq_eq_false_iff_ne]; exact hl
  have HL : Hid (last ≠ 0) := hl
  have q6 : ∀ k : Int, k + (lb : Int) - 1 = k + (nb : Int) := fun k => by have := HLBE.out; omega
  have Hq6 : Hid (∀ k : Int, k + (lb : Int) - 1 = k + (nb : Int)) := q6
  clear q6
  obtain ⟨g, hge⟩ : ∃ g, g = w1.heap.size := ⟨_, rfl⟩
  have HGE : Hid (g = w1.heap.size) := hge
  rw [← hge]
  replace O2 : Hid (Own wc w1.heap.size wc.heap.size (.slice (some ⟨g, 0, none⟩) m m) (List.replicate m 0)) := by show Own _ _ _ _ _; rw [hge]; exact O2.out
  clear o2 hown hgrow hge hi hz0 hz1 hz2 O1 CB HLA HEX HEL start news len done q3 hl
  go_loopw [9] (fun t wr => ∃ (q : Int) (j : Nat) (Q R : List Int), t = .int .i64 q ∧ j = (q + 1).toNat ∧ -50 ≤ q ∧ j ≤ m ∧ Hid (ldv (gox last) (fun x => x) B nb j Q R = exr A B) ∧ Hid (Bd (1000000 + ((m - j : Nat) : Int) * 17000000000221) R) ∧ Hid (Q.length = m ∧ R.length = la)
    ∧ Hid (Own wr w.heap.size w1.heap.size (.slice (some ⟨g1, 0, none⟩) la cp1) R) ∧ Hid (Own wr w1.heap.size wc.heap.size (.slice (some ⟨g, 0, none⟩) m m) Q) ∧ Hid (Turned w.heap.size wc.heap.size wc wr)) (fun t _ => (intOf t + 1).toNat)
  case atStart => exact ⟨_, m, _, _, rfl, by (have := HLBE.out; omega), by omega, by omega, HRES, HB0, HL0, O1c, O2, HT0⟩
  case round =>
    obtain ⟨q, j, Q, R, rfl, hj, hq20, hjm, hres, hbd, hlen, ho1, ho2, ht⟩ := hrel
    clear HB0 HL0 hmj
    have hbw : Hid (Below w.heap.size wc wr) := ht.out.below (Nat.le_refl _) (by have := HS1.out; omega)
    by_cases hlt : 0 ≤ q
    · obtain ⟨k, rfl⟩ : ∃ k : Nat, q = (k : Int) := ⟨q.toNat, by omega⟩
      have hjk : j = k + 1 := by omega
      subst hjk
      clear hj
      have hkn : k + nb < la := by have := HLBE.out; omega
      have hklq : k < m := by omega
      have e0 : wr.cell? ⟨bb, ob + nb, none⟩ = some (.int .i64 last) := (hbw.out.cell (p := ⟨bb, ob + nb, none⟩) LB.out).trans HLC.out
      have e1 : wr.cell? ⟨g1, k + nb, none⟩ = some (.int .i64 (at' R (k + nb))) := ho1.out.cell (at_some R _ (by have := hlen.out; omega))
      have hmj : m - (k + 1) ≤ 40 := by omega
      have hR := hbd.out (k + nb)
      have HNO : Hid (gox last (at' R (k + nb)) = none → exok A B = false) := fun h => ex_none (by rw [← hres.out, ldv_none h])
      have HYES : Hid (∀ t, gox last (at' R (k + nb)) = some t → ldv (gox last) (fun x => x) B nb k (Q.set k t) (aw (fun x => x) R B k t (nb + 1)) = exr A B) := fun t h => by rw [← hres.out, ldv_some h]
      obtain ⟨x, hx⟩ : ∃ x, x = at' R (k + nb) := ⟨_, rfl⟩
      rw [← hx] at e1 hR HNO HYES
      have hxb : -1000000000000000 ≤ x ∧ x ≤ 1000000000000000 := by omega
      have h1 := tdiv_le x last
      have h2 : (Int.tmod x last).natAbs ≤ x.natAbs := by rw [Int.natAbs_tmod]; exact Nat.mod_le _ _
      obtain ⟨r, hr⟩ : ∃ r, r = Int.tmod x last := ⟨_, rfl⟩
      obtain ⟨t, hte⟩ : ∃ t, t = Int.tdiv x last := ⟨_, rfl⟩
      have HR0 : Hid (r = Int.tmod x last) := hr
      have HTE : Hid (t = Int.tdiv x last) := hte
      rw [← hr] at h2
      rw [← hte] at h1
      have w1r : IntKind.i64.wrap (Int.tmod x last) = r := by rw [← hr]; exact IntWalk.i64_in _ (by omega)
      have w1r' : wrap64 (Int.tmod x last) = r := by rw [← hr]; exact IntWalk.wrap64_in _ (by omega)
      have w1t : IntKind.i64.wrap (Int.tdiv x last) = t := by rw [← hte]; exact IntWalk.i64_in _ (by omega)
      have w1t' : wrap64 (Int.tdiv x last) = t := by rw [← hte]; exact IntWalk.wrap64_in _ (by omega)
      have q7 := Hq6.out (k : Int)
      clear hx hR h1 h2 hr hte hxb
      by_cases hr0 : r = 0
      case neg =>
        have HXF : Hid (exok A B = false) := HNO.out (by
          unfold gox
          rw [if_neg (by
            unfold gbx
            rw [decide_eq_false (fun h => hr0 (by rw [HR0.out]; exact (tdiv_iff _ _).1 h))]
            simp)])
        have hrb : (Int.tmod x last == 0) = false := by rw [beq_eq_false_iff_ne, ← HR0.out]; exact hr0
        have hrc : (Int.tmod x last != 0) = true := by rw [bne, hrb]; rfl
        clear w1t w1t' hr0 w1r w1r'
        go_wp2_with fail
        exact HPN.out _ HXF.out (BC.out.trans hbw.out)
      subst hr0
      have hrb : (Int.tmod x last == 0) = true := by rw [← HR0.out]; rfl
      have hrc : (Int.tmod x last != 0) = false := by rw [bne, hrb]; rfl
      clear w1r w1r'
      go_wp2_with fail
      refine (in_any t _ _ _).mono ?_
      rintro e w0 ⟨rfl, hw0⟩
      rw [hw0]
      clear hw0
      by_cases htb : -1000000 ≤ t ∧ t ≤ 1000000
      case neg =>
        have HXF : Hid (exok A B = false) := HNO.out (by
          unfold gox
          rw [if_neg (by
            unfold gbx
            rw [← HTE.out, decide_eq_false htb, Bool.and_false]
            simp)])
        rw [decide_eq_false htb]
        go_wp2_with fail
        exact HPN.out _ HXF.out (BC.out.trans hbw.out)
      rw [decide_eq_true htb]
      have HYE : Hid (ldv (gox last) (fun x => x) B nb k (Q.set k t) (aw (fun x => x) R B k t (nb + 1)) = exr A B) := HYES.out t (by
        unfold gox
        rw [if_pos (by
          unfold gbx
          rw [← HTE.out, decide_eq_true htb, Bool.and_true]
          exact decide_eq_true (by rw [HTE.out]; exact (tdiv_iff _ _).2 HR0.out.symm)), HTE.out])
      have HTB : Hid (-1000000 ≤ t ∧ t ≤ 1000000) := htb
      clear htb HNO HYES hrb hrc w1t w1t' e0 e1 HTE HR0
      have e2 : wr.cell? ⟨g, k, none⟩ = some (.int .i64 (at' Q k)) := ho2.out.cell (at_some Q _ (by have := hlen.out; omega))
      have e3 : wr.frozen? ⟨g, k, none⟩ = false := ho2.out.free k
      have hst := store_int (b := t) e2 e3
      have P1 : Hid (Own (wr.setCell ⟨g, k, none⟩ (.int .i64 t)) w.heap.size w1.heap.size (.slice (some ⟨g1, 0, none⟩) la cp1) R) := ho1.out.other (.inr (by have := HGE.out; omega)) _
      have P2 : Hid (Own (wr.setCell ⟨g, k, none⟩ (.int .i64 t)) w1.heap.size wc.heap.size (.slice (some ⟨g, 0, none⟩) m m) (Q.set k t)) := ho2.out.put k t
      have P3 : Hid (Turned w.heap.size wc.heap.size wc (wr.setCell ⟨g, k, none⟩ (.int .i64 t))) := ht.out.setCell (by have := HGE.out; have := HS1.out; omega) (by have := HGE.out; have := HG2.out; omega) _
      have HLQ : Hid ((Q.set k t).length = m) := by show _ = _; rw [List.length_set]; exact hlen.out.1
      obtain ⟨Q', hQ'⟩ : ∃ Q', Q' = Q.set k t := ⟨_, rfl⟩
      rw [← hQ'] at HYE P2 HLQ
      clear hQ' ho1 ho2 ht
      go_wp2_with fail
      go_loopw [70] (fun i wr => ∃ i' : Nat, i' ≤ nb + 1 ∧ i = .int .i64 (i' : Int) ∧ Hid (Own wr w.heap.size w1.heap.size (.slice (some ⟨g1, 0, none⟩) la cp1) (aw (fun x => x) R B k t i')) ∧ Hid (Own wr w1.heap.size wc.heap.size (.slice (some ⟨g, 0, none⟩) m m) Q') ∧ Hid (Turned w.heap.size wc.heap.size wc wr)) (fun i _ => nb + 1 - (intOf i).toNat)
      case atStart => exact ⟨0, by omega, rfl, P1, P2, P3⟩
      case round =>
        clear P1 P2 P3 e2 e3 hst
        obtain ⟨i, hi, rfl, ho1, ho2, ht⟩ := hrel
        have hbs : Hid (Below w.heap.size wc wr) := ht.out.below (Nat.le_refl _) (by have := HS1.out; omega)
        by_cases hil : i < nb + 1
        · have e1 : wr.cell? ⟨bb, ob + i, none⟩ = some (.int .i64 (at' B i)) := (hbs.out.cell (p := ⟨bb, ob + i, none⟩) LB.out).trans (HCB.out i _ (at_some B i (by have := HN.out; omega)))
          have e2 : wr.cell? ⟨g1, k + i, none⟩ = some (.int .i64 (at' (aw (fun x => x) R B k t i) (k + i))) := ho1.out.cell (at_some _ _ (by rw [aw_len]; have := hlen.out; omega))
          have e3 : wr.frozen? ⟨g1, k + i, none⟩ = false := ho1.out.free (k + i)
          have hC : ∀ k, -1000000000000 ≤ t * at' B k ∧ t * at' B k ≤ 1000000000000 := fun k => by have := mul_ab (A := 1000000) (B := 1000000) HTB.out (HBB.out k); omega
          have hav := aw_bd (kp := fun x => x) (C := 1000000000000) (i := k) Kp.id hbd.out (by omega) hC i (k + i)
          have hbi := hC i
          have hmj2 : m - (k + 1) ≤ 40 := by omega
          have PUT : Hid (∀ v, v = at' (aw (fun x => x) R B k t i) (k + i) - t * at' B i → Own (wr.drew.setCell ⟨g1, k + i, none⟩ (.int .i64 v)) w.heap.size w1.heap.size (.slice (some ⟨g1, 0, none⟩) la cp1) (aw (fun x => x) R B k t (i + 1))) := fun v hv => by
            subst hv
            have ho1' : Own wr.drew w.heap.size w1.heap.size (.slice (some ⟨g1, 0, none⟩) la cp1) (aw (fun x => x) R B k t i) := ho1.out.stay fun _ _ _ _ => rfl
            exact ho1'.put (k + i) _
          obtain ⟨a, ha⟩ : ∃ a, a = at' (aw (fun x => x) R B k t i) (k + i) := ⟨_, rfl⟩
          rw [← ha] at e2 hav PUT
          obtain ⟨y, hy⟩ : ∃ y, y = at' B i := ⟨_, rfl⟩
          rw [← hy] at e1 hbi PUT
          obtain ⟨d, hd⟩ : ∃ d, d = a - t * y := ⟨_, rfl⟩
          rw [← hd] at PUT
          have w2 : IntKind.i64.wrap (t * y) = t * y := IntWalk.i64_in _ (by omega)
          have w2' : wrap64 (t * y) = t * y := IntWalk.wrap64_in _ (by omega)
          have w3 : IntKind.i64.wrap (a - t * y) = d := by rw [← hd]; exact IntWalk.i64_in _ (by omega)
          have w3' : wrap64 (a - t * y) = d := by rw [← hd]; exact IntWalk.wrap64_in _ (by omega)
          have HO := PUT.out d rfl
          have HO1 : Hid (Own (wr.drew.setCell ⟨g1, k + i, none⟩ (.int .i64 d)) w.heap.size w1.heap.size (.slice (some ⟨g1, 0, none⟩) la cp1) (aw (fun x => x) R B k t (i + 1))) := HO
          have HO2 : Hid (Own (wr.drew.setCell ⟨g1, k + i, none⟩ (.int .i64 d)) w1.heap.size wc.heap.size (.slice (some ⟨g, 0, none⟩) m m) Q') := (show Own wr.drew _ _ _ _ from ho2.out.stay fun _ _ _ _ => rfl).other (.inl HG1.out.2) _
          have HT1 : Hid (Turned w.heap.size wc.heap.size wc (wr.drew.setCell ⟨g1, k + i, none⟩ (.int .i64 d))) := (show Turned w.heap.size wc.heap.size wc wr.drew from ⟨ht.out.os, ht.out.tape, ht.out.output, ht.out.size, ht.out.block⟩).setCell HG1.out.1 (by have := HG1.out; have := HS1.out; omega) _
          have hst := store_int (b := d) (show wr.drew.cell? _ = _ from e2) (show wr.drew.frozen? _ = _ from e3)
          clear ha hy hd hav hbi hC HO PUT ho1 ho2 ht
          go_wp2_with fail
          go_region
          go_wp2
          go_roundw
          case rel => exact ⟨i + 1, by omega, by go_num, HO1, HO2, HT1⟩
          case measure => simp [intOf]; omega
        · obtain rfl : i = nb + 1 := by omega
          have HBN : Hid (Bd (1000000 + ((m - k : Nat) : Int) * 17000000000221) (aw (fun x => x) R B k t (nb + 1))) := by
            have hC : ∀ k, -1000000000000 ≤ t * at' B k ∧ t * at' B k ≤ 1000000000000 := fun k => by have := mul_ab (A := 1000000) (B := 1000000) HTB.out (HBB.out k); omega
            refine (aw_bd (kp := fun x => x) (C := 1000000000000) (i := k) Kp.id hbd.out (by omega) hC (nb + 1)).mono ?_
            have : m - k = (m - (k + 1)) + 1 := by omega
            omega
          have HLN : Hid (Q'.length = m ∧ (aw (fun x => x) R B k t (nb + 1)).length = la) := ⟨HLQ.out, by rw [aw_len]; exact hlen.out.2⟩
          go_wp2_with fail
          go_roundw
          case rel => exact ⟨(k : Int) - 1, k, _, _, by first | rfl | (go_num; done), by omega, by omega, by omega, HYE, HBN, HLN, ho1, ho2, ht⟩
          case measure => simp [intOf]; try omega
    · have hj0 : j = 0 := by omega
      subst hj0
      clear hj
      have HRS : Hid (exr A B = some (Q, R)) := by show _ = _; rw [← hres.out]; rfl
      have hlt' : q < 0 := by omega
      have HX1 : Hid (exok A B = decide (trim R = [0])) := (ex_some HRS.out).1
      have HX2 : Hid (exq A B = Q) := (ex_some HRS.out).2
      have HRN : Hid (R ≠ []) := fun e => by have := hlen.out.2; rw [e] at this; simp at this; omega
      have F2 : Hid (Own wr w.heap.size wr.heap.size (.slice (some ⟨g, 0, none⟩) m m) Q) := ho2.out.wide HS1.out.1 ht.out.size
      have HBF : Hid (Below w.heap.size w wr) := BC.out.trans hbw.out
      obtain ⟨wf, hwf⟩ : ∃ x, x = wr := ⟨_, rfl⟩
      rw [← hwf] at ho1 F2 HBF ⊢
      clear hres hbd ho2 ht hbw hwf HRES O1c O2 HT0 BC B2 B1
      go_wp2_with fail
      go_loop [90] (fun i => ∃ k : Nat, k ≤ la ∧ i = .int .i64 (k : Int) ∧ Hid (∀ j, j < k → at' R j = 0)) (fun i => la - (intOf i).toNat)
      case atStart => exact ⟨0, by omega, rfl, fun j hj => by omega⟩
      case round =>
        obtain ⟨k, hk, rfl, hz⟩ := hrel
        by_cases hkl : k < la
        · have e1 : wf.cell? ⟨g1, k, none⟩ = some (.int .i64 (at' R k)) := ho1.out.cell (at_some R _ (by have := hlen.out; omega))
          by_cases hz0 : at' R k = 0
          · rw [hz0] at e1
            have HZ : Hid (∀ j, j < k + 1 → at' R j = 0) := fun j hj => by
              by_cases e : j = k
              · rw [e]; exact hz0
              · exact hz.out j (by omega)
            clear hz hz0
            go_wp2_with fail
            go_round
            case rel => exact ⟨k + 1, by omega, by go_num, HZ⟩
            case measure => simp [intOf]; omega
          · have HXF : Hid (exok A B = false) := by
              show _ = _
              rw [HX1.out]
              exact decide_eq_false fun h => hz0 ((trim_zero HRN.out).1 h k (by have := hlen.out; omega))
            have hzb : (at' R k == 0) = false := by rw [beq_eq_false_iff_ne]; exact hz0
            clear hz hz0
            generalize at' R k = y at *
            go_wp2_with fail
            exact HPN.out _ HXF.out HBF.out
        · obtain rfl : k = la := by omega
          have HXT : Hid (exok A B = true) := by
            show _ = _
            rw [HX1.out]
            exact decide_eq_true ((trim_zero HRN.out).2 fun j hj => hz.out j (by have := hlen.out; omega))
          have F3 : Hid (Own wf w.heap.size wf.heap.size (.slice (some ⟨g, 0, none⟩) m m) (exq A B)) := by
            show Own _ _ _ _ _
            rw [HX2.out]; exact F2.out
          clear hz
          go_wp2_with fail
          exact HPS.out _ _ HXT.out F3.out HBF.out
end Go.Proofs.Ytbbdhbamooaloaa.wh
