/- Fractions, greatest common divisors, division by d x less n step by step: what both sides have of these. -/
import Derived.Test.YthldlhpdnocmcabEqF
import Derived.Test.YthldlhpdnocmcabFrA
import Derived.Test.YthldlhpdnocmcabFnG
import Derived.Test.YthldlhpdnocmcabPq
import Derived.IntWalk
namespace Go.Proofs.Ythldlhpdnocmcab.wh
open Go.RowKit Go.Pl

/-- a fraction -/
def fr (n d : Int) : Bool := decide (-1000000 ≤ n ∧ n ≤ 1000000) && decide (1 ≤ d ∧ d ≤ 1000000)
/-- without a common factor -/
def cp (n d : Int) : Bool := decide (((Int.gcd n d : Nat) : Int) = 1)
theorem fr_bd {n d : Int} (h : fr n d = true) : (-1000000 ≤ n ∧ n ≤ 1000000) ∧ 1 ≤ d ∧ d ≤ 1000000 := by
  unfold fr at h
  rw [Bool.and_eq_true] at h
  exact ⟨of_decide_eq_true h.1, of_decide_eq_true h.2⟩

theorem sfrac_any (n d : Int) (w : World) : Calls Try.prog 36 #[.int .i64 n, .int .i64 d] w fun e w' => e = .returned (.bool (fr n d)) ∧ w' = w := by
  by_cases h1 : -1000000 ≤ n ∧ n ≤ 1000000
  · have HF : Hid (fr n d = decide (1 ≤ d ∧ d ≤ 1000000)) := by show fr n d = _; unfold fr; rw [decide_eq_true h1, Bool.true_and]
    have HD : Hid (decide (-1000000 ≤ n ∧ n ≤ 1000000) = true) := decide_eq_true h1
    clear h1
    go_enter Try.func36, Try.ntmps36
    go_wp2_with fail
    refine (in_any n _ _ _).mono ?_
    rintro e w1 ⟨rfl, hw1⟩
    rw [hw1, HD.out]
    clear hw1
    go_wp2_with fail
    refine (in_any d _ _ _).mono ?_
    rintro e w1 ⟨rfl, hw1⟩
    rw [hw1, ← HF.out]
    clear hw1
    go_wp2_with fail
    go_ret
    exact ⟨rfl, rfl⟩
  · have HF : Hid (fr n d = false) := by show fr n d = _; unfold fr; rw [decide_eq_false h1, Bool.false_and]
    have HD : Hid (decide (-1000000 ≤ n ∧ n ≤ 1000000) = false) := decide_eq_false h1
    clear h1
    go_enter Try.func36, Try.ntmps36
    go_wp2_with fail
    refine (in_any n _ _ _).mono ?_
    rintro e w1 ⟨rfl, hw1⟩
    rw [hw1, HD.out]
    clear hw1
    go_wp2_with fail
    go_ret
    exact ⟨by rw [HF.out]; rfl, rfl⟩
theorem ifrac_any (n d : Int) (w : World) : Calls Try.prog 53 #[.int .i64 n, .int .i64 d] w fun e w' => e = .returned (.bool (fr n d)) ∧ w' = w := by
  by_cases h1 : -1000000 ≤ n ∧ n ≤ 1000000
  · have HF : Hid (fr n d = decide (1 ≤ d ∧ d ≤ 1000000)) := by show fr n d = _; unfold fr; rw [decide_eq_true h1, Bool.true_and]
    have HD : Hid (decide (-1000000 ≤ n ∧ n ≤ 1000000) = true) := decide_eq_true h1
    clear h1
    go_enter Try.func53, Try.ntmps53
    go_wp2_with fail
    refine (from_any n _ _ _).mono ?_
    rintro e w1 ⟨rfl, hw1⟩
    rw [hw1, HD.out]
    clear hw1
    go_wp2_with fail
    refine (from_any d _ _ _).mono ?_
    rintro e w1 ⟨rfl, hw1⟩
    rw [hw1, ← HF.out]
    clear hw1
    go_wp2_with fail
    go_ret
    exact ⟨rfl, rfl⟩
  · have HF : Hid (fr n d = false) := by show fr n d = _; unfold fr; rw [decide_eq_false h1, Bool.false_and]
    have HD : Hid (decide (-1000000 ≤ n ∧ n ≤ 1000000) = false) := decide_eq_false h1
    clear h1
    go_enter Try.func53, Try.ntmps53
    go_wp2_with fail
    refine (from_any n _ _ _).mono ?_
    rintro e w1 ⟨rfl, hw1⟩
    rw [hw1, HD.out]
    clear hw1
    go_wp2_with fail
    go_ret
    exact ⟨by rw [HF.out]; rfl, rfl⟩
theorem iprimf_any (n d : Int) (w : World) : Calls Try.prog 37 #[.int .i64 n, .int .i64 d] w fun e w' => e = .returned (.bool (fr n d && cp n d)) ∧ w' = w := by
  cases hf : fr n d with
  | false =>
    have HF : Hid (fr n d = false) := hf
    clear hf
    go_enter Try.func37, Try.ntmps37
    go_wp2_with fail
    refine (ifrac_any n d _).mono ?_
    rintro e w1 ⟨rfl, hw1⟩
    rw [hw1, HF.out]
    clear hw1
    go_wp2_with fail
    go_ret
    exact ⟨rfl, rfl⟩
  | true =>
    have HF : Hid (fr n d = true) := hf
    have hb := fr_bd hf
    have HG := icom_any n d (by omega) (by omega)
    have HCP : Hid (cp n d = decide (((Int.gcd n d : Nat) : Int) = 1)) := rfl
    clear hf hb
    generalize ((Int.gcd n d : Nat) : Int) = g at HG HCP
    have HGG : Hid (∀ w, Calls Try.prog 54 #[.int .i64 n, .int .i64 d] w fun e w' => e = .returned (.int .i64 g) ∧ w' = w) := HG
    clear HG
    go_enter Try.func37, Try.ntmps37
    go_wp2_with fail
    refine (ifrac_any n d _).mono ?_
    rintro e w1 ⟨rfl, hw1⟩
    rw [hw1, HF.out]
    clear hw1
    go_wp2_with fail
    refine (HGG.out _).mono ?_
    rintro e w1 ⟨rfl, hw1⟩
    rw [hw1]
    clear hw1
    go_wp2_with fail
    go_ret
    exact ⟨by rw [HCP.out]; rfl, rfl⟩

set_option maxRecDepth 100000 in
theorem sgcd_any (a b : Int) (ha : -1000000000000 ≤ a ∧ a ≤ 1000000000000) (hb : -1000000000000 ≤ b ∧ b ≤ 1000000000000) (w : World) :
    Calls Try.prog 32 #[.int .i64 a, .int .i64 b] w fun e w' => e = .returned (.int .i64 ((Int.gcd a b : Nat) : Int)) ∧ w' = w := by
  obtain ⟨g, hg⟩ : ∃ g, g = Int.gcd a b := ⟨_, rfl⟩
  have HG : Hid (Int.gcd a b = g) := hg.symm
  rw [← hg]
  clear hg
  go_enter Try.func32, Try.ntmps32
  go_wp2_with fail
  go_loop [0, 1] (fun p q => ∃ (x y : Int), p = .int .i64 x ∧ q = .int .i64 y ∧ Hid (-1000000000000 ≤ x ∧ x ≤ 1000000000000 ∧ -1000000000000 ≤ y ∧ y ≤ 1000000000000) ∧ Hid (Int.gcd x y = g)) (fun _ q => (intOf q).natAbs)
  case atStart => exact ⟨_, _, rfl, rfl, ⟨ha.1, ha.2, hb.1, hb.2⟩, HG⟩
  case round =>
    obtain ⟨x, y, rfl, rfl, hxy, hgc⟩ := hrel
    clear ha hb
    by_cases hy : y = 0
    · subst hy
      have HF : Hid (((g : Nat) : Int) = max x (-x)) := by show _ = _; rw [← hgc.out, gcd_stop]
      have hx := hxy.out
      by_cases hs : x < 0
      · have HV : Hid (((g : Nat) : Int) = -x) := by (have := HF.out; show _ = _; omega)
        have hmx : max x (-x) = -x := by omega
        have hw : IntKind.i64.wrap (-x) = -x := IntWalk.i64_in _ (by omega)
        clear hgc hx HF
        go_wp2_with fail
        go_ret
        exact ⟨by rw [HV.out]; first | rfl | (simp; omega), rfl⟩
      · have HV : Hid (((g : Nat) : Int) = x) := by (have := HF.out; show _ = _; omega)
        have hmx : max x (-x) = x := by omega
        have hw : IntKind.i64.wrap (-x) = -x := IntWalk.i64_in _ (by omega)
        clear hgc hx HF
        go_wp2_with fail
        go_ret
        exact ⟨by rw [HV.out]; first | rfl | (simp; omega), rfl⟩
    · have hyb : (y == 0) = false := by rw [beq_eq_false_iff_ne]; exact hy
      have hlt : (Int.tmod x y).natAbs < y.natAbs := by rw [Int.natAbs_tmod]; exact Nat.mod_lt _ (by omega)
      have HL : Hid ((Int.tmod x y).natAbs < y.natAbs) := hlt
      have HB : Hid (-1000000000000 ≤ y ∧ y ≤ 1000000000000 ∧ -1000000000000 ≤ Int.tmod x y ∧ Int.tmod x y ≤ 1000000000000) := by
        have := hxy.out
        exact ⟨this.2.2.1, this.2.2.2, by omega, by omega⟩
      have HS : Hid (Int.gcd y (Int.tmod x y) = g) := by show _ = g; rw [gcd_step]; exact hgc.out
      have hw : IntKind.i64.wrap (Int.tmod x y) = Int.tmod x y := IntWalk.i64_in _ (by have := HB.out; omega)
      clear hlt hxy hgc
      go_wp2_with fail
      go_round
      case rel => exact ⟨_, _, rfl, rfl, HB, HS⟩
      case measure => exact HL.out

set_option maxRecDepth 100000 in
set_option maxHeartbeats 6400000 in
/-- the division step by step; of lists of two terms at least -/
theorem sprt_any {v : Value} {L : List Int} {w : World} (h : Ls w v L) (h2 : 2 ≤ L.length) (h17 : L.length ≤ 17) (hL : Bd 1000000000 L) (n d : Int) (hf : fr n d = true) :
    Calls Try.prog 31 #[v, .int .i64 n, .int .i64 d] w fun e w' =>
      (match prt L n d (L.length - 1) (List.replicate (L.length - 1) 0) 0 with
        | none => e = .returned (.tuple #[.slice none 0 0, .bool false])
        | some S => ∃ vq, e = .returned (.tuple #[vq, .bool (decide (at' L 0 + n * S.2 = 0))]) ∧ Own w' w.heap.size w'.heap.size vq S.1) ∧ Below w.heap.size w w' := by
  obtain ⟨RES, hRES⟩ : ∃ r, r = prt L n d (L.length - 1) (List.replicate (L.length - 1) 0) 0 := ⟨_, rfl⟩
  rw [← hRES]
  suffices H : ∀ P : Ending → World → Prop, (∀ w', RES = none → Below w.heap.size w w' → P (.returned (.tuple #[.slice none 0 0, .bool false])) w') →
      (∀ Q x vq w', RES = some (Q, x) → Own w' w.heap.size w'.heap.size vq Q → Below w.heap.size w w' → P (.returned (.tuple #[vq, .bool (decide (at' L 0 + n * x = 0))])) w') →
      Calls Try.prog 31 #[v, .int .i64 n, .int .i64 d] w P by
    refine H _ (fun w' h hb => ⟨by rw [h], hb⟩) (fun Q x vq w' h hq hb => ⟨?_, hb⟩)
    rw [h]
    exact ⟨vq, rfl, hq⟩
  intro P hpn hps
  have HPN : Hid (∀ w', RES = none → Below w.heap.size w w' → P (.returned (.tuple #[.slice none 0 0, .bool false])) w') := hpn
  have HPS : Hid (∀ Q x vq w', RES = some (Q, x) → Own w' w.heap.size w'.heap.size vq Q → Below w.heap.size w w' → P (.returned (.tuple #[vq, .bool (decide (at' L 0 + n * x = 0))])) w') := hps
  clear hpn hps
  obtain ⟨i0, hi, hz0, hz1, hz2⟩ := info_parts info_i
  obtain ⟨ao, cap, rfl, hn, hcap, hc⟩ := h
  obtain ⟨b, off, rfl, hbw, hcell⟩ := hc (by omega)
  have HC : Hid (∀ (k : Nat) (z : Int), L[k]? = some z → w.cell? ⟨b, off + k, none⟩ = some (.int .i64 z)) := hcell
  have HBw : Hid (b < w.heap.size) := hbw
  have HBD : Hid (Bd 1000000000 L) := hL
  have HFB : Hid ((-1000000 ≤ n ∧ n ≤ 1000000) ∧ 1 ≤ d ∧ d ≤ 1000000) := fr_bd hf
  obtain ⟨m, hm⟩ : ∃ m, m + 1 = L.length := ⟨L.length - 1, by omega⟩
  have HN : Hid (m + 1 = L.length ∧ 1 ≤ m ∧ m ≤ 16) := ⟨hm, by omega, by omega⟩
  have HRES : Hid (prt L n d m (List.replicate m 0) 0 = RES) := by show _ = _; rw [hRES, show L.length - 1 = m by omega]
  obtain ⟨l, hl⟩ : ∃ l, l = L.length := ⟨_, rfl⟩
  have HLL : Hid (l = L.length ∧ l = m + 1) := ⟨hl, by omega⟩
  rw [← hl] at hn hcap h2 h17 ⊢
  have q1 : (l : Int) - 1 = (m : Int) := by omega
  have q2 : (l : Int) - 2 = (m : Int) - 1 := by omega
  have hml : m ≤ maxLen := by unfold maxLen; omega
  have hm1 : 1 ≤ m := by omega
  have hm16 : m ≤ 16 := by omega
  have hd1 : 1 ≤ d := by have := HFB.out; omega
  have hdb : (d == 0) = false := by rw [beq_eq_false_iff_ne]; omega
  clear hc hcell hbw hL hf hm hl hRES
  obtain ⟨B, hB⟩ : ∃ B, B = w.heap.size := ⟨_, rfl⟩
  go_enter Try.func31, Try.ntmps31
  go_wp2_with (first | (refine wpList_make_full _ rfl (.tmp 13) (.tmp 13) 32 rfl w.heap.size 2 i0 (.int .i64 0) 1 Try.underlying32 hi hz0 hz1 .i64 .i64 _ _ m rfl rfl rfl rfl (by rw [hz2]; omega) hml (Nat.le_refl _) ?_; intro wc hown hgrow))
  rw [rep_map] at hown
  have o2 : Own wc w.heap.size wc.heap.size (.slice (some ⟨w.heap.size, 0, none⟩) m m) (List.replicate m 0) := by
    have h2 : wc.ownsRow w.heap.size 2 1 (.slice (some ⟨w.heap.size, 0, none⟩) m m) (List.replicate m (0 : Int)).length ((List.replicate m (0 : Int)).map (Value.int .i64)) := by rw [List.length_replicate]; exact hown
    have := Own.of_row h2 (by have := HN.out; simp; omega) (Nat.le_refl wc.heap.size)
    first | exact this | (rw [List.length_replicate] at this; exact this)
  have HE : Hid (B = w.heap.size) := hB
  rw [← hB]
  have O0 : Hid (Own wc w.heap.size wc.heap.size (.slice (some ⟨B, 0, none⟩) m m) (List.replicate m 0)) := by show Own _ _ _ _ _; rw [hB]; exact o2
  have BC : Hid (Below w.heap.size w wc) := (Below.refl _ _).grown hgrow (Nat.le_refl _) (by intro k hk; cases hk)
  have HG2 : Hid (B < wc.heap.size) := by obtain ⟨_, _, _, _, _, h, _⟩ := O0.out.open; exact h
  have HT0 : Hid (Turned w.heap.size wc.heap.size wc wc) := Turned.refl _ _ _
  have HL0 : Hid ((List.replicate m (0 : Int)).length = m) := by show _ = _; simp
  have HCB : Hid (∀ (k : Nat) (z : Int), L[k]? = some z → wc.cell? ⟨b, off + k, none⟩ = some (.int .i64 z)) := fun k z hz => (BC.out.cell (p := ⟨b, off + k, none⟩) HBw.out).trans (HC.out k z hz)
  clear o2 hown hgrow hB hi hz0 hz1 hz2 HC
  go_loopw [9, 10] (fun s t wr => ∃ (x q : Int) (j : Nat) (Q : List Int), s = .int .i64 x ∧ t = .int .i64 q ∧ j = (q + 1).toNat ∧ -50 ≤ q ∧ j ≤ m ∧ Hid (-1000000000 ≤ x ∧ x ≤ 1000000000) ∧ Hid (prt L n d j Q x = RES) ∧ Hid (Q.length = m)
    ∧ Hid (Own wr w.heap.size wc.heap.size (.slice (some ⟨B, 0, none⟩) m m) Q) ∧ Hid (Turned w.heap.size wc.heap.size wc wr)) (fun _ t _ => (intOf t + 1).toNat)
  case atStart => exact ⟨0, _, m, _, rfl, rfl, by omega, by omega, by omega, ⟨by omega, by omega⟩, HRES, HL0, O0, HT0⟩
  case round =>
    obtain ⟨x, q, j, Q, rfl, rfl, hj, hq20, hjm, hxb, hres, hlen, ho, ht⟩ := hrel
    have hbw : Hid (Below w.heap.size wc wr) := ht.out.below (Nat.le_refl _) BC.out.size
    have hnx := mul_ab (A := 1000000) (B := 1000000000) HFB.out.1 hxb.out
    by_cases hlt : 0 ≤ q
    · obtain ⟨k, rfl⟩ : ∃ k : Nat, q = (k : Int) := ⟨q.toNat, by omega⟩
      have hjk : j = k + 1 := by omega
      subst hjk
      clear hj
      have hkl : k + 1 < l := by have := HLL.out; omega
      have hkm : k < m := by omega
      have e1 : wr.cell? ⟨b, off + (k + 1), none⟩ = some (.int .i64 (at' L (k + 1))) := (hbw.out.cell (p := ⟨b, off + (k + 1), none⟩) HBw.out).trans (HCB.out _ _ (at_some L (k + 1) (by have := HLL.out; omega)))
      have hL1 := HBD.out (k + 1)
      have HNO : Hid (gpx d (at' L (k + 1) + n * x) = false → RES = none) := fun h => by rw [← hres.out, prt_no h]
      have HYES : Hid (gpx d (at' L (k + 1) + n * x) = true → prt L n d k (Q.set k (Int.tdiv (at' L (k + 1) + n * x) d)) (Int.tdiv (at' L (k + 1) + n * x) d) = RES) := fun h => by rw [← hres.out, prt_yes h]
      obtain ⟨a, ha⟩ : ∃ a, a = at' L (k + 1) := ⟨_, rfl⟩
      rw [← ha] at e1 hL1 HNO HYES
      obtain ⟨nx, hnxe⟩ : ∃ y, y = n * x := ⟨_, rfl⟩
      rw [← hnxe] at hnx HNO HYES
      obtain ⟨y, hy⟩ : ∃ y, y = a + nx := ⟨_, rfl⟩
      rw [← hy] at HNO HYES
      have h1 := tdiv_le y d
      have h2' : (Int.tmod y d).natAbs ≤ y.natAbs := by rw [Int.natAbs_tmod]; exact Nat.mod_le _ _
      obtain ⟨t, hte⟩ : ∃ t, t = Int.tdiv y d := ⟨_, rfl⟩
      have HTE : Hid (t = Int.tdiv y d) := hte
      rw [← hte] at h1 HYES
      have v1 : IntKind.i64.wrap (n * x) = nx := by rw [← hnxe]; exact IntWalk.i64_in _ (by omega)
      have v1' : wrap64 (n * x) = nx := by rw [← hnxe]; exact IntWalk.wrap64_in _ (by omega)
      have v2 : IntKind.i64.wrap (a + nx) = y := by rw [← hy]; exact IntWalk.i64_in _ (by omega)
      have v2' : wrap64 (a + nx) = y := by rw [← hy]; exact IntWalk.wrap64_in _ (by omega)
      have v3 : IntKind.i64.wrap (Int.tmod y d) = Int.tmod y d := IntWalk.i64_in _ (by omega)
      have v4 : IntKind.i64.wrap (Int.tdiv y d) = t := by rw [← hte]; exact IntWalk.i64_in _ (by omega)
      have v4' : wrap64 (Int.tdiv y d) = t := by rw [← hte]; exact IntWalk.wrap64_in _ (by omega)
      clear ha hnx hnxe hy h1 h2' hte hL1
      by_cases hr0 : Int.tmod y d = 0
      case neg =>
        have HXF : Hid (RES = none) := HNO.out (by unfold gpx; rw [decide_eq_false hr0, Bool.false_and])
        have hrb : (Int.tmod y d == 0) = false := by rw [beq_eq_false_iff_ne]; exact hr0
        have hrc : (Int.tmod y d != 0) = true := by rw [bne, hrb]; rfl
        clear hr0 HYES HNO
        go_wp2_with fail
        exact HPN.out _ HXF.out (BC.out.trans hbw.out)
      have hrb : (Int.tmod y d == 0) = true := by rw [beq_iff_eq]; exact hr0
      have hrc : (Int.tmod y d != 0) = false := by rw [bne, hrb]; rfl
      have HR0 : Hid (Int.tmod y d = 0) := hr0
      clear hr0
      go_wp2_with fail
      refine (in_any t _ _ _).mono ?_
      rintro e w0 ⟨rfl, hw0⟩
      rw [hw0]
      clear hw0
      by_cases htb : -1000000000 ≤ t ∧ t ≤ 1000000000
      case neg =>
        have HXF : Hid (RES = none) := HNO.out (by unfold gpx; rw [← HTE.out, decide_eq_false htb, Bool.and_false])
        rw [decide_eq_false htb]
        clear HYES HNO
        go_wp2_with fail
        exact HPN.out _ HXF.out (BC.out.trans hbw.out)
      rw [decide_eq_true htb]
      have HYE : Hid (prt L n d k (Q.set k t) t = RES) := HYES.out (by unfold gpx; rw [← HTE.out, decide_eq_true htb, Bool.and_true]; exact decide_eq_true HR0.out)
      have HTB : Hid (-1000000000 ≤ t ∧ t ≤ 1000000000) := htb
      have e2 : wr.cell? ⟨B, k, none⟩ = some (.int .i64 (at' Q k)) := ho.out.cell (at_some Q _ (by have := hlen.out; omega))
      have e3 : wr.frozen? ⟨B, k, none⟩ = false := ho.out.free k
      have hst := store_int (b := t) e2 e3
      have P2 : Hid (Own (wr.setCell ⟨B, k, none⟩ (.int .i64 t)) w.heap.size wc.heap.size (.slice (some ⟨B, 0, none⟩) m m) (Q.set k t)) := ho.out.put k t
      have P3 : Hid (Turned w.heap.size wc.heap.size wc (wr.setCell ⟨B, k, none⟩ (.int .i64 t))) := ht.out.setCell (by have := HE.out; omega) HG2.out _
      have HLQ : Hid ((Q.set k t).length = m) := by show _ = _; rw [List.length_set]; exact hlen.out
      clear htb HYES HNO ho ht
      go_wp2_with fail
      go_roundw
      case rel => exact ⟨t, (k : Int) - 1, k, _, rfl, by first | rfl | (go_num; done), by omega, by omega, by omega, HTB, HYE, HLQ, P2, P3⟩
      case measure => simp [intOf]; try omega
    · have hj0 : j = 0 := by omega
      subst hj0
      clear hj
      have HRS : Hid (RES = some (Q, x)) := by show _ = _; rw [← hres.out]; rfl
      have hlt' : q < 0 := by omega
      have e1 : wr.cell? ⟨b, off, none⟩ = some (.int .i64 (at' L 0)) := by
        have := (hbw.out.cell (p := ⟨b, off + 0, none⟩) HBw.out).trans (HCB.out _ _ (at_some L 0 (by have := HLL.out; omega)))
        simpa using this
      have hL1 := HBD.out 0
      have F2 : Hid (Own wr w.heap.size wr.heap.size (.slice (some ⟨B, 0, none⟩) m m) Q) := ho.out.wide (Nat.le_refl _) ht.out.size
      have HBF : Hid (Below w.heap.size w wr) := BC.out.trans hbw.out
      obtain ⟨a, ha⟩ : ∃ a, a = at' L 0 := ⟨_, rfl⟩
      have HA0 : Hid (a = at' L 0) := ha
      rw [← ha] at e1 hL1
      obtain ⟨nx, hnxe⟩ : ∃ y, y = n * x := ⟨_, rfl⟩
      have HNX : Hid (nx = n * x) := hnxe
      rw [← hnxe] at hnx
      have v1 : IntKind.i64.wrap (n * x) = nx := by rw [← hnxe]; exact IntWalk.i64_in _ (by omega)
      have v1' : wrap64 (n * x) = nx := by rw [← hnxe]; exact IntWalk.wrap64_in _ (by omega)
      have v2 : IntKind.i64.wrap (a + nx) = a + nx := IntWalk.i64_in _ (by omega)
      have v2' : wrap64 (a + nx) = a + nx := IntWalk.wrap64_in _ (by omega)
      have hl0 : 0 < l := by have := HLL.out; omega
      have hl0' : (0 : Int) < (l : Int) := by omega
      clear hres ho ht hbw ha hnxe hnx hL1 O0 BC HT0 HL0
      go_wp2_with fail
      go_region
      have e : (a + nx == 0) = decide (at' L 0 + n * x = 0) := by rw [← HA0.out, ← HNX.out]; rfl
      rw [e]
      clear e
      have F3 : Hid (Own wr.drew w.heap.size wr.drew.heap.size (.slice (some ⟨B, 0, none⟩) m m) Q) := F2.out.stay fun _ _ _ _ => rfl
      have HBD2 : Hid (Below w.heap.size w wr.drew) := HBF.out.drew
      go_wp2_with fail
      exact HPS.out _ _ _ _ HRS.out F3.out HBD2.out
end Go.Proofs.Ythldlhpdnocmcab.wh
