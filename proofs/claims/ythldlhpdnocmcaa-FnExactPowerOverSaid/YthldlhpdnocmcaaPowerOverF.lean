/- PowerOver: what both sides answer. -/
import Derived.Test.YthldlhpdnocmcaaCoF
import Derived.Test.YthldlhpdnocmcaaPp
namespace Go.Proofs.Ythldlhpdnocmcaa.fPowerOver
open Go.RowKit Go.Pl Go.Proofs.Ythldlhpdnocmcaa.wh
def X (A : List Int) (n : Int) (B : List Int) (p : Int) : List Int := pwr B p n.toNat n.toNat [1] (dr A B p)
def pre (A : List Int) (n : Int) (B : List Int) (p : Int) : Bool := over A p && (over B p && (decide (2 ≤ B.length) && decide (0 ≤ n ∧ n ≤ 1000000)))
def R (A : List Int) (n : Int) (B : List Int) (p : Int) : List Int := if pre A n B p = true then gv (X A n B p) else []
def ok (A : List Int) (n : Int) (B : List Int) (p : Int) : Bool := pre A n B p && val (trim (X A n B p))
theorem len (A : List Int) (n : Int) (B : List Int) (p : Int) : (R A n B p).length ≤ 17 := by
  unfold R
  split
  · exact gv_len _
  · simp
theorem pre_no {A B : List Int} {n p : Int} (h : pre A n B p = false) : R A n B p = [] ∧ ok A n B p = false := ⟨if_neg (by rw [h]; decide), by unfold ok; rw [h]; rfl⟩
theorem x_gd {A B : List Int} {n p : Int} (hA : over A p = true) (hB : over B p = true) (h2 : 2 ≤ B.length) : Gd (X A n B p) p := by
  have hp := (over_val hA).1
  have gA := Gd.of_over hA
  have gB := Gd.of_over hB
  exact pwr_gd hp gB h2 _ _ _ _ (gd_one hp) (Gd.rest hp gA gB (fun e => by rw [e] at h2; simp at h2))
theorem x_val {A B : List Int} {n p : Int} (hA : over A p = true) (hB : over B p = true) (h2 : 2 ≤ B.length) : val (trim (X A n B p)) = true ∧ gv (X A n B p) = X A n B p := by
  have hv := Gd.val (over_val hA).1 (x_gd (n := n) hA hB h2)
  have h1 : val (trim (X A n B p)) = true := by rw [trim_val hv]; exact val_iff.2 hv
  exact ⟨h1, by rw [gv_yes h1, trim_val hv]⟩
theorem om_bd {O S : List Int} {p : Int} (hp : isP p = true) (hO : Gd O p) (hS : Gd S p) (i k : Nat) : -1000000000000 ≤ at' O i * at' S k ∧ at' O i * at' S k ≤ 1000000000000 := over_bd hO.1.2 hS.1.2 (isP_le hp) i k
theorem pr_ne {O S : List Int} {p : Int} (hO : Gd O p) (hS : Gd S p) : prod O S ≠ [] ∧ (prod O S).length ≤ 1000 := ⟨prod_ne hO.1.1 hS.1.1, by rw [prod_len]; have := hO.2.1; have := hS.2.1; omega⟩
theorem gd40 {O : List Int} {p : Int} (hO : Gd O p) : 1 ≤ O.length ∧ O.length ≤ 40 := ⟨hO.1.1, by have := hO.2.1; omega⟩
theorem deg_any {v : Value} {L : List Int} {w : World} (h : Ls w v L) : Calls Try.prog 77 #[v] w fun e w' => e = .returned (.int .i64 ((L.length : Int) - 1)) ∧ w' = w := by
  obtain ⟨ao, cap, rfl, hn, hcap, hc⟩ := h
  clear hc
  generalize L.length = n at *
  have hw : IntKind.i64.wrap ((n : Int) - 1) = (n : Int) - 1 := IntWalk.i64_in _ (by omega)
  have hw' : wrap64 ((n : Int) - 1) = (n : Int) - 1 := IntWalk.wrap64_in _ (by omega)
  go_enter Try.func77, Try.ntmps77
  go_wp2
  go_ret
  exact ⟨rfl, rfl⟩

set_option maxRecDepth 100000 in
set_option maxHeartbeats 4000000 in
theorem spec_any {A0 A2 : List Int} {v0 v2 : Value} {w : World} (h0 : Wh w v0 A0) (h2 : Wh w v2 A2) (a1 : Int) (_b1 : (Lit.int .i64 a1).wf = true) (a3 : Int) (_b3 : (Lit.int .i64 a3).wf = true) : Calls Try.prog 35 #[v0, .int .i64 a1, v2, .int .i64 a3] w (AnsI (R A0 a1 A2 a3) (ok A0 a1 A2 a3) w) := by
  obtain ⟨s0, rfl, h0⟩ := h0
  obtain ⟨ao0, cap0, rfl⟩ := h0.shape
  obtain ⟨s2, rfl, h2⟩ := h2
  obtain ⟨ao2, cap2, rfl⟩ := h2.shape
  have R0 : Hid (Rd w w.heap.size (.slice ao0 A0.length cap0) A0) := h0
  have R2 : Hid (Rd w w.heap.size (.slice ao2 A2.length cap2) A2) := h2
  clear h0 h2
  have B0 : Hid (Below w.heap.size w w) := Below.refl _ _
  obtain ⟨w1, hw⟩ : ∃ x, x = (((w.alloc (.cells #[(.slice ao0 A0.length cap0)] 26)).alloc (.cells #[(.slice ao2 A2.length cap2)] 26)).alloc (.cells #[.slice none 0 0] 26)) := ⟨_, rfl⟩
  have b : Below w.heap.size w w1 := by rw [hw]; exact new3 _ _ _ _ 
  have Zw1 : Hid (w.heap.size ≤ w1.heap.size) := b.size
  replace B0 : Hid (Below w.heap.size w w1) := B0.out.trans (b.mono (Nat.le_refl _))
  replace R0 : Hid (Rd w1 w.heap.size (.slice ao0 A0.length cap0) A0) := R0.out.below b (Nat.le_refl _)
  replace R2 : Hid (Rd w1 w.heap.size (.slice ao2 A2.length cap2) A2) := R2.out.below b (Nat.le_refl _)
  have XP0 : Hid (Bx w1 w.heap.size (.slice ao0 A0.length cap0)) := by rw [hw]; exact Bx.alloc (Bx.alloc (Bx.new _ _ _) _) _
  have cXP0 : w1.cell? ⟨w.heap.size, 0, none⟩ = some (.slice ao0 A0.length cap0) := XP0.out.cell
  have XP2 : Hid (Bx w1 (w.heap.size + 1) (.slice ao2 A2.length cap2)) := by rw [hw]; exact Bx.alloc (Bx.new2 _ _ _ _ ) _
  have cXP2 : w1.cell? ⟨(w.heap.size + 1), 0, none⟩ = some (.slice ao2 A2.length cap2) := XP2.out.cell
  have XR : Hid (Bx w1 (w.heap.size + 1 + 1) (.slice none 0 0)) := by rw [hw]; exact Bx.new3 _ _ _ _ _ 
  have cXR : w1.cell? ⟨(w.heap.size + 1 + 1), 0, none⟩ = some (.slice none 0 0) := XR.out.cell
  have fXR : w1.frozen? ⟨(w.heap.size + 1 + 1), 0, none⟩ = false := XR.out.free
  have B1 : Hid (Below w1.heap.size w1 w1) := Below.refl _ _
  have BW : Hid (Below w.heap.size w w1) := B0.out
  have LR : Hid ((w.heap.size + 1 + 1) < w1.heap.size) := XR.out.lt
  have XR1 : Hid (Bx w1 (w.heap.size + 1 + 1) (.slice none 0 0)) := XR.out
  clear b
  go_enter Try.func35, Try.ntmps35
  go_wp2_with fail
  rw [← hw]
  clear hw
  refine (sover_any XP0.out.cell (R0.out.ls (by have := Zw1.out; omega)) a3).mono ?_
  rintro e w0 ⟨rfl, hw0⟩
  rw [hw0]
  clear hw0
  cases hv0 : over A0 a3 with
  | false =>
    have Y := out_no B0.out (by omega) XR.out
    have HR : Hid (AnsI (R A0 a1 A2 a3) (ok A0 a1 A2 a3) w (.returned (.tuple #[.agg #[.slice none 0 0], .bool false])) (w1.setCell ⟨(w.heap.size + 1 + 1), 0, none⟩ (.slice none 0 0))) := by
      have e1 : R A0 a1 A2 a3 = [] := by simp [R, pre, hv0]
      have e2 : ok A0 a1 A2 a3 = false := by simp [ok, pre, hv0]
      rw [e1, e2]; exact Y.1
    have y := Y.2
    clear Y
    go_wp2_with fail
    exact bodyPost_ret (v := .tuple #[.agg #[.slice none 0 0], .bool false]) (by simp [results, Try.results35, y, go_sem]) rfl HR.out
  | true =>
    have Hhv0 : Hid (over A0 a3 = true) := hv0
    clear hv0
    go_wp2_with fail
    refine (sover_any XP2.out.cell (R2.out.ls (by have := Zw1.out; omega)) a3).mono ?_
    rintro e w0 ⟨rfl, hw0⟩
    rw [hw0]
    clear hw0
    cases hv2 : over A2 a3 with
    | false =>
      have Y := out_no B0.out (by omega) XR.out
      have HR : Hid (AnsI (R A0 a1 A2 a3) (ok A0 a1 A2 a3) w (.returned (.tuple #[.agg #[.slice none 0 0], .bool false])) (w1.setCell ⟨(w.heap.size + 1 + 1), 0, none⟩ (.slice none 0 0))) := by
        have e1 : R A0 a1 A2 a3 = [] := by simp [R, pre, Hhv0.out, hv2]
        have e2 : ok A0 a1 A2 a3 = false := by simp [ok, pre, Hhv0.out, hv2]
        rw [e1, e2]; exact Y.1
      have y := Y.2
      clear Y
      go_wp2_with fail
      exact bodyPost_ret (v := .tuple #[.agg #[.slice none 0 0], .bool false]) (by simp [results, Try.results35, y, go_sem]) rfl HR.out
    | true =>
      have Hhv2 : Hid (over A2 a3 = true) := hv2
      clear hv2
      have HP : Hid (isP a3 = true) := (over_val Hhv0.out).1
      have HP1 : Hid (1 ≤ a3 ∧ a3 ≤ 1000000) := ⟨by have := isP_le HP.out; omega, by have := isP_le HP.out; omega⟩
      have GA : Hid (Gd A0 a3) := Gd.of_over Hhv0.out
      have GB : Hid (Gd A2 a3) := Gd.of_over Hhv2.out
      by_cases hl2 : A2.length < 2
      case pos =>
        have HNO : Hid (pre A0 a1 A2 a3 = false) := by show pre A0 a1 A2 a3 = false; unfold pre; rw [decide_eq_false (show ¬ 2 ≤ A2.length by omega)]; simp
        have hl3 : (A2.length : Int) < 2 := by omega
        have hl4 : (A2.length : Int) - 1 < 1 := by omega
        have Y := out_no B0.out (by omega) XR.out
        have HR : Hid (AnsI (R A0 a1 A2 a3) (ok A0 a1 A2 a3) w (.returned (.tuple #[.agg #[.slice none 0 0], .bool false])) (w1.setCell ⟨(w.heap.size + 1 + 1), 0, none⟩ (.slice none 0 0))) := by
          show AnsI _ _ _ _ _
          rw [(pre_no HNO.out).1, (pre_no HNO.out).2]; exact Y.1
        have y := Y.2
        clear Y
        go_wp2_with fail
        exact bodyPost_ret (v := .tuple #[.agg #[.slice none 0 0], .bool false]) (by simp [results, Try.results35, y, go_sem]) rfl HR.out
      have HB2 : Hid (2 ≤ A2.length) := by show 2 ≤ A2.length; omega
      have HLB : Hid (at' A2 (A2.length - 1) ≠ 0) := gd_last GB.out HB2.out
      have hl3 : ¬ (A2.length : Int) < 2 := by omega
      have hl4 : ¬ (A2.length : Int) - 1 < 1 := by omega
      clear hl2
      go_wp2_with fail
      refine (in_any a1 0 1000000 _).mono ?_
      rintro e w0 ⟨rfl, hw0⟩
      rw [hw0]
      clear hw0
      by_cases hpw : 0 ≤ a1 ∧ a1 ≤ 1000000
      case neg =>
        have HNO : Hid (pre A0 a1 A2 a3 = false) := by show pre A0 a1 A2 a3 = false; unfold pre; rw [decide_eq_false hpw]; simp
        rw [decide_eq_false hpw]
        clear hpw
        have Y := out_no B0.out (by omega) XR.out
        have HR : Hid (AnsI (R A0 a1 A2 a3) (ok A0 a1 A2 a3) w (.returned (.tuple #[.agg #[.slice none 0 0], .bool false])) (w1.setCell ⟨(w.heap.size + 1 + 1), 0, none⟩ (.slice none 0 0))) := by
          show AnsI _ _ _ _ _
          rw [(pre_no HNO.out).1, (pre_no HNO.out).2]; exact Y.1
        have y := Y.2
        clear Y
        go_wp2_with fail
        exact bodyPost_ret (v := .tuple #[.agg #[.slice none 0 0], .bool false]) (by simp [results, Try.results35, y, go_sem]) rfl HR.out
      rw [decide_eq_true hpw]
      have HPR : Hid (pre A0 a1 A2 a3 = true) := by show pre A0 a1 A2 a3 = true; unfold pre; rw [Hhv0.out, Hhv2.out, decide_eq_true HB2.out, decide_eq_true hpw]; rfl
      obtain ⟨n0, hn0⟩ : ∃ n : Nat, a1 = (n : Int) := ⟨a1.toNat, by omega⟩
      have HXE : Hid (pwr A2 a3 n0 n0 [1] (dr A0 A2 a3) = X A0 a1 A2 a3) := by show _ = X A0 a1 A2 a3; unfold X; rw [hn0]; rfl
      have HXG : Hid (Gd (X A0 a1 A2 a3) a3) := x_gd Hhv0.out Hhv2.out HB2.out
      have HXV : Hid (val (trim (X A0 a1 A2 a3)) = true ∧ gv (X A0 a1 A2 a3) = X A0 a1 A2 a3) := x_val Hhv0.out Hhv2.out HB2.out
      have HXF : Hid (pwr A2 a3 n0 n0 [1] A0 = pwr A2 a3 n0 n0 [1] (dr A0 A2 a3)) := pwr_first HP.out GA.out.1 GB.out.1 HLB.out _ _
      have HN0 : Hid (a1 = (n0 : Int)) := hn0
      have hn6 : n0 ≤ 1000000 := by omega
      have GONE : Hid (Gd [1] a3) := gd_one HP.out
      obtain ⟨X0, hX0⟩ : ∃ x, x = X A0 a1 A2 a3 := ⟨_, rfl⟩
      have HX0 : Hid (X0 = X A0 a1 A2 a3) := hX0
      rw [← hX0] at HXE HXG HXV
      clear hpw hX0
      have dXP0 : (w1.alloc (.cells #[.int .i64 1] 2)).cell? ⟨w.heap.size, 0, none⟩ = some (.slice ao0 A0.length cap0) := (XP0.out.alloc _).cell
      have dXP2 : (w1.alloc (.cells #[.int .i64 1] 2)).cell? ⟨(w.heap.size + 1), 0, none⟩ = some (.slice ao2 A2.length cap2) := (XP2.out.alloc _).cell
      have eXP0 := cXP0
      have eXP2 := cXP2
      obtain ⟨ws, hws⟩ : ∃ x, x = w1.alloc (.cells #[.int .i64 1] 2) := ⟨_, rfl⟩
      have bs : Below w1.heap.size w1 ws := by rw [hws]; exact new1 _ _
      have OONE : Hid (Own ws w1.heap.size ws.heap.size (.slice (some ⟨w1.heap.size, 0, none⟩) 1 1) [1]) := by
        rw [hws]
        exact Own.of_row (World.ownsRow_lit (base := w1.heap.size) (e := 2) (size := 1) w1 #[.int .i64 1] 1 (Nat.le_refl _) (by decide) rfl) (by decide) (Nat.le_refl _)
      have Zws : Hid (w1.heap.size ≤ ws.heap.size) := bs.size
      replace B0 : Hid (Below w.heap.size w ws) := B0.out.trans (bs.mono (by have := Zw1.out; omega))
      replace B1 : Hid (Below w1.heap.size w1 ws) := B1.out.trans (bs.mono (Nat.le_refl _))
      replace R0 : Hid (Rd ws w.heap.size (.slice ao0 A0.length cap0) A0) := R0.out.below bs (by have := Zw1.out; omega)
      replace R2 : Hid (Rd ws w.heap.size (.slice ao2 A2.length cap2) A2) := R2.out.below bs (by have := Zw1.out; omega)
      replace XP0 : Hid (Bx ws w.heap.size (.slice ao0 A0.length cap0)) := XP0.out.kept bs
      replace cXP0 : ws.cell? ⟨w.heap.size, 0, none⟩ = some (.slice ao0 A0.length cap0) := XP0.out.cell
      replace XP2 : Hid (Bx ws (w.heap.size + 1) (.slice ao2 A2.length cap2)) := XP2.out.kept bs
      replace cXP2 : ws.cell? ⟨(w.heap.size + 1), 0, none⟩ = some (.slice ao2 A2.length cap2) := XP2.out.cell
      replace XR : Hid (Bx ws (w.heap.size + 1 + 1) (.slice none 0 0)) := XR.out.kept bs
      replace cXR : ws.cell? ⟨(w.heap.size + 1 + 1), 0, none⟩ = some (.slice none 0 0) := XR.out.cell
      replace fXR : ws.frozen? ⟨(w.heap.size + 1 + 1), 0, none⟩ = false := XR.out.free
      clear bs
      go_wp2_with fail
      rw [← hws]
      clear hws dXP0 dXP2 eXP0 eXP2
      refine (sdiv_any (R0.out.ls (by have := Zw1.out; have := Zws.out; omega)) (R2.out.ls (by have := Zw1.out; have := Zws.out; omega)) HP.out GA.out.1 (by have := GA.out.2.1; omega) GB.out.1 GB.out.2.1 HLB.out).mono ?_
      rintro e wt ⟨vq, vr, rfl, oq, o, b⟩
      have Zwt : Hid (ws.heap.size ≤ wt.heap.size) := b.size
      replace B0 : Hid (Below w.heap.size w wt) := B0.out.trans (b.mono (by have := Zw1.out; have := Zws.out; omega))
      replace B1 : Hid (Below w1.heap.size w1 wt) := B1.out.trans (b.mono (by have := Zws.out; omega))
      replace R0 : Hid (Rd wt w.heap.size (.slice ao0 A0.length cap0) A0) := R0.out.below b (by have := Zw1.out; have := Zws.out; omega)
      replace R2 : Hid (Rd wt w.heap.size (.slice ao2 A2.length cap2) A2) := R2.out.below b (by have := Zw1.out; have := Zws.out; omega)
      replace XP0 : Hid (Bx wt w.heap.size (.slice ao0 A0.length cap0)) := XP0.out.kept b
      replace cXP0 : wt.cell? ⟨w.heap.size, 0, none⟩ = some (.slice ao0 A0.length cap0) := XP0.out.cell
      replace XP2 : Hid (Bx wt (w.heap.size + 1) (.slice ao2 A2.length cap2)) := XP2.out.kept b
      replace cXP2 : wt.cell? ⟨(w.heap.size + 1), 0, none⟩ = some (.slice ao2 A2.length cap2) := XP2.out.cell
      replace XR : Hid (Bx wt (w.heap.size + 1 + 1) (.slice none 0 0)) := XR.out.kept b
      replace cXR : wt.cell? ⟨(w.heap.size + 1 + 1), 0, none⟩ = some (.slice none 0 0) := XR.out.cell
      replace fXR : wt.frozen? ⟨(w.heap.size + 1 + 1), 0, none⟩ = false := XR.out.free
      obtain ⟨sa, sc, rfl⟩ := o.shape
      obtain ⟨qa, qc, rfl⟩ := oq.shape
      generalize hlq : (dq A0 A2 a3).length = lq
      replace OONE : Hid (Own wt w1.heap.size wt.heap.size (.slice (some ⟨w1.heap.size, 0, none⟩) 1 1) [1]) := (OONE.out.kept b).wide (Nat.le_refl _) b.size
      have SST : Hid (Ls wt (.slice sa (dr A0 A2 a3).length sc) (dr A0 A2 a3)) := o.ls (Nat.le_refl _)
      have GST : Hid (Gd (dr A0 A2 a3) a3) := Gd.rest HP.out GA.out GB.out (fun e => by have := HB2.out; rw [e] at this; simp at this)
      have HST : Hid (pwr A2 a3 n0 n0 [1] (dr A0 A2 a3) = X0) := HXE
      clear o oq b hlq
      go_wp2_with fail
      obtain ⟨wk, hwk⟩ : ∃ x, x = wt := ⟨_, rfl⟩
      have LOW : Hid (w1.heap.size ≤ wt.heap.size ∧ w1.heap.size ≤ w1.heap.size) := ⟨(by have := Zws.out; have := Zwt.out; omega), (Nat.le_refl _)⟩
      clear hwk
      go_loopg [1, 10, 12] n0 (fun k pw o s wr => ∃ (n : Nat) (O S : List Int) (oa sa : Option Addr) (oc sc : Nat), pw = .int .i64 (n : Int) ∧ o = .slice oa O.length oc ∧ s = .slice sa S.length sc ∧ n ≤ k ∧ n ≤ 1000000 ∧ Hid (pwr A2 a3 k n O S = X0) ∧ Hid (Gd O a3 ∧ Gd S a3) ∧ Hid (Own wr w1.heap.size wr.heap.size (.slice oa O.length oc) O) ∧ Hid (Ls wr (.slice sa S.length sc) S) ∧ Hid (Below wt.heap.size wt wr))
      case atStart => exact ⟨n0, [1], (dr A0 A2 a3), _, sa, _, sc, by first | rfl | rw [HN0.out], rfl, rfl, Nat.le_refl _, hn6, HST, ⟨GONE.out, GST.out⟩, OONE, SST, Below.refl _ _⟩
      case round =>
        obtain ⟨n, O, S, oa, sa, oc, sc, rfl, rfl, rfl, hnk, hn6', hres, hgd, OO, SL, hb⟩ := hrel
        clear SST GST HST OONE
        have GO : Hid (Gd O a3) := hgd.out.1
        have GS : Hid (Gd S a3) := hgd.out.2
        have OL : Hid (Ls wr (.slice oa O.length oc) O) := OO.out.ls (Nat.le_refl _)
        have BL : Hid (Ls wr (.slice ao2 A2.length cap2) A2) := ((R2.out.ls (by have := Zw1.out; have := Zws.out; have := Zwt.out; omega))).below hb.out
        have XB : Hid (Bx wr (w.heap.size + 1) (.slice ao2 A2.length cap2)) := XP2.out.kept hb.out
        by_cases hn : n = 0
        case pos =>
          subst hn
          have HXO : Hid (O = X0) := by have := hres.out; rw [pwr_stop] at this; exact this
          have hbo := hb.out
          have Zwr : Hid (wt.heap.size ≤ wr.heap.size) := hbo.size
          replace B0 : Hid (Below w.heap.size w wr) := B0.out.trans (hbo.mono (by have := Zw1.out; have := Zws.out; have := Zwt.out; omega))
          replace B1 : Hid (Below w1.heap.size w1 wr) := B1.out.trans (hbo.mono (by have := Zws.out; have := Zwt.out; omega))
          replace R0 : Hid (Rd wr w.heap.size (.slice ao0 A0.length cap0) A0) := R0.out.below hbo (by have := Zw1.out; have := Zws.out; have := Zwt.out; omega)
          replace R2 : Hid (Rd wr w.heap.size (.slice ao2 A2.length cap2) A2) := R2.out.below hbo (by have := Zw1.out; have := Zws.out; have := Zwt.out; omega)
          replace XP0 : Hid (Bx wr w.heap.size (.slice ao0 A0.length cap0)) := XP0.out.kept hbo
          replace cXP0 : wr.cell? ⟨w.heap.size, 0, none⟩ = some (.slice ao0 A0.length cap0) := XP0.out.cell
          replace XP2 : Hid (Bx wr (w.heap.size + 1) (.slice ao2 A2.length cap2)) := XP2.out.kept hbo
          replace cXP2 : wr.cell? ⟨(w.heap.size + 1), 0, none⟩ = some (.slice ao2 A2.length cap2) := XP2.out.cell
          replace XR : Hid (Bx wr (w.heap.size + 1 + 1) (.slice none 0 0)) := XR.out.kept hbo
          replace cXR : wr.cell? ⟨(w.heap.size + 1 + 1), 0, none⟩ = some (.slice none 0 0) := XR.out.cell
          replace fXR : wr.frozen? ⟨(w.heap.size + 1 + 1), 0, none⟩ = false := XR.out.free
          have OT : Hid (Own wr w1.heap.size wr.heap.size (.slice oa X0.length oc) X0) := by
            show Own _ _ _ _ _
            rw [← HXO.out]; exact OO.out
          rw [HXO.out]
          clear hres hgd OO SL hb GO GS OL BL XB hbo
          have HXD : Hid (pre A0 a1 A2 a3 = true ∧ X A0 a1 A2 a3 = X0) := ⟨HPR.out, HX0.out.symm⟩
          go_wp2_with fail
          refine (give_any (OT.out.rd.ls (Nat.le_refl _)) (by have := HXG.out.2.1; omega)).mono ?_
          rintro e w2 ⟨_, rfl, ⟨s, rfl, o⟩, b⟩
          obtain ⟨ra, rc, rfl⟩ := o.shape
          have Zw2 : Hid (wr.heap.size ≤ w2.heap.size) := b.size
          replace B0 : Hid (Below w.heap.size w w2) := B0.out.trans (b.mono (by have := Zw1.out; have := Zws.out; have := Zwt.out; have := Zwr.out; omega))
          replace B1 : Hid (Below w1.heap.size w1 w2) := B1.out.trans (b.mono (by have := Zws.out; have := Zwt.out; have := Zwr.out; omega))
          replace R0 : Hid (Rd w2 w.heap.size (.slice ao0 A0.length cap0) A0) := R0.out.below b (by have := Zw1.out; have := Zws.out; have := Zwt.out; have := Zwr.out; omega)
          replace R2 : Hid (Rd w2 w.heap.size (.slice ao2 A2.length cap2) A2) := R2.out.below b (by have := Zw1.out; have := Zws.out; have := Zwt.out; have := Zwr.out; omega)
          replace OT : Hid (Own w2 w1.heap.size wr.heap.size (.slice oa X0.length oc) X0) := OT.out.below b (Nat.le_refl _)
          replace XP0 : Hid (Bx w2 w.heap.size (.slice ao0 A0.length cap0)) := XP0.out.kept b
          replace cXP0 : w2.cell? ⟨w.heap.size, 0, none⟩ = some (.slice ao0 A0.length cap0) := XP0.out.cell
          replace XP2 : Hid (Bx w2 (w.heap.size + 1) (.slice ao2 A2.length cap2)) := XP2.out.kept b
          replace cXP2 : w2.cell? ⟨(w.heap.size + 1), 0, none⟩ = some (.slice ao2 A2.length cap2) := XP2.out.cell
          replace XR : Hid (Bx w2 (w.heap.size + 1 + 1) (.slice none 0 0)) := XR.out.kept b
          replace cXR : w2.cell? ⟨(w.heap.size + 1 + 1), 0, none⟩ = some (.slice none 0 0) := XR.out.cell
          replace fXR : w2.frozen? ⟨(w.heap.size + 1 + 1), 0, none⟩ = false := XR.out.free
          replace o := o.wide (lo' := w1.heap.size) (by have := Zws.out; have := Zwt.out; have := Zwr.out; omega) (Nat.le_refl _)
          clear b
          have Y := out_yes (ok := val (trim X0)) (W1 := w1) (w := w) (r := (w.heap.size + 1 + 1)) BW.out (by omega) LR.out XR.out o B1.out
          have HR : Hid (AnsI (R A0 a1 A2 a3) (ok A0 a1 A2 a3) w (.returned (.tuple #[.agg #[.slice ra (gv X0).length rc], .bool (val (trim X0))])) (w2.setCell ⟨(w.heap.size + 1 + 1), 0, none⟩ (.slice ra (gv X0).length rc))) := by
            have e1 : R A0 a1 A2 a3 = gv X0 := by simp [R, HXD.out.1, HXD.out.2]
            have e2 : ok A0 a1 A2 a3 = val (trim X0) := by simp [ok, HXD.out.1, HXD.out.2]
            rw [e1, e2]; exact Y.1
          have y := Y.2
          clear Y o
          generalize val (trim X0) = gb at *
          generalize (gv X0).length = gl at *
          go_wp2_with fail
          exact bodyPost_ret (v := .tuple #[.agg #[.slice ra gl rc], .bool gb]) (by simp [results, Try.results35, y, go_sem]) rfl HR.out
        obtain ⟨j, rfl⟩ : ∃ j, gk = j + 1 := ⟨gk - 1, by omega⟩
        obtain ⟨h2, hh2⟩ : ∃ h, h = n / 2 := ⟨_, rfl⟩
        have HH2 : Hid (h2 = n / 2) := hh2
        have hnj : h2 ≤ j := by omega
        have hn62 : h2 ≤ 1000000 := by omega
        have cB := XB.out.cell
        have hn0' : (0 : Int) < (n : Int) := by omega
        have t1 : Int.tdiv (n : Int) 2 = (h2 : Int) := by rw [Int.tdiv_eq_ediv_of_nonneg (by omega)]; omega
        have t2 : (n : Int) / 2 = (h2 : Int) := by omega
        have T1 : Hid (Int.tdiv (n : Int) 2 = (h2 : Int)) := t1
        have T2 : Hid ((n : Int) / 2 = (h2 : Int)) := t2
        clear t1 t2 hh2
        by_cases hodd : n % 2 = 1
        case pos =>
          have m1 : Int.tmod (n : Int) 2 = 1 := by rw [Int.tmod_eq_emod_of_nonneg (by omega)]; omega
          have m2 : (n : Int) % 2 = 1 := by omega
          have m3 : IntKind.i64.wrap (Int.tmod (n : Int) 2) = 1 := by rw [m1]; rfl
          have m4 : IntKind.i64.wrap ((n : Int) % 2) = 1 := by rw [m2]; rfl
          have bd : Hid (Below wr.heap.size wr wr.drew) := (Below.refl _ _).drew
          go_upto_region 8 with fail
          go_cut [10] (fun s wx => ∃ (ra : Option Addr) (rc : Nat), s = .slice ra (dr (om O S a3) A2 a3).length rc ∧ Hid (Own wx wr.heap.size wx.heap.size (.slice ra (dr (om O S a3) A2 a3).length rc) (dr (om O S a3) A2 a3)) ∧ Hid (Below wr.heap.size wr wx))
          case first =>
            go_region_held3 (fun w' => w'.cell? ⟨(w.heap.size + 1), 0, none⟩ = some (.slice ao2 A2.length cap2) ∧ Hid (Below wr.heap.size wr w'))
              (first | exact ⟨(XB.out.kept bd.out).cell, bd⟩ | exact ⟨(XB.out.kept b1.out).cell, b1⟩ | exact ⟨(XB.out.kept b2.out).cell, b2⟩ | exact ⟨(XB.out.kept b3.out).cell, b3⟩)
              (first
                | (go_at_call 91; refine (mul_any (OL.out.below bd.out) (SL.out.below bd.out) (gd40 GO.out) (gd40 GS.out) (om_bd HP.out GO.out GS.out)).mono ?_; rintro e wa ⟨va, rfl, o, b⟩; obtain ⟨aa, ac, rfl⟩ := o.shape; have b1 : Hid (Below wr.heap.size wr wa) := bd.out.trans (b.mono bd.out.size); have M1 : Hid (Ls wa (.slice aa (prod O S).length ac) (prod O S)) := o.ls (Nat.le_refl _); clear o b)
                | (go_at_call 90; refine (mods_any M1.out (pr_ne GO.out GS.out).1 (pr_ne GO.out GS.out).2 a3 HP1.out).mono ?_; rintro e wb ⟨va, rfl, o, b⟩; obtain ⟨ba, bc, rfl⟩ := o.shape; have b2 : Hid (Below wr.heap.size wr wb) := b1.out.trans (b.mono b1.out.size); have M2 : Hid (Ls wb (.slice ba (trim (mods (prod O S) a3)).length bc) (om O S a3)) := o.ls (Nat.le_refl _); clear o b)
                | (go_at_call 83; refine (sdiv_any M2.out (BL.out.below b2.out) HP.out (om_gd HP.out GO.out GS.out GB.out HB2.out).1 (om_gd HP.out GO.out GS.out GB.out HB2.out).2.1 GB.out.1 GB.out.2.1 HLB.out).mono ?_; rintro e wd ⟨vq, vr, rfl, oq, o, b⟩; obtain ⟨qa, qc, rfl⟩ := oq.shape; obtain ⟨ra, rc, rfl⟩ := o.shape; have b3 : Hid (Below wr.heap.size wr wd) := b2.out.trans (b.mono b2.out.size); have M3 : Hid (Own wd wr.heap.size wd.heap.size (.slice ra (dr (om O S a3) A2 a3).length rc) (dr (om O S a3) A2 a3)) := o.wide b2.out.size (Nat.le_refl _); clear o oq b))
            all_goals (go_wp2_with fail; go_meet; exact ⟨_, _, rfl, M3, b3⟩)
          case rest =>
          obtain ⟨Pa, Pc, rfl, Po, Pb⟩ := hcut
          have PG : Hid (Gd (dr (om O S a3) A2 a3) a3) := (om_gd HP.out GO.out GS.out GB.out HB2.out).2.2
          obtain ⟨Pw, hwc⟩ : ∃ x, x = wc := ⟨_, rfl⟩
          rw [← hwc] at Po Pb ⊢
          clear hwc bd
          replace BL : Hid (Ls Pw (.slice ao2 A2.length cap2) A2) := BL.out.below Pb.out
          replace XB : Hid (Bx Pw (w.heap.size + 1) (.slice ao2 A2.length cap2)) := XB.out.kept Pb.out
          replace SL : Hid (Ls Pw (.slice sa S.length sc) S) := SL.out.below Pb.out
          replace cB := XB.out.cell
          clear m1 m2 m3 m4
          have bd : Hid (Below Pw.heap.size Pw Pw.drew) := (Below.refl _ _).drew
          go_upto_region 9 with fail
          go_region_held3 (fun w' => w'.cell? ⟨(w.heap.size + 1), 0, none⟩ = some (.slice ao2 A2.length cap2) ∧ Hid (Below Pw.heap.size Pw w'))
            (first | exact ⟨(XB.out.kept bd.out).cell, bd⟩ | exact ⟨(XB.out.kept b1.out).cell, b1⟩ | exact ⟨(XB.out.kept b2.out).cell, b2⟩ | exact ⟨(XB.out.kept b3.out).cell, b3⟩)
            (first
              | (go_at_call 91; refine (mul_any (SL.out.below bd.out) (SL.out.below bd.out) (gd40 GS.out) (gd40 GS.out) (om_bd HP.out GS.out GS.out)).mono ?_; rintro e wa ⟨va, rfl, o, b⟩; obtain ⟨aa, ac, rfl⟩ := o.shape; have b1 : Hid (Below Pw.heap.size Pw wa) := bd.out.trans (b.mono bd.out.size); have M1 : Hid (Ls wa (.slice aa (prod S S).length ac) (prod S S)) := o.ls (Nat.le_refl _); clear o b)
              | (go_at_call 90; refine (mods_any M1.out (pr_ne GS.out GS.out).1 (pr_ne GS.out GS.out).2 a3 HP1.out).mono ?_; rintro e wb ⟨va, rfl, o, b⟩; obtain ⟨ba, bc, rfl⟩ := o.shape; have b2 : Hid (Below Pw.heap.size Pw wb) := b1.out.trans (b.mono b1.out.size); have M2 : Hid (Ls wb (.slice ba (trim (mods (prod S S) a3)).length bc) (om S S a3)) := o.ls (Nat.le_refl _); clear o b)
              | (go_at_call 83; refine (sdiv_any M2.out (BL.out.below b2.out) HP.out (om_gd HP.out GS.out GS.out GB.out HB2.out).1 (om_gd HP.out GS.out GS.out GB.out HB2.out).2.1 GB.out.1 GB.out.2.1 HLB.out).mono ?_; rintro e wd ⟨vq, vr, rfl, oq, o, b⟩; obtain ⟨qa, qc, rfl⟩ := oq.shape; obtain ⟨ra, rc, rfl⟩ := o.shape; have b3 : Hid (Below Pw.heap.size Pw wd) := b2.out.trans (b.mono b2.out.size); have M3 : Hid (Own wd Pw.heap.size wd.heap.size (.slice ra (dr (om S S a3) A2 a3).length rc) (dr (om S S a3) A2 a3)) := o.wide b2.out.size (Nat.le_refl _); clear o oq b))
          all_goals
            have Qo : Hid (Own wd Pw.heap.size wd.heap.size (.slice ra (dr (om S S a3) A2 a3).length rc) (dr (om S S a3) A2 a3)) := M3
            have Qb : Hid (Below Pw.heap.size Pw wd) := b3
            have QG : Hid (Gd (dr (om S S a3) A2 a3) a3) := (om_gd HP.out GS.out GS.out GB.out HB2.out).2.2
            have T3 : IntKind.i64.wrap (Int.tdiv (n : Int) 2) = (h2 : Int) := by rw [T1.out]; exact IntWalk.i64_in _ (by omega)
            have T3' : wrap64 (Int.tdiv (n : Int) 2) = (h2 : Int) := by rw [T1.out]; exact IntWalk.wrap64_in _ (by omega)
            have T4 : IntKind.i64.wrap ((n : Int) / 2) = (h2 : Int) := by rw [T2.out]; exact IntWalk.i64_in _ (by omega)
            have T5 := T1.out
            have T6 := T2.out
            have HRN : Hid (pwr A2 a3 j h2 (dr (om O S a3) A2 a3) (dr (om S S a3) A2 a3) = X0) := by show _ = X0; rw [← hres.out, pwr_odd hn hodd, HH2.out]
            have OE : Hid (Own wd w1.heap.size wd.heap.size (.slice Pa (dr (om O S a3) A2 a3).length Pc) (dr (om O S a3) A2 a3)) := (Po.out.kept Qb.out).wide (by have := hb.out.size; have := LOW.out; omega) (Qb.out.size)
            have SE : Hid (Ls wd (.slice ra (dr (om S S a3) A2 a3).length rc) (dr (om S S a3) A2 a3)) := Qo.out.ls (Nat.le_refl _)
            have BE : Hid (Below wt.heap.size wt wd) := (hb.out.trans (Pb.out.mono hb.out.size)).trans (Qb.out.mono (by have := hb.out.size; have := Pb.out.size; omega))
            have GE : Hid (Gd (dr (om O S a3) A2 a3) a3 ∧ Gd (dr (om S S a3) A2 a3) a3) := ⟨PG.out, QG.out⟩
            clear T1 T2 hodd
            go_wp2_with fail
            go_roundg j
            case rel => exact ⟨h2, dr (om O S a3) A2 a3, dr (om S S a3) A2 a3, Pa, ra, Pc, rc, rfl, rfl, rfl, hnj, hn62, HRN, GE, OE, SE, BE⟩
            case measure => omega
        case neg =>
          have m1 : Int.tmod (n : Int) 2 = 0 := by rw [Int.tmod_eq_emod_of_nonneg (by omega)]; omega
          have m2 : (n : Int) % 2 = 0 := by omega
          have m3 : IntKind.i64.wrap (Int.tmod (n : Int) 2) = 0 := by rw [m1]; rfl
          have m4 : IntKind.i64.wrap ((n : Int) % 2) = 0 := by rw [m2]; rfl
          have HOD : Hid (¬ n % 2 = 1) := hodd
          clear hodd
          have bd : Hid (Below wr.heap.size wr wr.drew) := (Below.refl _ _).drew
          go_upto_region 9 with fail
          clear m1 m2 m3 m4
          go_region_held3 (fun w' => w'.cell? ⟨(w.heap.size + 1), 0, none⟩ = some (.slice ao2 A2.length cap2) ∧ Hid (Below wr.heap.size wr w'))
            (first | exact ⟨(XB.out.kept bd.out).cell, bd⟩ | exact ⟨(XB.out.kept b1.out).cell, b1⟩ | exact ⟨(XB.out.kept b2.out).cell, b2⟩ | exact ⟨(XB.out.kept b3.out).cell, b3⟩)
            (first
              | (go_at_call 91; refine (mul_any (SL.out.below bd.out) (SL.out.below bd.out) (gd40 GS.out) (gd40 GS.out) (om_bd HP.out GS.out GS.out)).mono ?_; rintro e wa ⟨va, rfl, o, b⟩; obtain ⟨aa, ac, rfl⟩ := o.shape; have b1 : Hid (Below wr.heap.size wr wa) := bd.out.trans (b.mono bd.out.size); have M1 : Hid (Ls wa (.slice aa (prod S S).length ac) (prod S S)) := o.ls (Nat.le_refl _); clear o b)
              | (go_at_call 90; refine (mods_any M1.out (pr_ne GS.out GS.out).1 (pr_ne GS.out GS.out).2 a3 HP1.out).mono ?_; rintro e wb ⟨va, rfl, o, b⟩; obtain ⟨ba, bc, rfl⟩ := o.shape; have b2 : Hid (Below wr.heap.size wr wb) := b1.out.trans (b.mono b1.out.size); have M2 : Hid (Ls wb (.slice ba (trim (mods (prod S S) a3)).length bc) (om S S a3)) := o.ls (Nat.le_refl _); clear o b)
              | (go_at_call 83; refine (sdiv_any M2.out (BL.out.below b2.out) HP.out (om_gd HP.out GS.out GS.out GB.out HB2.out).1 (om_gd HP.out GS.out GS.out GB.out HB2.out).2.1 GB.out.1 GB.out.2.1 HLB.out).mono ?_; rintro e wd ⟨vq, vr, rfl, oq, o, b⟩; obtain ⟨qa, qc, rfl⟩ := oq.shape; obtain ⟨ra, rc, rfl⟩ := o.shape; have b3 : Hid (Below wr.heap.size wr wd) := b2.out.trans (b.mono b2.out.size); have M3 : Hid (Own wd wr.heap.size wd.heap.size (.slice ra (dr (om S S a3) A2 a3).length rc) (dr (om S S a3) A2 a3)) := o.wide b2.out.size (Nat.le_refl _); clear o oq b))
          all_goals
            have Qo : Hid (Own wd wr.heap.size wd.heap.size (.slice ra (dr (om S S a3) A2 a3).length rc) (dr (om S S a3) A2 a3)) := M3
            have Qb : Hid (Below wr.heap.size wr wd) := b3
            have QG : Hid (Gd (dr (om S S a3) A2 a3) a3) := (om_gd HP.out GS.out GS.out GB.out HB2.out).2.2
            have T3 : IntKind.i64.wrap (Int.tdiv (n : Int) 2) = (h2 : Int) := by rw [T1.out]; exact IntWalk.i64_in _ (by omega)
            have T3' : wrap64 (Int.tdiv (n : Int) 2) = (h2 : Int) := by rw [T1.out]; exact IntWalk.wrap64_in _ (by omega)
            have T4 : IntKind.i64.wrap ((n : Int) / 2) = (h2 : Int) := by rw [T2.out]; exact IntWalk.i64_in _ (by omega)
            have T5 := T1.out
            have T6 := T2.out
            have HRN : Hid (pwr A2 a3 j h2 O (dr (om S S a3) A2 a3) = X0) := by show _ = X0; rw [← hres.out, pwr_even hn HOD.out, HH2.out]
            have OE : Hid (Own wd w1.heap.size wd.heap.size (.slice oa O.length oc) O) := (OO.out.kept Qb.out).wide (Nat.le_refl _) (Qb.out.size)
            have SE : Hid (Ls wd (.slice ra (dr (om S S a3) A2 a3).length rc) (dr (om S S a3) A2 a3)) := Qo.out.ls (Nat.le_refl _)
            have BE : Hid (Below wt.heap.size wt wd) := hb.out.trans (Qb.out.mono hb.out.size)
            have GE : Hid (Gd O a3 ∧ Gd (dr (om S S a3) A2 a3) a3) := ⟨GO.out, QG.out⟩
            clear T1 T2
            go_wp2_with fail
            go_roundg j
            case rel => exact ⟨h2, O, dr (om S S a3) A2 a3, oa, ra, oc, rc, rfl, rfl, rfl, hnj, hn62, HRN, GE, OE, SE, BE⟩
            case measure => omega

set_option maxRecDepth 100000 in
set_option maxHeartbeats 4000000 in
theorem impl_any {A0 A2 : List Int} {v0 v2 : Value} {w : World} (h0 : Wh w v0 A0) (h2 : Wh w v2 A2) (a1 : Int) (_b1 : (Lit.int .i64 a1).wf = true) (a3 : Int) (_b3 : (Lit.int .i64 a3).wf = true) : Calls Try.prog 36 #[v0, .int .i64 a1, v2, .int .i64 a3] w (AnsI (R A0 a1 A2 a3) (ok A0 a1 A2 a3) w) := by
  obtain ⟨s0, rfl, h0⟩ := h0
  obtain ⟨ao0, cap0, rfl⟩ := h0.shape
  obtain ⟨s2, rfl, h2⟩ := h2
  obtain ⟨ao2, cap2, rfl⟩ := h2.shape
  have R0 : Hid (Rd w w.heap.size (.slice ao0 A0.length cap0) A0) := h0
  have R2 : Hid (Rd w w.heap.size (.slice ao2 A2.length cap2) A2) := h2
  clear h0 h2
  have B0 : Hid (Below w.heap.size w w) := Below.refl _ _
  obtain ⟨w1, hw⟩ : ∃ x, x = (((w.alloc (.cells #[(.slice ao0 A0.length cap0)] 26)).alloc (.cells #[(.slice ao2 A2.length cap2)] 26)).alloc (.cells #[.slice none 0 0] 26)) := ⟨_, rfl⟩
  have b : Below w.heap.size w w1 := by rw [hw]; exact new3 _ _ _ _ 
  have Zw1 : Hid (w.heap.size ≤ w1.heap.size) := b.size
  replace B0 : Hid (Below w.heap.size w w1) := B0.out.trans (b.mono (Nat.le_refl _))
  replace R0 : Hid (Rd w1 w.heap.size (.slice ao0 A0.length cap0) A0) := R0.out.below b (Nat.le_refl _)
  replace R2 : Hid (Rd w1 w.heap.size (.slice ao2 A2.length cap2) A2) := R2.out.below b (Nat.le_refl _)
  have XP0 : Hid (Bx w1 w.heap.size (.slice ao0 A0.length cap0)) := by rw [hw]; exact Bx.alloc (Bx.alloc (Bx.new _ _ _) _) _
  have cXP0 : w1.cell? ⟨w.heap.size, 0, none⟩ = some (.slice ao0 A0.length cap0) := XP0.out.cell
  have XP2 : Hid (Bx w1 (w.heap.size + 1) (.slice ao2 A2.length cap2)) := by rw [hw]; exact Bx.alloc (Bx.new2 _ _ _ _ ) _
  have cXP2 : w1.cell? ⟨(w.heap.size + 1), 0, none⟩ = some (.slice ao2 A2.length cap2) := XP2.out.cell
  have XR : Hid (Bx w1 (w.heap.size + 1 + 1) (.slice none 0 0)) := by rw [hw]; exact Bx.new3 _ _ _ _ _ 
  have cXR : w1.cell? ⟨(w.heap.size + 1 + 1), 0, none⟩ = some (.slice none 0 0) := XR.out.cell
  have fXR : w1.frozen? ⟨(w.heap.size + 1 + 1), 0, none⟩ = false := XR.out.free
  have B1 : Hid (Below w1.heap.size w1 w1) := Below.refl _ _
  have BW : Hid (Below w.heap.size w w1) := B0.out
  have LR : Hid ((w.heap.size + 1 + 1) < w1.heap.size) := XR.out.lt
  have XR1 : Hid (Bx w1 (w.heap.size + 1 + 1) (.slice none 0 0)) := XR.out
  clear b
  go_enter Try.func36, Try.ntmps36
  go_wp2_with fail
  rw [← hw]
  clear hw
  refine (iover_any ⟨_, rfl, (R0.out.ls (by have := Zw1.out; omega))⟩ a3).mono ?_
  rintro e w2 ⟨rfl, b⟩
  have Zw2 : Hid (w1.heap.size ≤ w2.heap.size) := b.size
  replace B0 : Hid (Below w.heap.size w w2) := B0.out.trans (b.mono (by have := Zw1.out; omega))
  replace B1 : Hid (Below w1.heap.size w1 w2) := B1.out.trans (b.mono (Nat.le_refl _))
  replace R0 : Hid (Rd w2 w.heap.size (.slice ao0 A0.length cap0) A0) := R0.out.below b (by have := Zw1.out; omega)
  replace R2 : Hid (Rd w2 w.heap.size (.slice ao2 A2.length cap2) A2) := R2.out.below b (by have := Zw1.out; omega)
  replace XP0 : Hid (Bx w2 w.heap.size (.slice ao0 A0.length cap0)) := XP0.out.kept b
  replace cXP0 : w2.cell? ⟨w.heap.size, 0, none⟩ = some (.slice ao0 A0.length cap0) := XP0.out.cell
  replace XP2 : Hid (Bx w2 (w.heap.size + 1) (.slice ao2 A2.length cap2)) := XP2.out.kept b
  replace cXP2 : w2.cell? ⟨(w.heap.size + 1), 0, none⟩ = some (.slice ao2 A2.length cap2) := XP2.out.cell
  replace XR : Hid (Bx w2 (w.heap.size + 1 + 1) (.slice none 0 0)) := XR.out.kept b
  replace cXR : w2.cell? ⟨(w.heap.size + 1 + 1), 0, none⟩ = some (.slice none 0 0) := XR.out.cell
  replace fXR : w2.frozen? ⟨(w.heap.size + 1 + 1), 0, none⟩ = false := XR.out.free
  clear b
  cases hv0 : over A0 a3 with
  | false =>
    have Y := out_no B0.out (by omega) XR.out
    have HR : Hid (AnsI (R A0 a1 A2 a3) (ok A0 a1 A2 a3) w (.returned (.tuple #[.agg #[.slice none 0 0], .bool false])) (w2.setCell ⟨(w.heap.size + 1 + 1), 0, none⟩ (.slice none 0 0))) := by
      have e1 : R A0 a1 A2 a3 = [] := by simp [R, pre, hv0]
      have e2 : ok A0 a1 A2 a3 = false := by simp [ok, pre, hv0]
      rw [e1, e2]; exact Y.1
    have y := Y.2
    clear Y
    go_wp2_with fail
    exact bodyPost_ret (v := .tuple #[.agg #[.slice none 0 0], .bool false]) (by simp [results, Try.results36, y, go_sem]) rfl HR.out
  | true =>
    have Hhv0 : Hid (over A0 a3 = true) := hv0
    clear hv0
    go_wp2_with fail
    refine (iover_any ⟨_, rfl, (R2.out.ls (by have := Zw1.out; have := Zw2.out; omega))⟩ a3).mono ?_
    rintro e w3 ⟨rfl, b⟩
    have Zw3 : Hid (w2.heap.size ≤ w3.heap.size) := b.size
    replace B0 : Hid (Below w.heap.size w w3) := B0.out.trans (b.mono (by have := Zw1.out; have := Zw2.out; omega))
    replace B1 : Hid (Below w1.heap.size w1 w3) := B1.out.trans (b.mono (by have := Zw2.out; omega))
    replace R0 : Hid (Rd w3 w.heap.size (.slice ao0 A0.length cap0) A0) := R0.out.below b (by have := Zw1.out; have := Zw2.out; omega)
    replace R2 : Hid (Rd w3 w.heap.size (.slice ao2 A2.length cap2) A2) := R2.out.below b (by have := Zw1.out; have := Zw2.out; omega)
    replace XP0 : Hid (Bx w3 w.heap.size (.slice ao0 A0.length cap0)) := XP0.out.kept b
    replace cXP0 : w3.cell? ⟨w.heap.size, 0, none⟩ = some (.slice ao0 A0.length cap0) := XP0.out.cell
    replace XP2 : Hid (Bx w3 (w.heap.size + 1) (.slice ao2 A2.length cap2)) := XP2.out.kept b
    replace cXP2 : w3.cell? ⟨(w.heap.size + 1), 0, none⟩ = some (.slice ao2 A2.length cap2) := XP2.out.cell
    replace XR : Hid (Bx w3 (w.heap.size + 1 + 1) (.slice none 0 0)) := XR.out.kept b
    replace cXR : w3.cell? ⟨(w.heap.size + 1 + 1), 0, none⟩ = some (.slice none 0 0) := XR.out.cell
    replace fXR : w3.frozen? ⟨(w.heap.size + 1 + 1), 0, none⟩ = false := XR.out.free
    clear b
    cases hv2 : over A2 a3 with
    | false =>
      have Y := out_no B0.out (by omega) XR.out
      have HR : Hid (AnsI (R A0 a1 A2 a3) (ok A0 a1 A2 a3) w (.returned (.tuple #[.agg #[.slice none 0 0], .bool false])) (w3.setCell ⟨(w.heap.size + 1 + 1), 0, none⟩ (.slice none 0 0))) := by
        have e1 : R A0 a1 A2 a3 = [] := by simp [R, pre, Hhv0.out, hv2]
        have e2 : ok A0 a1 A2 a3 = false := by simp [ok, pre, Hhv0.out, hv2]
        rw [e1, e2]; exact Y.1
      have y := Y.2
      clear Y
      go_wp2_with fail
      exact bodyPost_ret (v := .tuple #[.agg #[.slice none 0 0], .bool false]) (by simp [results, Try.results36, y, go_sem]) rfl HR.out
    | true =>
      have Hhv2 : Hid (over A2 a3 = true) := hv2
      clear hv2
      have HP : Hid (isP a3 = true) := (over_val Hhv0.out).1
      have HP1 : Hid (1 ≤ a3 ∧ a3 ≤ 1000000) := ⟨by have := isP_le HP.out; omega, by have := isP_le HP.out; omega⟩
      have GA : Hid (Gd A0 a3) := Gd.of_over Hhv0.out
      have GB : Hid (Gd A2 a3) := Gd.of_over Hhv2.out
      go_wp2_with fail
      refine (deg_any (R2.out.ls (by have := Zw1.out; have := Zw2.out; have := Zw3.out; omega))).mono ?_
      rintro e w0 ⟨rfl, hw0⟩
      rw [hw0]
      clear hw0
      by_cases hl2 : A2.length < 2
      case pos =>
        have HNO : Hid (pre A0 a1 A2 a3 = false) := by show pre A0 a1 A2 a3 = false; unfold pre; rw [decide_eq_false (show ¬ 2 ≤ A2.length by omega)]; simp
        have hl3 : (A2.length : Int) < 2 := by omega
        have hl4 : (A2.length : Int) - 1 < 1 := by omega
        have Y := out_no B0.out (by omega) XR.out
        have HR : Hid (AnsI (R A0 a1 A2 a3) (ok A0 a1 A2 a3) w (.returned (.tuple #[.agg #[.slice none 0 0], .bool false])) (w3.setCell ⟨(w.heap.size + 1 + 1), 0, none⟩ (.slice none 0 0))) := by
          show AnsI _ _ _ _ _
          rw [(pre_no HNO.out).1, (pre_no HNO.out).2]; exact Y.1
        have y := Y.2
        clear Y
        go_wp2_with fail
        exact bodyPost_ret (v := .tuple #[.agg #[.slice none 0 0], .bool false]) (by simp [results, Try.results36, y, go_sem]) rfl HR.out
      have HB2 : Hid (2 ≤ A2.length) := by show 2 ≤ A2.length; omega
      have HLB : Hid (at' A2 (A2.length - 1) ≠ 0) := gd_last GB.out HB2.out
      have hl3 : ¬ (A2.length : Int) < 2 := by omega
      have hl4 : ¬ (A2.length : Int) - 1 < 1 := by omega
      clear hl2
      go_wp2_with fail
      refine (from_any a1 0 1000000 _).mono ?_
      rintro e w0 ⟨rfl, hw0⟩
      rw [hw0]
      clear hw0
      by_cases hpw : 0 ≤ a1 ∧ a1 ≤ 1000000
      case neg =>
        have HNO : Hid (pre A0 a1 A2 a3 = false) := by show pre A0 a1 A2 a3 = false; unfold pre; rw [decide_eq_false hpw]; simp
        rw [decide_eq_false hpw]
        clear hpw
        have Y := out_no B0.out (by omega) XR.out
        have HR : Hid (AnsI (R A0 a1 A2 a3) (ok A0 a1 A2 a3) w (.returned (.tuple #[.agg #[.slice none 0 0], .bool false])) (w3.setCell ⟨(w.heap.size + 1 + 1), 0, none⟩ (.slice none 0 0))) := by
          show AnsI _ _ _ _ _
          rw [(pre_no HNO.out).1, (pre_no HNO.out).2]; exact Y.1
        have y := Y.2
        clear Y
        go_wp2_with fail
        exact bodyPost_ret (v := .tuple #[.agg #[.slice none 0 0], .bool false]) (by simp [results, Try.results36, y, go_sem]) rfl HR.out
      rw [decide_eq_true hpw]
      have HPR : Hid (pre A0 a1 A2 a3 = true) := by show pre A0 a1 A2 a3 = true; unfold pre; rw [Hhv0.out, Hhv2.out, decide_eq_true HB2.out, decide_eq_true hpw]; rfl
      obtain ⟨n0, hn0⟩ : ∃ n : Nat, a1 = (n : Int) := ⟨a1.toNat, by omega⟩
      have HXE : Hid (pwr A2 a3 n0 n0 [1] (dr A0 A2 a3) = X A0 a1 A2 a3) := by show _ = X A0 a1 A2 a3; unfold X; rw [hn0]; rfl
      have HXG : Hid (Gd (X A0 a1 A2 a3) a3) := x_gd Hhv0.out Hhv2.out HB2.out
      have HXV : Hid (val (trim (X A0 a1 A2 a3)) = true ∧ gv (X A0 a1 A2 a3) = X A0 a1 A2 a3) := x_val Hhv0.out Hhv2.out HB2.out
      have HXF : Hid (pwr A2 a3 n0 n0 [1] A0 = pwr A2 a3 n0 n0 [1] (dr A0 A2 a3)) := pwr_first HP.out GA.out.1 GB.out.1 HLB.out _ _
      have HN0 : Hid (a1 = (n0 : Int)) := hn0
      have hn6 : n0 ≤ 1000000 := by omega
      have GONE : Hid (Gd [1] a3) := gd_one HP.out
      obtain ⟨X0, hX0⟩ : ∃ x, x = X A0 a1 A2 a3 := ⟨_, rfl⟩
      have HX0 : Hid (X0 = X A0 a1 A2 a3) := hX0
      rw [← hX0] at HXE HXG HXV
      clear hpw hX0
      have dXP0 : (w3.alloc (.cells #[.int .i64 1] 2)).cell? ⟨w.heap.size, 0, none⟩ = some (.slice ao0 A0.length cap0) := (XP0.out.alloc _).cell
      have dXP2 : (w3.alloc (.cells #[.int .i64 1] 2)).cell? ⟨(w.heap.size + 1), 0, none⟩ = some (.slice ao2 A2.length cap2) := (XP2.out.alloc _).cell
      have eXP0 := cXP0
      have eXP2 := cXP2
      obtain ⟨ws, hws⟩ : ∃ x, x = w3.alloc (.cells #[.int .i64 1] 2) := ⟨_, rfl⟩
      have bs : Below w3.heap.size w3 ws := by rw [hws]; exact new1 _ _
      have OONE : Hid (Own ws w3.heap.size ws.heap.size (.slice (some ⟨w3.heap.size, 0, none⟩) 1 1) [1]) := by
        rw [hws]
        exact Own.of_row (World.ownsRow_lit (base := w3.heap.size) (e := 2) (size := 1) w3 #[.int .i64 1] 1 (Nat.le_refl _) (by decide) rfl) (by decide) (Nat.le_refl _)
      have Zws : Hid (w3.heap.size ≤ ws.heap.size) := bs.size
      replace B0 : Hid (Below w.heap.size w ws) := B0.out.trans (bs.mono (by have := Zw1.out; have := Zw2.out; have := Zw3.out; omega))
      replace B1 : Hid (Below w1.heap.size w1 ws) := B1.out.trans (bs.mono (by have := Zw2.out; have := Zw3.out; omega))
      replace R0 : Hid (Rd ws w.heap.size (.slice ao0 A0.length cap0) A0) := R0.out.below bs (by have := Zw1.out; have := Zw2.out; have := Zw3.out; omega)
      replace R2 : Hid (Rd ws w.heap.size (.slice ao2 A2.length cap2) A2) := R2.out.below bs (by have := Zw1.out; have := Zw2.out; have := Zw3.out; omega)
      replace XP0 : Hid (Bx ws w.heap.size (.slice ao0 A0.length cap0)) := XP0.out.kept bs
      replace cXP0 : ws.cell? ⟨w.heap.size, 0, none⟩ = some (.slice ao0 A0.length cap0) := XP0.out.cell
      replace XP2 : Hid (Bx ws (w.heap.size + 1) (.slice ao2 A2.length cap2)) := XP2.out.kept bs
      replace cXP2 : ws.cell? ⟨(w.heap.size + 1), 0, none⟩ = some (.slice ao2 A2.length cap2) := XP2.out.cell
      replace XR : Hid (Bx ws (w.heap.size + 1 + 1) (.slice none 0 0)) := XR.out.kept bs
      replace cXR : ws.cell? ⟨(w.heap.size + 1 + 1), 0, none⟩ = some (.slice none 0 0) := XR.out.cell
      replace fXR : ws.frozen? ⟨(w.heap.size + 1 + 1), 0, none⟩ = false := XR.out.free
      clear bs
      go_wp2_with fail
      rw [← hws]
      clear hws dXP0 dXP2 eXP0 eXP2
      have SST : Hid (Ls ws (.slice ao0 A0.length cap0) A0) := (R0.out.ls (by have := Zw1.out; have := Zw2.out; have := Zw3.out; have := Zws.out; omega))
      have GST : Hid (Gd A0 a3) := GA
      have HST : Hid (pwr A2 a3 n0 n0 [1] A0 = X0) := by show _ = X0; rw [HXF.out]; exact HXE.out
      obtain ⟨wk, hwk⟩ : ∃ x, x = ws := ⟨_, rfl⟩
      have LOW : Hid (w3.heap.size ≤ ws.heap.size ∧ w1.heap.size ≤ w3.heap.size) := ⟨(by have := Zws.out; omega), (by have := Zw2.out; have := Zw3.out; omega)⟩
      clear hwk
      go_loopg [1, 10, 11] n0 (fun k pw s o wr => ∃ (n : Nat) (O S : List Int) (oa sa : Option Addr) (oc sc : Nat), pw = .int .i64 (n : Int) ∧ o = .slice oa O.length oc ∧ s = .slice sa S.length sc ∧ n ≤ k ∧ n ≤ 1000000 ∧ Hid (pwr A2 a3 k n O S = X0) ∧ Hid (Gd O a3 ∧ Gd S a3) ∧ Hid (Own wr w3.heap.size wr.heap.size (.slice oa O.length oc) O) ∧ Hid (Ls wr (.slice sa S.length sc) S) ∧ Hid (Below ws.heap.size ws wr))
      case atStart => exact ⟨n0, [1], A0, _, ao0, _, cap0, by first | rfl | rw [HN0.out], rfl, rfl, Nat.le_refl _, hn6, HST, ⟨GONE.out, GST.out⟩, OONE, SST, Below.refl _ _⟩
      case round =>
        obtain ⟨n, O, S, oa, sa, oc, sc, rfl, rfl, rfl, hnk, hn6', hres, hgd, OO, SL, hb⟩ := hrel
        clear SST GST HST OONE
        have GO : Hid (Gd O a3) := hgd.out.1
        have GS : Hid (Gd S a3) := hgd.out.2
        have OL : Hid (Ls wr (.slice oa O.length oc) O) := OO.out.ls (Nat.le_refl _)
        have BL : Hid (Ls wr (.slice ao2 A2.length cap2) A2) := ((R2.out.ls (by have := Zw1.out; have := Zw2.out; have := Zw3.out; have := Zws.out; omega))).below hb.out
        have XB : Hid (Bx wr (w.heap.size + 1) (.slice ao2 A2.length cap2)) := XP2.out.kept hb.out
        by_cases hn : n = 0
        case pos =>
          subst hn
          have HXO : Hid (O = X0) := by have := hres.out; rw [pwr_stop] at this; exact this
          have hbo := hb.out
          have Zwr : Hid (ws.heap.size ≤ wr.heap.size) := hbo.size
          replace B0 : Hid (Below w.heap.size w wr) := B0.out.trans (hbo.mono (by have := Zw1.out; have := Zw2.out; have := Zw3.out; have := Zws.out; omega))
          replace B1 : Hid (Below w1.heap.size w1 wr) := B1.out.trans (hbo.mono (by have := Zw2.out; have := Zw3.out; have := Zws.out; omega))
          replace R0 : Hid (Rd wr w.heap.size (.slice ao0 A0.length cap0) A0) := R0.out.below hbo (by have := Zw1.out; have := Zw2.out; have := Zw3.out; have := Zws.out; omega)
          replace R2 : Hid (Rd wr w.heap.size (.slice ao2 A2.length cap2) A2) := R2.out.below hbo (by have := Zw1.out; have := Zw2.out; have := Zw3.out; have := Zws.out; omega)
          replace XP0 : Hid (Bx wr w.heap.size (.slice ao0 A0.length cap0)) := XP0.out.kept hbo
          replace cXP0 : wr.cell? ⟨w.heap.size, 0, none⟩ = some (.slice ao0 A0.length cap0) := XP0.out.cell
          replace XP2 : Hid (Bx wr (w.heap.size + 1) (.slice ao2 A2.length cap2)) := XP2.out.kept hbo
          replace cXP2 : wr.cell? ⟨(w.heap.size + 1), 0, none⟩ = some (.slice ao2 A2.length cap2) := XP2.out.cell
          replace XR : Hid (Bx wr (w.heap.size + 1 + 1) (.slice none 0 0)) := XR.out.kept hbo
          replace cXR : wr.cell? ⟨(w.heap.size + 1 + 1), 0, none⟩ = some (.slice none 0 0) := XR.out.cell
          replace fXR : wr.frozen? ⟨(w.heap.size + 1 + 1), 0, none⟩ = false := XR.out.free
          have OT : Hid (Own wr w3.heap.size wr.heap.size (.slice oa X0.length oc) X0) := by
            show Own _ _ _ _ _
            rw [← HXO.out]; exact OO.out
          rw [HXO.out]
          clear hres hgd OO SL hb GO GS OL BL XB hbo
          have o2 : Own wr w1.heap.size wr.heap.size (.slice oa X0.length oc) X0 := OT.out.wide LOW.out.2 (Nat.le_refl _)
          have Y := out_yes (ok := true) (W1 := w1) (w := w) (r := (w.heap.size + 1 + 1)) BW.out (by omega) LR.out XR.out o2 B1.out
          have HR : Hid (AnsI (R A0 a1 A2 a3) (ok A0 a1 A2 a3) w (.returned (.tuple #[.agg #[.slice oa X0.length oc], .bool true])) (wr.setCell ⟨(w.heap.size + 1 + 1), 0, none⟩ (.slice oa X0.length oc))) := by
            have e1 : R A0 a1 A2 a3 = X0 := by unfold R; rw [if_pos HPR.out, ← HX0.out]; exact HXV.out.2
            have e2 : ok A0 a1 A2 a3 = true := by unfold ok; rw [HPR.out, ← HX0.out, HXV.out.1]; rfl
            show AnsI _ _ _ _ _
            rw [e1, e2]; exact Y.1
          have y := Y.2
          clear Y o2 OT
          generalize X0.length = gl at *
          go_wp2_with fail
          exact bodyPost_ret (v := .tuple #[.agg #[.slice oa gl oc], .bool true]) (by simp [results, Try.results36, y, go_sem]) rfl HR.out
        obtain ⟨j, rfl⟩ : ∃ j, gk = j + 1 := ⟨gk - 1, by omega⟩
        obtain ⟨h2, hh2⟩ : ∃ h, h = n / 2 := ⟨_, rfl⟩
        have HH2 : Hid (h2 = n / 2) := hh2
        have hnj : h2 ≤ j := by omega
        have hn62 : h2 ≤ 1000000 := by omega
        have cB := XB.out.cell
        have hn0' : (0 : Int) < (n : Int) := by omega
        have t1 : Int.tdiv (n : Int) 2 = (h2 : Int) := by rw [Int.tdiv_eq_ediv_of_nonneg (by omega)]; omega
        have t2 : (n : Int) / 2 = (h2 : Int) := by omega
        have T1 : Hid (Int.tdiv (n : Int) 2 = (h2 : Int)) := t1
        have T2 : Hid ((n : Int) / 2 = (h2 : Int)) := t2
        clear t1 t2 hh2
        by_cases hodd : n % 2 = 1
        case pos =>
          have m1 : Int.tmod (n : Int) 2 = 1 := by rw [Int.tmod_eq_emod_of_nonneg (by omega)]; omega
          have m2 : (n : Int) % 2 = 1 := by omega
          have m3 : IntKind.i64.wrap (Int.tmod (n : Int) 2) = 1 := by rw [m1]; rfl
          have m4 : IntKind.i64.wrap ((n : Int) % 2) = 1 := by rw [m2]; rfl
          have bd : Hid (Below wr.heap.size wr wr.drew) := (Below.refl _ _).drew
          go_upto_region 7 with fail
          go_cut [11] (fun s wx => ∃ (ra : Option Addr) (rc : Nat), s = .slice ra (dr (om O S a3) A2 a3).length rc ∧ Hid (Own wx wr.heap.size wx.heap.size (.slice ra (dr (om O S a3) A2 a3).length rc) (dr (om O S a3) A2 a3)) ∧ Hid (Below wr.heap.size wr wx))
          case first =>
            go_region_held3 (fun w' => w'.cell? ⟨(w.heap.size + 1), 0, none⟩ = some (.slice ao2 A2.length cap2) ∧ Hid (Below wr.heap.size wr w'))
              (first | exact ⟨(XB.out.kept bd.out).cell, bd⟩ | exact ⟨(XB.out.kept b2.out).cell, b2⟩ | exact ⟨(XB.out.kept b3.out).cell, b3⟩)
              (first
                | (go_at_call 92; refine (pover_any (OL.out.below bd.out) (SL.out.below bd.out) (gd40 GO.out) (gd40 GS.out) (om_bd HP.out GO.out GS.out) a3 HP1.out).mono ?_; rintro e wb ⟨va, rfl, o, b⟩; obtain ⟨ba, bc, rfl⟩ := o.shape; have b2 : Hid (Below wr.heap.size wr wb) := bd.out.trans (b.mono bd.out.size); have M2 : Hid (Ls wb (.slice ba (trim (mods (prod O S) a3)).length bc) (om O S a3)) := o.ls (Nat.le_refl _); clear o b)
                | (go_at_call 88; refine (irest_any M2.out (BL.out.below b2.out) HP.out (om_gd HP.out GO.out GS.out GB.out HB2.out).1 (om_gd HP.out GO.out GS.out GB.out HB2.out).2.1 GB.out.1 GB.out.2.1 HLB.out).mono ?_; rintro e wd ⟨vr, rfl, o, b⟩; obtain ⟨ra, rc, rfl⟩ := o.shape; have b3 : Hid (Below wr.heap.size wr wd) := b2.out.trans (b.mono b2.out.size); have M3 : Hid (Own wd wr.heap.size wd.heap.size (.slice ra (dr (om O S a3) A2 a3).length rc) (dr (om O S a3) A2 a3)) := o.wide b2.out.size (Nat.le_refl _); clear o b))
            all_goals (go_wp2_with fail; go_meet; exact ⟨_, _, rfl, M3, b3⟩)
          case rest =>
          obtain ⟨Pa, Pc, rfl, Po, Pb⟩ := hcut
          have PG : Hid (Gd (dr (om O S a3) A2 a3) a3) := (om_gd HP.out GO.out GS.out GB.out HB2.out).2.2
          obtain ⟨Pw, hwc⟩ : ∃ x, x = wc := ⟨_, rfl⟩
          rw [← hwc] at Po Pb ⊢
          clear hwc bd
          replace BL : Hid (Ls Pw (.slice ao2 A2.length cap2) A2) := BL.out.below Pb.out
          replace XB : Hid (Bx Pw (w.heap.size + 1) (.slice ao2 A2.length cap2)) := XB.out.kept Pb.out
          replace SL : Hid (Ls Pw (.slice sa S.length sc) S) := SL.out.below Pb.out
          replace cB := XB.out.cell
          clear m1 m2 m3 m4
          have bd : Hid (Below Pw.heap.size Pw Pw.drew) := (Below.refl _ _).drew
          go_upto_region 8 with fail
          go_region_held3 (fun w' => w'.cell? ⟨(w.heap.size + 1), 0, none⟩ = some (.slice ao2 A2.length cap2) ∧ Hid (Below Pw.heap.size Pw w'))
            (first | exact ⟨(XB.out.kept bd.out).cell, bd⟩ | exact ⟨(XB.out.kept b2.out).cell, b2⟩ | exact ⟨(XB.out.kept b3.out).cell, b3⟩)
            (first
              | (go_at_call 92; refine (pover_any (SL.out.below bd.out) (SL.out.below bd.out) (gd40 GS.out) (gd40 GS.out) (om_bd HP.out GS.out GS.out) a3 HP1.out).mono ?_; rintro e wb ⟨va, rfl, o, b⟩; obtain ⟨ba, bc, rfl⟩ := o.shape; have b2 : Hid (Below Pw.heap.size Pw wb) := bd.out.trans (b.mono bd.out.size); have M2 : Hid (Ls wb (.slice ba (trim (mods (prod S S) a3)).length bc) (om S S a3)) := o.ls (Nat.le_refl _); clear o b)
              | (go_at_call 88; refine (irest_any M2.out (BL.out.below b2.out) HP.out (om_gd HP.out GS.out GS.out GB.out HB2.out).1 (om_gd HP.out GS.out GS.out GB.out HB2.out).2.1 GB.out.1 GB.out.2.1 HLB.out).mono ?_; rintro e wd ⟨vr, rfl, o, b⟩; obtain ⟨ra, rc, rfl⟩ := o.shape; have b3 : Hid (Below Pw.heap.size Pw wd) := b2.out.trans (b.mono b2.out.size); have M3 : Hid (Own wd Pw.heap.size wd.heap.size (.slice ra (dr (om S S a3) A2 a3).length rc) (dr (om S S a3) A2 a3)) := o.wide b2.out.size (Nat.le_refl _); clear o b))
          all_goals
            have Qo : Hid (Own wd Pw.heap.size wd.heap.size (.slice ra (dr (om S S a3) A2 a3).length rc) (dr (om S S a3) A2 a3)) := M3
            have Qb : Hid (Below Pw.heap.size Pw wd) := b3
            have QG : Hid (Gd (dr (om S S a3) A2 a3) a3) := (om_gd HP.out GS.out GS.out GB.out HB2.out).2.2
            have T3 : IntKind.i64.wrap (Int.tdiv (n : Int) 2) = (h2 : Int) := by rw [T1.out]; exact IntWalk.i64_in _ (by omega)
            have T3' : wrap64 (Int.tdiv (n : Int) 2) = (h2 : Int) := by rw [T1.out]; exact IntWalk.wrap64_in _ (by omega)
            have T4 : IntKind.i64.wrap ((n : Int) / 2) = (h2 : Int) := by rw [T2.out]; exact IntWalk.i64_in _ (by omega)
            have T5 := T1.out
            have T6 := T2.out
            have HRN : Hid (pwr A2 a3 j h2 (dr (om O S a3) A2 a3) (dr (om S S a3) A2 a3) = X0) := by show _ = X0; rw [← hres.out, pwr_odd hn hodd, HH2.out]
            have OE : Hid (Own wd w3.heap.size wd.heap.size (.slice Pa (dr (om O S a3) A2 a3).length Pc) (dr (om O S a3) A2 a3)) := (Po.out.kept Qb.out).wide (by have := hb.out.size; have := LOW.out; omega) (Qb.out.size)
            have SE : Hid (Ls wd (.slice ra (dr (om S S a3) A2 a3).length rc) (dr (om S S a3) A2 a3)) := Qo.out.ls (Nat.le_refl _)
            have BE : Hid (Below ws.heap.size ws wd) := (hb.out.trans (Pb.out.mono hb.out.size)).trans (Qb.out.mono (by have := hb.out.size; have := Pb.out.size; omega))
            have GE : Hid (Gd (dr (om O S a3) A2 a3) a3 ∧ Gd (dr (om S S a3) A2 a3) a3) := ⟨PG.out, QG.out⟩
            clear T1 T2 hodd
            go_wp2_with fail
            go_roundg j
            case rel => exact ⟨h2, dr (om O S a3) A2 a3, dr (om S S a3) A2 a3, Pa, ra, Pc, rc, rfl, rfl, rfl, hnj, hn62, HRN, GE, OE, SE, BE⟩
            case measure => omega
        case neg =>
          have m1 : Int.tmod (n : Int) 2 = 0 := by rw [Int.tmod_eq_emod_of_nonneg (by omega)]; omega
          have m2 : (n : Int) % 2 = 0 := by omega
          have m3 : IntKind.i64.wrap (Int.tmod (n : Int) 2) = 0 := by rw [m1]; rfl
          have m4 : IntKind.i64.wrap ((n : Int) % 2) = 0 := by rw [m2]; rfl
          have HOD : Hid (¬ n % 2 = 1) := hodd
          clear hodd
          have bd : Hid (Below wr.heap.size wr wr.drew) := (Below.refl _ _).drew
          go_upto_region 8 with fail
          clear m1 m2 m3 m4
          go_region_held3 (fun w' => w'.cell? ⟨(w.heap.size + 1), 0, none⟩ = some (.slice ao2 A2.length cap2) ∧ Hid (Below wr.heap.size wr w'))
            (first | exact ⟨(XB.out.kept bd.out).cell, bd⟩ | exact ⟨(XB.out.kept b2.out).cell, b2⟩ | exact ⟨(XB.out.kept b3.out).cell, b3⟩)
            (first
              | (go_at_call 92; refine (pover_any (SL.out.below bd.out) (SL.out.below bd.out) (gd40 GS.out) (gd40 GS.out) (om_bd HP.out GS.out GS.out) a3 HP1.out).mono ?_; rintro e wb ⟨va, rfl, o, b⟩; obtain ⟨ba, bc, rfl⟩ := o.shape; have b2 : Hid (Below wr.heap.size wr wb) := bd.out.trans (b.mono bd.out.size); have M2 : Hid (Ls wb (.slice ba (trim (mods (prod S S) a3)).length bc) (om S S a3)) := o.ls (Nat.le_refl _); clear o b)
              | (go_at_call 88; refine (irest_any M2.out (BL.out.below b2.out) HP.out (om_gd HP.out GS.out GS.out GB.out HB2.out).1 (om_gd HP.out GS.out GS.out GB.out HB2.out).2.1 GB.out.1 GB.out.2.1 HLB.out).mono ?_; rintro e wd ⟨vr, rfl, o, b⟩; obtain ⟨ra, rc, rfl⟩ := o.shape; have b3 : Hid (Below wr.heap.size wr wd) := b2.out.trans (b.mono b2.out.size); have M3 : Hid (Own wd wr.heap.size wd.heap.size (.slice ra (dr (om S S a3) A2 a3).length rc) (dr (om S S a3) A2 a3)) := o.wide b2.out.size (Nat.le_refl _); clear o b))
          all_goals
            have Qo : Hid (Own wd wr.heap.size wd.heap.size (.slice ra (dr (om S S a3) A2 a3).length rc) (dr (om S S a3) A2 a3)) := M3
            have Qb : Hid (Below wr.heap.size wr wd) := b3
            have QG : Hid (Gd (dr (om S S a3) A2 a3) a3) := (om_gd HP.out GS.out GS.out GB.out HB2.out).2.2
            have T3 : IntKind.i64.wrap (Int.tdiv (n : Int) 2) = (h2 : Int) := by rw [T1.out]; exact IntWalk.i64_in _ (by omega)
            have T3' : wrap64 (Int.tdiv (n : Int) 2) = (h2 : Int) := by rw [T1.out]; exact IntWalk.wrap64_in _ (by omega)
            have T4 : IntKind.i64.wrap ((n : Int) / 2) = (h2 : Int) := by rw [T2.out]; exact IntWalk.i64_in _ (by omega)
            have T5 := T1.out
            have T6 := T2.out
            have HRN : Hid (pwr A2 a3 j h2 O (dr (om S S a3) A2 a3) = X0) := by show _ = X0; rw [← hres.out, pwr_even hn HOD.out, HH2.out]
            have OE : Hid (Own wd w3.heap.size wd.heap.size (.slice oa O.length oc) O) := (OO.out.kept Qb.out).wide (Nat.le_refl _) (Qb.out.size)
            have SE : Hid (Ls wd (.slice ra (dr (om S S a3) A2 a3).length rc) (dr (om S S a3) A2 a3)) := Qo.out.ls (Nat.le_refl _)
            have BE : Hid (Below ws.heap.size ws wd) := hb.out.trans (Qb.out.mono hb.out.size)
            have GE : Hid (Gd O a3 ∧ Gd (dr (om S S a3) A2 a3) a3) := ⟨GO.out, QG.out⟩
            clear T1 T2
            go_wp2_with fail
            go_roundg j
            case rel => exact ⟨h2, O, dr (om S S a3) A2 a3, oa, ra, oc, rc, rfl, rfl, rfl, hnj, hn62, HRN, GE, OE, SE, BE⟩
            case measure => omega
end Go.Proofs.Ythldlhpdnocmcaa.fPowerOver
