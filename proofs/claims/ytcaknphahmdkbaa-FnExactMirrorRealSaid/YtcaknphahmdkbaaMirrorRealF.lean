/- MirrorReal: what both sides answer. -/
import Derived.Test.YtcaknphahmdkbaaFrA
import Derived.Test.YtcaknphahmdkbaaSt
namespace Go.Proofs.Ytcaknphahmdkbaa.fMirrorReal
open Go.RowKit Go.Pl Go.Proofs.Ytcaknphahmdkbaa.wh
def ok (A : List Int) : Bool := valR A
def R (A : List Int) : List Int := if valR A = true then mir A else []
theorem len (A : List Int) : (R A).length ≤ 17 := by
  unfold R
  split
  · rename_i h
    have := (valR_iff.1 h).le
    rw [mir, mirk_len]; omega
  · simp

set_option maxRecDepth 100000 in
theorem own_any {bx : Nat} {s : Value} {L : List Int} {w : World} (hb : w.cell? ⟨bx, 0, none⟩ = some s) (h : Ls w s L) (h0 : L ≠ []) (hL : L.length ≤ 2097152) (hbx : bx < w.heap.size) :
    Calls Try.prog 60 #[.pointer (some ⟨bx, 0, none⟩)] w fun e w' => ∃ v', e = .returned (.agg #[v']) ∧ Own w' w.heap.size w'.heap.size v' L ∧ Below w.heap.size w w' := by
  obtain ⟨i0, hi, hz0, hz1, hz2⟩ := info_parts info_i
  obtain ⟨ao, cap, rfl, hn, hcap, hc⟩ := h
  have hp := len_pos h0
  obtain ⟨b, off, rfl, hbw, hcell⟩ := hc (by omega)
  have start : Hid (((w.alloc (.cells #[.slice none 0 0] 27)).alloc (.cells #[] 2)).ownsRow (w.heap.size + 1) 2 1 (.slice (some ⟨w.heap.size + 1, 0, none⟩) 0 0) 0 []) :=
    ⟨rfl, .inr ⟨w.heap.size + 1, 0, #[], rfl, Nat.le_refl _, by have := heap_alloc_new (w.alloc (.cells #[.slice none 0 0] 27)) (.cells #[] 2 (0, 0)); simpa using this, by simp, by decide, rfl, rfl⟩⟩
  have news : Hid (∀ j u, (L.map (Value.int .i64))[j]? = some u → ((w.alloc (.cells #[.slice none 0 0] 27)).alloc (.cells #[] 2)).cell? ((⟨b, off, none⟩ : Addr).add j) = some u) := fun j u hu => by
    rw [List.getElem?_map] at hu
    cases hz : L[j]? with
    | none => rw [hz] at hu; cases hu
    | some z =>
      rw [hz] at hu
      rw [Addr.add_lit, (new2 w _ _).cell (p := ⟨b, off + j, none⟩) hbw, ← Option.some.inj hu]
      exact hcell j z hz
  obtain ⟨n, hnn⟩ : ∃ n, n = L.length := ⟨_, rfl⟩
  have len : Hid ((L.map (Value.int .i64)).length = n * 1) := by show _ = _; rw [List.length_map]; omega
  have done : Hid (∀ v' w1, w1.ownsRow (w.heap.size + 1) 2 1 v' (0 + n) ([] ++ L.map (Value.int .i64)) → ((w.alloc (.cells #[.slice none 0 0] 27)).alloc (.cells #[] 2)).grownBy w1 (some (w.heap.size + 1)) →
      Own w1 (w.heap.size + 1) w1.heap.size v' L ∧ Below (w.heap.size + 1) (w.alloc (.cells #[.slice none 0 0] 27)) w1) := fun v' w1 ho hg => by
    rw [Nat.zero_add, List.nil_append, hnn] at ho
    exact ⟨Own.of_row ho hn (Nat.le_refl _), (by have := new1 (w.alloc (.cells #[.slice none 0 0] 27)) (.cells #[] 2 (0, 0)); rw [World.size_alloc] at this; exact this.grown hg (by simp) (fun j hj => by injection hj with hj; omega))⟩
  have X0 : Hid (Bx (w.alloc (.cells #[.slice none 0 0] 27)) w.heap.size (.slice none 0 0)) := Bx.new _ _ _
  have HB0 : Hid (Below w.heap.size w (w.alloc (.cells #[.slice none 0 0] 27))) := new1 _ _
  have cb : (w.alloc (.cells #[.slice none 0 0] 27)).cell? ⟨bx, 0, none⟩ = some (.slice (some ⟨b, off, none⟩) L.length cap) := ((new1 w _).cell (p := ⟨bx, 0, none⟩) hbx).trans hb
  have HL : Hid (n = L.length) := hnn
  rw [← hnn] at hn hcap hp hL hb cb
  clear hnn hc hcell hbw h0
  go_enter Try.func60, Try.ntmps60
  go_wp2_with (first | (at_builtin; refine wpList_append_own _ rfl (.tmp 3) (.tmp 7) 22 rfl (w.heap.size + 1) 2 i0 (.int .i64 0) 1 8 Try.underlying22 hi hz0 hz1 hz2 rfl (by decide) _ 0 [] rfl start.out ⟨b, off, none⟩ n cap _ rfl len.out news.out one_of_map (by unfold maxLen; omega) (by omega) (by simp) ?_; intro v' w1 hown' hgrow _; obtain ⟨o3, b3⟩ := done.out _ _ hown' hgrow; have X3 := X0.out.below b3 (by omega); have c3 := X3.cell; have f3 := X3.free; have Y3 := (X3.set v').cell; clear hown' hgrow; obtain ⟨ao', cap', rfl⟩ := o3.shape; have O3 : Hid (Own w1 (w.heap.size + 1) w1.heap.size (.slice ao' L.length cap') L) := o3; have B3 : Hid (Below (w.heap.size + 1) (w.alloc (.cells #[.slice none 0 0] 27)) w1) := b3; clear o3 b3 X3))
  refine bodyPost_ret (v := .agg #[.slice ao' L.length cap']) (by simp [results, Try.results60, Y3, go_sem]) rfl ?_
  exact ⟨_, rfl, (O3.out.setBelow (by omega) _).wide (by omega) (by simp), (HB0.out.trans (B3.out.mono (by omega))).setCell (Nat.le_refl _) _⟩
set_option maxRecDepth 100000 in
set_option maxHeartbeats 4000000 in
theorem spec_any {A0 : List Int} {v0 : Value} {w : World} (h0 : Wh w v0 A0)  : Calls Try.prog 24 #[v0] w (AnsS (R A0) (ok A0) w) := by
  obtain ⟨s0, rfl, h0⟩ := h0
  obtain ⟨ao0, cap0, rfl⟩ := h0.shape
  have R0 : Hid (Rd w w.heap.size (.slice ao0 A0.length cap0) A0) := h0
  clear h0
  have B0 : Hid (Below w.heap.size w w) := Below.refl _ _
  obtain ⟨w1, hw⟩ : ∃ x, x = ((w.alloc (.cells #[(.slice ao0 A0.length cap0)] 27)).alloc (.cells #[.slice none 0 0] 27)) := ⟨_, rfl⟩
  have b : Below w.heap.size w w1 := by rw [hw]; exact new2 _ _ _ 
  have Zw1 : Hid (w.heap.size ≤ w1.heap.size) := b.size
  replace B0 : Hid (Below w.heap.size w w1) := B0.out.trans (b.mono (Nat.le_refl _))
  replace R0 : Hid (Rd w1 w.heap.size (.slice ao0 A0.length cap0) A0) := R0.out.below b (Nat.le_refl _)
  have XP0 : Hid (Bx w1 w.heap.size (.slice ao0 A0.length cap0)) := by rw [hw]; exact Bx.alloc (Bx.new _ _ _) _
  have cXP0 : w1.cell? ⟨w.heap.size, 0, none⟩ = some (.slice ao0 A0.length cap0) := XP0.out.cell
  have XR : Hid (Bx w1 (w.heap.size + 1) (.slice none 0 0)) := by rw [hw]; exact Bx.new2 _ _ _ _ 
  have cXR : w1.cell? ⟨(w.heap.size + 1), 0, none⟩ = some (.slice none 0 0) := XR.out.cell
  have fXR : w1.frozen? ⟨(w.heap.size + 1), 0, none⟩ = false := XR.out.free
  have B1 : Hid (Below w1.heap.size w1 w1) := Below.refl _ _
  have BW : Hid (Below w.heap.size w w1) := B0.out
  have LR : Hid ((w.heap.size + 1) < w1.heap.size) := XR.out.lt
  have XR1 : Hid (Bx w1 (w.heap.size + 1) (.slice none 0 0)) := XR.out
  clear b
  go_enter Try.func24, Try.ntmps24
  go_wp2_with fail
  rw [← hw]
  clear hw
  refine (isR_any cXP0 (R0.out.ls (by have := Zw1.out; omega))).mono ?_
  rintro e w0 ⟨rfl, hw0⟩
  rw [hw0]
  clear hw0
  cases hv : valR A0 with
  | false =>
    have Y := out_no B0.out (by omega) XR.out
    have HR : Hid (AnsS (R A0) (ok A0) w (.returned (.tuple #[.agg #[.slice none 0 0], .bool false])) (w1.setCell ⟨(w.heap.size + 1), 0, none⟩ (.slice none 0 0))) := by
      have e1 : R A0 = [] := by simp [R, hv]
      have e2 : ok A0 = false := by simp [ok, hv]
      rw [e1, e2]; exact Y.1.s
    have y := Y.2
    clear Y
    go_wp2_with fail
    exact bodyPost_ret (v := .tuple #[.agg #[.slice none 0 0], .bool false]) (by simp [results, Try.results24, y, go_sem]) rfl HR.out
  | true =>
    have Hhv : Hid (valR A0 = true) := hv
    clear hv
    have HV : Hid (ValR A0) := valR_iff.1 Hhv.out
    obtain ⟨_, hcap, hcc⟩ := R0.out.use
    have hp0 := HV.out.pos
    have hL := HV.out.le
    obtain ⟨b, off, rfl, hbw, hcell⟩ := hcc (by omega)
    have HC : Hid (∀ (k : Nat) (z : Int), A0[k]? = some z → w1.cell? ⟨b, off + k, none⟩ = some (.int .i64 z)) := hcell
    have HBw : Hid (b < w1.heap.size) := by have := B0.out.size; show b < _; omega
    obtain ⟨n, hnn⟩ : ∃ n, n = A0.length := ⟨_, rfl⟩
    have HN : Hid (n = A0.length) := hnn
    clear hcell hbw hcc
    go_wp2_with fail
    refine (own_any cXP0 (R0.out.ls (by have := Zw1.out; omega)) HV.out.ne (by have := HV.out.le; omega) XP0.out.lt).mono ?_
    rintro e wo ⟨v, rfl, o, b2⟩
    obtain ⟨g, cp, rfl, hg1, hg2, hcp, hg3⟩ := o.block HV.out.ne
    have Zwo : Hid (w1.heap.size ≤ wo.heap.size) := b2.size
    replace B0 : Hid (Below w.heap.size w wo) := B0.out.trans (b2.mono (by have := Zw1.out; omega))
    replace B1 : Hid (Below w1.heap.size w1 wo) := B1.out.trans (b2.mono (Nat.le_refl _))
    replace R0 : Hid (Rd wo w.heap.size (.slice (some ⟨b, off, none⟩) A0.length cap0) A0) := R0.out.below b2 (by have := Zw1.out; omega)
    replace XP0 : Hid (Bx wo w.heap.size (.slice (some ⟨b, off, none⟩) A0.length cap0)) := XP0.out.kept b2
    replace cXP0 : wo.cell? ⟨w.heap.size, 0, none⟩ = some (.slice (some ⟨b, off, none⟩) A0.length cap0) := XP0.out.cell
    replace XR : Hid (Bx wo (w.heap.size + 1) (.slice none 0 0)) := XR.out.kept b2
    replace cXR : wo.cell? ⟨(w.heap.size + 1), 0, none⟩ = some (.slice none 0 0) := XR.out.cell
    replace fXR : wo.frozen? ⟨(w.heap.size + 1), 0, none⟩ = false := XR.out.free
    have O : Hid (Own wo w1.heap.size wo.heap.size (.slice (some ⟨g, 0, none⟩) A0.length cp) A0) := o
    have HCo : Hid (∀ (k : Nat) (z : Int), A0[k]? = some z → wo.cell? ⟨b, off + k, none⟩ = some (.int .i64 z)) := fun k z hz => (b2.cell (p := ⟨b, off + k, none⟩) HBw.out).trans (HC.out k z hz)
    clear o b2 HC
    obtain ⟨ws, hws⟩ : ∃ x, x = wo.alloc (.cells #[.slice (some ⟨g, 0, none⟩) A0.length cp] 27) := ⟨_, rfl⟩
    have bs : Below wo.heap.size wo ws := by rw [hws]; exact new1 _ _
    have XO : Hid (Bx ws wo.heap.size (.slice (some ⟨g, 0, none⟩) A0.length cp)) := by rw [hws]; exact Bx.new _ _ _
    have Zws : Hid (wo.heap.size ≤ ws.heap.size) := bs.size
    replace B0 : Hid (Below w.heap.size w ws) := B0.out.trans (bs.mono (by have := Zw1.out; have := Zwo.out; omega))
    replace B1 : Hid (Below w1.heap.size w1 ws) := B1.out.trans (bs.mono (by have := Zwo.out; omega))
    replace R0 : Hid (Rd ws w.heap.size (.slice (some ⟨b, off, none⟩) A0.length cap0) A0) := R0.out.below bs (by have := Zw1.out; have := Zwo.out; omega)
    replace XP0 : Hid (Bx ws w.heap.size (.slice (some ⟨b, off, none⟩) A0.length cap0)) := XP0.out.kept bs
    replace cXP0 : ws.cell? ⟨w.heap.size, 0, none⟩ = some (.slice (some ⟨b, off, none⟩) A0.length cap0) := XP0.out.cell
    replace XR : Hid (Bx ws (w.heap.size + 1) (.slice none 0 0)) := XR.out.kept bs
    replace cXR : ws.cell? ⟨(w.heap.size + 1), 0, none⟩ = some (.slice none 0 0) := XR.out.cell
    replace fXR : ws.frozen? ⟨(w.heap.size + 1), 0, none⟩ = false := XR.out.free
    replace O : Hid (Own ws w1.heap.size wo.heap.size (.slice (some ⟨g, 0, none⟩) A0.length cp) A0) := O.out.kept bs
    replace HCo : Hid (∀ (k : Nat) (z : Int), A0[k]? = some z → ws.cell? ⟨b, off + k, none⟩ = some (.int .i64 z)) := fun k z hz => (bs.cell (p := ⟨b, off + k, none⟩) (by have := HBw.out; have := Zwo.out; show b < _; omega)).trans (HCo.out k z hz)
    clear bs
    go_wp2_with fail
    rw [← hws]
    clear hws
    have O0 : Hid (Own ws w1.heap.size wo.heap.size (.slice (some ⟨g, 0, none⟩) A0.length cp) (mirk A0 1)) := by rw [mirk_one]; exact O.out
    have bdA : Hid (∀ k, -1000 ≤ at' A0 k ∧ at' A0 k ≤ 1000) := HV.out.at
    have HW1 : Hid (w1.heap.size ≤ ws.heap.size ∧ w1.heap.size ≤ w1.heap.size ∧ w.heap.size ≤ w1.heap.size ∧ wo.heap.size ≤ ws.heap.size) := ⟨by have := Zwo.out; have := Zws.out; have := Zw1.out; omega, by have := Zwo.out; have := Zws.out; have := Zw1.out; omega, by have := Zwo.out; have := Zws.out; have := Zw1.out; omega, by have := Zwo.out; have := Zws.out; have := Zw1.out; omega⟩
    go_loopw [5] (fun t wr => ∃ k : Nat, k % 2 = 1 ∧ k ≤ A0.length + 1 ∧ t = .int .i64 (k : Int) ∧ Hid (Own wr w1.heap.size wo.heap.size (.slice (some ⟨g, 0, none⟩) A0.length cp) (mirk A0 k)) ∧ Hid (Turned w1.heap.size wo.heap.size ws wr)) (fun t _ => A0.length + 1 - (intOf t).toNat)
    case atStart => exact ⟨1, by omega, by omega, rfl, O0, Turned.refl _ _ _⟩
    case round =>
      obtain ⟨k, hk2, hk, rfl, ho, ht⟩ := hrel
      have hb1 : Hid (Below w1.heap.size ws wr) := ht.out.below (Nat.le_refl _) HW1.out.1
      have cP := (XP0.out.turned ht.out (.inl (by have := HW1.out; have := LR.out; omega))).cell
      have cO := (XO.out.turned ht.out (.inr (Nat.le_refl _))).cell
    
      by_cases hlt : k < A0.length
      · have e1 : wr.cell? ⟨b, off + k, none⟩ = some (.int .i64 (at' A0 k)) := (hb1.out.cell (p := ⟨b, off + k, none⟩) HBw.out).trans (HCo.out _ _ (at_some A0 k hlt))
        have e2 : wr.cell? ⟨g, k, none⟩ = some (.int .i64 (at' A0 k)) := ho.out.cell (by rw [mirk_get A0 k k hlt, if_neg (by omega)])
        have e3 : wr.frozen? ⟨g, k, none⟩ = false := ho.out.free k
        have HO : Hid (Own (wr.drew.setCell ⟨g, k, none⟩ (.int .i64 (-(at' A0 k)))) w1.heap.size wo.heap.size (.slice (some ⟨g, 0, none⟩) A0.length cp) (mirk A0 (k + 2))) := by
          rw [← mirk_set A0 k hlt hk2]
          exact (show Own wr.drew _ _ _ _ from ho.out.stay fun _ _ _ _ => rfl).put k _
        have HT : Hid (Turned w1.heap.size wo.heap.size ws (wr.drew.setCell ⟨g, k, none⟩ (.int .i64 (-(at' A0 k))))) := (show Turned w1.heap.size wo.heap.size ws wr.drew from ⟨ht.out.os, ht.out.tape, ht.out.output, ht.out.size, ht.out.block⟩).setCell hg1 hg2 _
        have bd := bdA.out k
        obtain ⟨x, hx⟩ : ∃ x, x = at' A0 k := ⟨_, rfl⟩
        rw [← hx] at e1 e2 bd HO HT
        clear hx ho ht hb1
        have hst := store_int (b := -x) (show wr.drew.cell? _ = _ from e2) (show wr.drew.frozen? _ = _ from e3)
        go_wp2_with fail
        go_region
        go_wp2
        go_roundw
        case rel => exact ⟨k + 2, by omega, by omega, by go_num, HO, HT⟩
        case measure => simp [intOf]; omega
      · have ho' := ho.out
        rw [mirk_end A0 k (by omega)] at ho'
        have XRr : Hid (Bx wr (w.heap.size + 1) (.slice none 0 0)) := XR.out.turned ht.out (.inl (by have := HW1.out; have := LR.out; omega))
        have fR := XRr.out.free
        have cR := XRr.out.cell
        have Y := out_yes (ok := true) (W1 := w1) (w := w) (r := (w.heap.size + 1)) BW.out (by omega) LR.out XRr.out (ho'.wide (by have := HW1.out; omega) (by have := ht.out.size; have := HW1.out; omega)) (B1.out.trans (hb1.out.mono (by have := HW1.out; omega)))
        have HR : Hid (AnsS (R A0) (ok A0) w (.returned (.tuple #[.agg #[.slice (some ⟨g, 0, none⟩) A0.length cp], .bool true])) (wr.setCell ⟨(w.heap.size + 1), 0, none⟩ (.slice (some ⟨g, 0, none⟩) A0.length cp))) := by
          have e1 : R A0 = mir A0 := if_pos Hhv.out
          have e2 : ok A0 = true := Hhv.out
          rw [e1, e2]; exact Y.1.s
        have y := Y.2
        clear Y ho'
        go_wp2_with fail
        exact bodyPost_ret (v := .tuple #[.agg #[.slice (some ⟨g, 0, none⟩) A0.length cp], .bool true]) (by simp [results, Try.results24, y, go_sem]) rfl HR.out

set_option maxRecDepth 100000 in
set_option maxHeartbeats 4000000 in
theorem impl_any {A0 : List Int} {v0 : Value} {w : World} (h0 : Wh w v0 A0)  : Calls Try.prog 25 #[v0] w (AnsI (R A0) (ok A0) w) := by
  obtain ⟨s0, rfl, h0⟩ := h0
  obtain ⟨ao0, cap0, rfl⟩ := h0.shape
  have R0 : Hid (Rd w w.heap.size (.slice ao0 A0.length cap0) A0) := h0
  clear h0
  have B0 : Hid (Below w.heap.size w w) := Below.refl _ _
  obtain ⟨w1, hw⟩ : ∃ x, x = ((w.alloc (.cells #[(.slice ao0 A0.length cap0)] 27)).alloc (.cells #[.slice none 0 0] 27)) := ⟨_, rfl⟩
  have b : Below w.heap.size w w1 := by rw [hw]; exact new2 _ _ _ 
  have Zw1 : Hid (w.heap.size ≤ w1.heap.size) := b.size
  replace B0 : Hid (Below w.heap.size w w1) := B0.out.trans (b.mono (Nat.le_refl _))
  replace R0 : Hid (Rd w1 w.heap.size (.slice ao0 A0.length cap0) A0) := R0.out.below b (Nat.le_refl _)
  have XP0 : Hid (Bx w1 w.heap.size (.slice ao0 A0.length cap0)) := by rw [hw]; exact Bx.alloc (Bx.new _ _ _) _
  have cXP0 : w1.cell? ⟨w.heap.size, 0, none⟩ = some (.slice ao0 A0.length cap0) := XP0.out.cell
  have XR : Hid (Bx w1 (w.heap.size + 1) (.slice none 0 0)) := by rw [hw]; exact Bx.new2 _ _ _ _ 
  have cXR : w1.cell? ⟨(w.heap.size + 1), 0, none⟩ = some (.slice none 0 0) := XR.out.cell
  have fXR : w1.frozen? ⟨(w.heap.size + 1), 0, none⟩ = false := XR.out.free
  have B1 : Hid (Below w1.heap.size w1 w1) := Below.refl _ _
  have BW : Hid (Below w.heap.size w w1) := B0.out
  have LR : Hid ((w.heap.size + 1) < w1.heap.size) := XR.out.lt
  have XR1 : Hid (Bx w1 (w.heap.size + 1) (.slice none 0 0)) := XR.out
  clear b
  go_enter Try.func25, Try.ntmps25
  go_wp2_with fail
  rw [← hw]
  clear hw
  refine (validR_any ⟨_, rfl, (R0.out.ls (by have := Zw1.out; omega))⟩).mono ?_
  rintro e w2 ⟨rfl, b⟩
  have Zw2 : Hid (w1.heap.size ≤ w2.heap.size) := b.size
  replace B0 : Hid (Below w.heap.size w w2) := B0.out.trans (b.mono (by have := Zw1.out; omega))
  replace B1 : Hid (Below w1.heap.size w1 w2) := B1.out.trans (b.mono (Nat.le_refl _))
  replace R0 : Hid (Rd w2 w.heap.size (.slice ao0 A0.length cap0) A0) := R0.out.below b (by have := Zw1.out; omega)
  replace XP0 : Hid (Bx w2 w.heap.size (.slice ao0 A0.length cap0)) := XP0.out.kept b
  replace cXP0 : w2.cell? ⟨w.heap.size, 0, none⟩ = some (.slice ao0 A0.length cap0) := XP0.out.cell
  replace XR : Hid (Bx w2 (w.heap.size + 1) (.slice none 0 0)) := XR.out.kept b
  replace cXR : w2.cell? ⟨(w.heap.size + 1), 0, none⟩ = some (.slice none 0 0) := XR.out.cell
  replace fXR : w2.frozen? ⟨(w.heap.size + 1), 0, none⟩ = false := XR.out.free
  clear b
  cases hv : valR A0 with
  | false =>
    have Y := out_no B0.out (by omega) XR.out
    have HR : Hid (AnsI (R A0) (ok A0) w (.returned (.tuple #[.agg #[.slice none 0 0], .bool false])) (w2.setCell ⟨(w.heap.size + 1), 0, none⟩ (.slice none 0 0))) := by
      have e1 : R A0 = [] := by simp [R, hv]
      have e2 : ok A0 = false := by simp [ok, hv]
      rw [e1, e2]; exact Y.1
    have y := Y.2
    clear Y
    go_wp2_with fail
    exact bodyPost_ret (v := .tuple #[.agg #[.slice none 0 0], .bool false]) (by simp [results, Try.results25, y, go_sem]) rfl HR.out
  | true =>
    have Hhv : Hid (valR A0 = true) := hv
    clear hv
    have HV : Hid (ValR A0) := valR_iff.1 Hhv.out
    obtain ⟨_, hcap, hcc⟩ := R0.out.use
    have hp0 := HV.out.pos
    have hL := HV.out.le
    obtain ⟨b, off, rfl, hbw, hcell⟩ := hcc (by omega)
    have HC : Hid (∀ (k : Nat) (z : Int), A0[k]? = some z → w2.cell? ⟨b, off + k, none⟩ = some (.int .i64 z)) := hcell
    have HBw : Hid (b < w2.heap.size) := by have := B0.out.size; show b < _; omega
    obtain ⟨n, hnn⟩ : ∃ n, n = A0.length := ⟨_, rfl⟩
    have HN : Hid (n = A0.length) := hnn
    clear hcell hbw hcc
    go_wp2_with fail
    refine (clone_any (R0.out.ls (by have := Zw1.out; have := Zw2.out; omega)) HV.out.ne (by have := HV.out.le; omega)).mono ?_
    rintro e wo ⟨v, rfl, o, b2⟩
    obtain ⟨g, cp, rfl, hg1, hg2, hcp, hg3⟩ := o.block HV.out.ne
    have Zwo : Hid (w2.heap.size ≤ wo.heap.size) := b2.size
    replace B0 : Hid (Below w.heap.size w wo) := B0.out.trans (b2.mono (by have := Zw1.out; have := Zw2.out; omega))
    replace B1 : Hid (Below w1.heap.size w1 wo) := B1.out.trans (b2.mono (by have := Zw2.out; omega))
    replace R0 : Hid (Rd wo w.heap.size (.slice (some ⟨b, off, none⟩) A0.length cap0) A0) := R0.out.below b2 (by have := Zw1.out; have := Zw2.out; omega)
    replace XP0 : Hid (Bx wo w.heap.size (.slice (some ⟨b, off, none⟩) A0.length cap0)) := XP0.out.kept b2
    replace cXP0 : wo.cell? ⟨w.heap.size, 0, none⟩ = some (.slice (some ⟨b, off, none⟩) A0.length cap0) := XP0.out.cell
    replace XR : Hid (Bx wo (w.heap.size + 1) (.slice none 0 0)) := XR.out.kept b2
    replace cXR : wo.cell? ⟨(w.heap.size + 1), 0, none⟩ = some (.slice none 0 0) := XR.out.cell
    replace fXR : wo.frozen? ⟨(w.heap.size + 1), 0, none⟩ = false := XR.out.free
    have O : Hid (Own wo w2.heap.size wo.heap.size (.slice (some ⟨g, 0, none⟩) A0.length cp) A0) := o
    have HCo : Hid (∀ (k : Nat) (z : Int), A0[k]? = some z → wo.cell? ⟨b, off + k, none⟩ = some (.int .i64 z)) := fun k z hz => (b2.cell (p := ⟨b, off + k, none⟩) HBw.out).trans (HC.out k z hz)
    clear o b2 HC
    go_wp2_with fail
    have O0 : Hid (Own wo w2.heap.size wo.heap.size (.slice (some ⟨g, 0, none⟩) A0.length cp) (mirk A0 1)) := by rw [mirk_one]; exact O.out
    have bdA : Hid (∀ k, -1000 ≤ at' A0 k ∧ at' A0 k ≤ 1000) := HV.out.at
    have HW1 : Hid (w2.heap.size ≤ wo.heap.size ∧ w1.heap.size ≤ w2.heap.size ∧ w.heap.size ≤ w1.heap.size ∧ wo.heap.size ≤ wo.heap.size) := ⟨by have := Zwo.out; have := Zw2.out; have := Zw1.out; omega, by have := Zwo.out; have := Zw2.out; have := Zw1.out; omega, by have := Zwo.out; have := Zw2.out; have := Zw1.out; omega, by have := Zwo.out; have := Zw2.out; have := Zw1.out; omega⟩
    go_loopw [5] (fun t wr => ∃ k : Nat, k % 2 = 1 ∧ k ≤ A0.length + 1 ∧ t = .int .i64 (k : Int) ∧ Hid (Own wr w2.heap.size wo.heap.size (.slice (some ⟨g, 0, none⟩) A0.length cp) (mirk A0 k)) ∧ Hid (Turned w2.heap.size wo.heap.size wo wr)) (fun t _ => A0.length + 1 - (intOf t).toNat)
    case atStart => exact ⟨1, by omega, by omega, rfl, O0, Turned.refl _ _ _⟩
    case round =>
      obtain ⟨k, hk2, hk, rfl, ho, ht⟩ := hrel
      have hb1 : Hid (Below w2.heap.size wo wr) := ht.out.below (Nat.le_refl _) HW1.out.1
      have cP := (XP0.out.turned ht.out (.inl (by have := HW1.out; have := LR.out; omega))).cell
      by_cases hlt : k < A0.length
      · have e1 : wr.cell? ⟨b, off + k, none⟩ = some (.int .i64 (at' A0 k)) := (hb1.out.cell (p := ⟨b, off + k, none⟩) HBw.out).trans (HCo.out _ _ (at_some A0 k hlt))
        have e2 : wr.cell? ⟨g, k, none⟩ = some (.int .i64 (at' A0 k)) := ho.out.cell (by rw [mirk_get A0 k k hlt, if_neg (by omega)])
        have e3 : wr.frozen? ⟨g, k, none⟩ = false := ho.out.free k
        have HO : Hid (Own (wr.setCell ⟨g, k, none⟩ (.int .i64 (-(at' A0 k)))) w2.heap.size wo.heap.size (.slice (some ⟨g, 0, none⟩) A0.length cp) (mirk A0 (k + 2))) := by
          rw [← mirk_set A0 k hlt hk2]
          exact (show Own wr _ _ _ _ from ho.out.stay fun _ _ _ _ => rfl).put k _
        have HT : Hid (Turned w2.heap.size wo.heap.size wo (wr.setCell ⟨g, k, none⟩ (.int .i64 (-(at' A0 k))))) := (show Turned w2.heap.size wo.heap.size wo wr from ⟨ht.out.os, ht.out.tape, ht.out.output, ht.out.size, ht.out.block⟩).setCell hg1 hg2 _
        have bd := bdA.out k
        obtain ⟨x, hx⟩ : ∃ x, x = at' A0 k := ⟨_, rfl⟩
        rw [← hx] at e1 e2 bd HO HT
        clear hx ho ht hb1
        have hst := store_int (b := -x) (show wr.cell? _ = _ from e2) (show wr.frozen? _ = _ from e3)
        go_wp2
        go_roundw
        case rel => exact ⟨k + 2, by omega, by omega, by go_num, HO, HT⟩
        case measure => simp [intOf]; omega
      · have ho' := ho.out
        rw [mirk_end A0 k (by omega)] at ho'
        have XRr : Hid (Bx wr (w.heap.size + 1) (.slice none 0 0)) := XR.out.turned ht.out (.inl (by have := HW1.out; have := LR.out; omega))
        have fR := XRr.out.free
        have cR := XRr.out.cell
        have Y := out_yes (ok := true) (W1 := w1) (w := w) (r := (w.heap.size + 1)) BW.out (by omega) LR.out XRr.out (ho'.wide (by have := HW1.out; omega) (by have := ht.out.size; have := HW1.out; omega)) (B1.out.trans (hb1.out.mono (by have := HW1.out; omega)))
        have HR : Hid (AnsI (R A0) (ok A0) w (.returned (.tuple #[.agg #[.slice (some ⟨g, 0, none⟩) A0.length cp], .bool true])) (wr.setCell ⟨(w.heap.size + 1), 0, none⟩ (.slice (some ⟨g, 0, none⟩) A0.length cp))) := by
          have e1 : R A0 = mir A0 := if_pos Hhv.out
          have e2 : ok A0 = true := Hhv.out
          rw [e1, e2]; exact Y.1
        have y := Y.2
        clear Y ho'
        go_wp2_with fail
        exact bodyPost_ret (v := .tuple #[.agg #[.slice (some ⟨g, 0, none⟩) A0.length cp], .bool true]) (by simp [results, Try.results25, y, go_sem]) rfl HR.out
end Go.Proofs.Ytcaknphahmdkbaa.fMirrorReal
