/- SlopeWhole: what both sides answer. -/
import Derived.Test.YtbbdhbamooaloabFnO
import Derived.Test.YtbbdhbamooaloabFnP
namespace Go.Pl
/-- the slope's terms; none for a single term -/
def slope (L : List Int) : List Int := (List.range (L.length - 1)).map fun (k : Nat) => ((k : Int) + 1) * at' L (k + 1)
theorem slope_len (L : List Int) : (slope L).length = L.length - 1 := by simp [slope]
theorem slope_get (L : List Int) (k : Nat) (h : k < L.length - 1) : (slope L)[k]? = some (((k : Int) + 1) * at' L (k + 1)) := by simp [slope, h]
/-- a single 0 for a single term -/
def slope1 (L : List Int) : List Int := if L.length ≤ 1 then [0] else slope L
theorem slope_trim (L : List Int) : trim (slope1 L) = trim (slope L) := by
  unfold slope1
  split
  · rename_i h
    have : slope L = [] := List.eq_nil_of_length_eq_zero (by rw [slope_len]; omega)
    rw [this]; rfl
  · rfl
theorem slope1_ne (L : List Int) : slope1 L ≠ [] := by
  unfold slope1
  split
  · simp
  · intro e
    have := slope_len L
    rw [e] at this
    simp at this
    omega
theorem slope1_len (L : List Int) : (slope1 L).length = max 1 (L.length - 1) := by
  unfold slope1
  split
  · simp; omega
  · rw [slope_len]; omega
end Go.Pl
namespace Go.Proofs.Ytbbdhbamooaloab.fSlopeWhole
open Go.RowKit Go.Pl Go.Proofs.Ytbbdhbamooaloab.wh
def R (A : List Int) : List Int := if val A = true then gv (slope1 A) else []
def ok (A : List Int) : Bool := val A && val (trim (slope1 A))
theorem len (A : List Int) : (R A).length ≤ 17 := by
  unfold R
  split
  · exact gv_len _
  · simp

set_option maxRecDepth 100000 in
set_option maxHeartbeats 1600000 in
theorem slope_any {v : Value} {L : List Int} {w : World} (h : Ls w v L) (hv : Val L) :
    Calls Try.prog 70 #[v] w fun e w' => ∃ v', e = .returned v' ∧ Own w' w.heap.size w'.heap.size v' (trim (slope L)) ∧ Below w.heap.size w w' := by
  obtain ⟨i0, hi, hz0, hz1, hz2⟩ := info_parts info_i
  obtain ⟨ao, cap, rfl, hn, hcap, hc⟩ := h
  have hp0 := hv.pos
  have hL := hv.le
  have HR : Hid (inR (-1000000) 1000000 L) := hv.2.2.1
  obtain ⟨b, off, rfl, hbw, hcell⟩ := hc (by omega)
  have HC : Hid (∀ (k : Nat) (z : Int), L[k]? = some z → w.cell? ⟨b, off + k, none⟩ = some (.int .i64 z)) := hcell
  have HBw : Hid (b < w.heap.size) := hbw
  obtain ⟨n, hnn⟩ : ∃ n, n = L.length := ⟨_, rfl⟩
  have HML : Hid ((slope L).length = n - 1) := by show _ = _; rw [slope_len, hnn]
  rw [← hnn] at hn hcap hL hp0
  simp only [← hnn]
  have HN : Hid (n = L.length) := hnn
  have start : Hid ((w.alloc (.cells #[] 2)).ownsRow w.heap.size 2 1 (.slice (some ⟨w.heap.size, 0, none⟩) 0 0) 0 (((slope L).take 0).map (Value.int .i64))) :=
    ⟨rfl, .inr ⟨w.heap.size, 0, #[], rfl, Nat.le_refl _, heap_alloc_new w _, by simp, by decide, rfl, rfl⟩⟩
  have startB : Hid (Below w.heap.size w (w.alloc (.cells #[] 2))) := new1 _ _
  clear hnn hc hcell hbw hv
  go_enter Try.func70, Try.ntmps70
  go_wp2_with fail
  go_loopw [3, 4] (fun o t wr => ∃ (k g cp : Nat), k + 1 ≤ n ∧ o = .slice (some ⟨g, 0, none⟩) k cp ∧ t = .int .i64 ((k + 1 : Nat) : Int) ∧ Hid (w.heap.size ≤ g) ∧ Hid (wr.ownsRow w.heap.size 2 1 (.slice (some ⟨g, 0, none⟩) k cp) k (((slope L).take k).map (Value.int .i64))) ∧ Hid (Below w.heap.size w wr)) (fun _ t _ => n - (intOf t).toNat)
  case atStart => exact ⟨0, _, _, by omega, rfl, rfl, Nat.le_refl _, start, startB⟩
  case round =>
    obtain ⟨k, g, cp, hk, rfl, rfl, hg, ho, hb⟩ := hrel
    clear start startB
    by_cases hlt : k + 1 < n
    · have e1 : wr.cell? ⟨b, off + (k + 1), none⟩ = some (.int .i64 (at' L (k + 1))) := (hb.out.cell (p := ⟨b, off + (k + 1), none⟩) HBw.out).trans (HC.out (k + 1) _ (at_some L (k + 1) (by have := HN.out; omega)))
      have hzz : Hid (((slope L).take k).map (Value.int .i64) ++ [Value.int .i64 (((k : Int) + 1) * at' L (k + 1))] = ((slope L).take (k + 1)).map (Value.int .i64)) := by
        show _ = _
        rw [List.take_add_one, slope_get L k (by have := HN.out; omega)]; simp
      have HS : Hid (w.heap.size ≤ wr.heap.size) := hb.out.size
      have hbd := HR.out.at (by omega) (by omega) (k + 1)
      have hpr := mul_le (A := 17) (B := 1000000) (a := (k : Int) + 1) (b := at' L (k + 1)) (by omega) hbd
      obtain ⟨y, hy⟩ : ∃ y, y = at' L (k + 1) := ⟨_, rfl⟩
      rw [← hy] at e1 hzz hpr
      clear hy hbd
      have w1 : IntKind.i64.wrap (((k : Int) + 1) * y) = ((k : Int) + 1) * y := IntWalk.i64_in _ (by omega)
      have w2 : wrap64 (((k : Int) + 1) * y) = ((k : Int) + 1) * y := IntWalk.wrap64_in _ (by omega)
      have hkc : ((k + 1 : Nat) : Int) = (k : Int) + 1 := by omega
      have hkn : ((k : Int) + 1).toNat = k + 1 := by omega
      clear hpr
      go_wp2_with (first | (at_builtin; refine wpList_append_own _ rfl (.tmp 12) (.tmp 19) 31 rfl w.heap.size 2 i0 (.int .i64 0) 1 8 Try.underlying31 hi hz0 hz1 hz2 rfl (by decide) _ k _ rfl (ho.out.alloc _) ⟨wr.heap.size, 0, none⟩ 1 1 [.int .i64 _] rfl rfl (cell_one_new wr _ _) (by intro u hu; rw [List.mem_singleton] at hu; subst hu; rfl) (by unfold maxLen; omega) (by omega) (by have := HS.out; simp; omega) ?_; intro v' w3 hown' hgrow _))
      obtain ⟨g', cap', rfl⟩ := own_shape hown' (by omega)
      rw [hzz.out] at hown'
      have HG : Hid (w.heap.size ≤ g') := by
        rcases hown'.2 with ⟨h', _⟩ | ⟨g2, cap2, cur, h', hB, _⟩
        · simp at h'
        · simp only [Value.slice.injEq, Option.some.injEq, Addr.mk.injEq, and_true] at h'
          obtain ⟨rfl, _⟩ := h'
          exact hB
      have HO : Hid (w3.ownsRow w.heap.size 2 1 (.slice (some ⟨g', 0, none⟩) (k + 1) cap') (k + 1) (((slope L).take (k + 1)).map (Value.int .i64))) := hown'
      have HB : Hid (Below w.heap.size w w3) := (hb.out.alloc HS.out _).grown hgrow (by have := HS.out; simp; omega) (by intro j hj; have hj' : some g = some j := hj; injection hj' with hj'; have := hg.out; omega)
      clear hown' hgrow
      go_roundw
      case rel => exact ⟨k + 1, g', cap', by omega, rfl, by go_num, HG, HO, HB⟩
      case measure => simp [RowKit.intOf]; omega
    · obtain rfl : n = k + 1 := by omega
      have ho' := ho.out
      rw [List.take_of_length_le (by have := HML.out; omega)] at ho'
      have HO : Hid (Ls wr (.slice (some ⟨g, 0, none⟩) k cp) (slope L)) := by
        have h1 : (slope L).length = k := by have := HML.out; omega
        have h2 : wr.ownsRow w.heap.size 2 1 (.slice (some ⟨g, 0, none⟩) k cp) (slope L).length ((slope L).map (Value.int .i64)) := by rw [h1]; exact ho'
        exact (Own.of_row h2 (by omega) (Nat.le_refl _)).ls (Nat.le_refl _)
      clear ho ho' hi hz0 hz1 hz2
      go_wp2_with fail
      refine (trim_any HO.out (by have := HML.out; omega)).mono ?_
      rintro e w2 ⟨v2, rfl, o2, b2⟩
      have O2 : Hid (Own w2 w.heap.size w2.heap.size v2 (trim (slope L))) := o2.wide hb.out.size (Nat.le_refl _)
      have B2 : Hid (Below w.heap.size w w2) := hb.out.trans (b2.mono hb.out.size)
      clear o2 b2
      go_wp2_with fail
      go_ret
      exact ⟨_, rfl, O2.out, B2.out⟩

set_option maxRecDepth 100000 in
set_option maxHeartbeats 4000000 in
theorem spec_any {A0 : List Int} {v0 : Value} {w : World} (h0 : Wh w v0 A0)  : Calls Try.prog 49 #[v0] w (AnsS (R A0) (ok A0) w) := by
  obtain ⟨s0, rfl, h0⟩ := h0
  obtain ⟨ao0, cap0, rfl⟩ := h0.shape
  have R0 : Hid (Rd w w.heap.size (.slice ao0 A0.length cap0) A0) := h0
  clear h0
  have B0 : Hid (Below w.heap.size w w) := Below.refl _ _
  obtain ⟨w1, hw⟩ : ∃ x, x = ((w.alloc (.cells #[(.slice ao0 A0.length cap0)] 37)).alloc (.cells #[.slice none 0 0] 37)) := ⟨_, rfl⟩
  have b : Below w.heap.size w w1 := by rw [hw]; exact new2 _ _ _ 
  have Zw1 : Hid (w.heap.size ≤ w1.heap.size) := b.size
  replace B0 : Hid (Below w.heap.size w w1) := B0.out.trans (b.mono (Nat.le_refl _))
  replace R0 : Hid (Rd w1 w.heap.size (.slice ao0 A0.length cap0) A0) := R0.out.below b (Nat.le_refl _)
  have XP0 : Hid (Bx w1 w.heap.size (.slice ao0 A0.length cap0)) := by rw [hw]; exact Bx.alloc (Bx.new _ _ _) _
  have cXP0 : w1.cell? ⟨w.heap.size, 0, none⟩ = some (.slice ao0 A0.length cap0) := XP0.out.cell
  have XR : Hid (Bx w1 (w.heap.size + 1) (.slice none 0 0)) := by rw [hw]; exact Bx.new2 _ _ _ _ 
  have cXR : w1.cell? ⟨(w.heap.size + 1), 0, none⟩ = some (.slice none 0 0) := XR.out.cell
  have fXR : w1.frozen? ⟨(w.heap.size + 1), 0, none⟩ = false := XR.out.free
  have B1 : Hid (Below w1.heap.size w1 w1) := Below.refl _ _
  have BW : Hid (Below w.heap.size w w1) := B0.out
  have LR : Hid ((w.heap.size + 1) < w1.heap.size) := XR.out.lt
  have XR1 : Hid (Bx w1 (w.heap.size + 1) (.slice none 0 0)) := XR.out
  clear b
  go_enter Try.func49, Try.ntmps49
  go_wp2_with fail
  rw [← hw]
  clear hw
  refine (is_any XP0.out.cell (R0.out.ls (by have := Zw1.out; omega))).mono ?_
  rintro e w0 ⟨rfl, hw0⟩
  rw [hw0]
  clear hw0
  cases hv0 : val A0 with
  | false =>
    have Y := out_no B0.out (by omega) XR.out
    have HR : Hid (AnsS (R A0) (ok A0) w (.returned (.tuple #[.agg #[.slice none 0 0], .bool false])) (w1.setCell ⟨(w.heap.size + 1), 0, none⟩ (.slice none 0 0))) := by
      have e1 : R A0 = [] := by simp [R, hv0]
      have e2 : ok A0 = false := by simp [ok, hv0]
      rw [e1, e2]; exact Y.1.s
    have y := Y.2
    clear Y
    go_wp2_with fail
    exact bodyPost_ret (v := .tuple #[.agg #[.slice none 0 0], .bool false]) (by simp [results, Try.results49, y, go_sem]) rfl HR.out
  | true =>
    have Hhv0 : Hid (val A0 = true) := hv0
    clear hv0
    have V0 : Hid (Val A0) := val_iff.1 Hhv0.out
    go_wp2_with fail
    refine (slope_any (R0.out.ls (by have := Zw1.out; omega)) V0.out).mono ?_
    rintro e w2 ⟨v, rfl, o, b⟩
    obtain ⟨Ta, Tc, rfl⟩ := o.shape
    have Zw2 : Hid (w1.heap.size ≤ w2.heap.size) := b.size
    replace B0 : Hid (Below w.heap.size w w2) := B0.out.trans (b.mono (by have := Zw1.out; omega))
    replace B1 : Hid (Below w1.heap.size w1 w2) := B1.out.trans (b.mono (Nat.le_refl _))
    replace R0 : Hid (Rd w2 w.heap.size (.slice ao0 A0.length cap0) A0) := R0.out.below b (by have := Zw1.out; omega)
    replace XP0 : Hid (Bx w2 w.heap.size (.slice ao0 A0.length cap0)) := XP0.out.kept b
    replace cXP0 : w2.cell? ⟨w.heap.size, 0, none⟩ = some (.slice ao0 A0.length cap0) := XP0.out.cell
    replace XR : Hid (Bx w2 (w.heap.size + 1) (.slice none 0 0)) := XR.out.kept b
    replace cXR : w2.cell? ⟨(w.heap.size + 1), 0, none⟩ = some (.slice none 0 0) := XR.out.cell
    replace fXR : w2.frozen? ⟨(w.heap.size + 1), 0, none⟩ = false := XR.out.free
    have OT : Hid (Own w2 w1.heap.size w2.heap.size (.slice Ta (trim (slope A0)).length Tc) (trim (slope A0))) := o
    clear o b
    go_wp2_with fail
    refine (give_any (OT.out.rd.ls (Nat.le_refl _)) (by rw [← slope_trim]; have := trim_le (slope1_ne A0); rw [slope1_len] at this; have := V0.out.2.1; omega)).mono ?_
    rintro e w3 ⟨_, rfl, ⟨s, rfl, o⟩, b⟩
    obtain ⟨ra, rc, rfl⟩ := o.shape
    have Zw3 : Hid (w2.heap.size ≤ w3.heap.size) := b.size
    replace B0 : Hid (Below w.heap.size w w3) := B0.out.trans (b.mono (by have := Zw1.out; have := Zw2.out; omega))
    replace B1 : Hid (Below w1.heap.size w1 w3) := B1.out.trans (b.mono (by have := Zw2.out; omega))
    replace R0 : Hid (Rd w3 w.heap.size (.slice ao0 A0.length cap0) A0) := R0.out.below b (by have := Zw1.out; have := Zw2.out; omega)
    replace OT : Hid (Own w3 w1.heap.size w2.heap.size (.slice Ta (trim (slope A0)).length Tc) (trim (slope A0))) := OT.out.below b (Nat.le_refl _)
    replace XP0 : Hid (Bx w3 w.heap.size (.slice ao0 A0.length cap0)) := XP0.out.kept b
    replace cXP0 : w3.cell? ⟨w.heap.size, 0, none⟩ = some (.slice ao0 A0.length cap0) := XP0.out.cell
    replace XR : Hid (Bx w3 (w.heap.size + 1) (.slice none 0 0)) := XR.out.kept b
    replace cXR : w3.cell? ⟨(w.heap.size + 1), 0, none⟩ = some (.slice none 0 0) := XR.out.cell
    replace fXR : w3.frozen? ⟨(w.heap.size + 1), 0, none⟩ = false := XR.out.free
    replace o := o.wide (lo' := w1.heap.size) (by have := Zw2.out; omega) (Nat.le_refl _)
    clear b
    have Y := out_yes (ok := val (trim (trim (slope A0)))) (W1 := w1) (w := w) (r := (w.heap.size + 1)) BW.out (by omega) LR.out XR.out o B1.out
    have HR : Hid (AnsS (R A0) (ok A0) w (.returned (.tuple #[.agg #[.slice ra (gv (trim (slope A0))).length rc], .bool (val (trim (trim (slope A0))))])) (w3.setCell ⟨(w.heap.size + 1), 0, none⟩ (.slice ra (gv (trim (slope A0))).length rc))) := by
      have e1 : R A0 = gv (trim (slope A0)) := by simp [R, ← slope_trim, gv_trim, Hhv0.out]
      have e2 : ok A0 = val (trim (trim (slope A0))) := by simp [ok, ← slope_trim, trim_trim, Hhv0.out]
      rw [e1, e2]; exact Y.1.s
    have y := Y.2
    clear Y o
    generalize val (trim (trim (slope A0))) = gb at *
    generalize (gv (trim (slope A0))).length = gl at *
    go_wp2_with fail
    exact bodyPost_ret (v := .tuple #[.agg #[.slice ra gl rc], .bool gb]) (by simp [results, Try.results49, y, go_sem]) rfl HR.out

set_option maxRecDepth 100000 in
set_option maxHeartbeats 4000000 in
theorem impl_any {A0 : List Int} {v0 : Value} {w : World} (h0 : Wh w v0 A0)  : Calls Try.prog 51 #[v0] w (AnsI (R A0) (ok A0) w) := by
  obtain ⟨s0, rfl, h0⟩ := h0
  obtain ⟨ao0, cap0, rfl⟩ := h0.shape
  have R0 : Hid (Rd w w.heap.size (.slice ao0 A0.length cap0) A0) := h0
  clear h0
  have B0 : Hid (Below w.heap.size w w) := Below.refl _ _
  obtain ⟨w1, hw⟩ : ∃ x, x = ((w.alloc (.cells #[(.slice ao0 A0.length cap0)] 37)).alloc (.cells #[.slice none 0 0] 37)) := ⟨_, rfl⟩
  have b : Below w.heap.size w w1 := by rw [hw]; exact new2 _ _ _ 
  have Zw1 : Hid (w.heap.size ≤ w1.heap.size) := b.size
  replace B0 : Hid (Below w.heap.size w w1) := B0.out.trans (b.mono (Nat.le_refl _))
  replace R0 : Hid (Rd w1 w.heap.size (.slice ao0 A0.length cap0) A0) := R0.out.below b (Nat.le_refl _)
  have XP0 : Hid (Bx w1 w.heap.size (.slice ao0 A0.length cap0)) := by rw [hw]; exact Bx.alloc (Bx.new _ _ _) _
  have cXP0 : w1.cell? ⟨w.heap.size, 0, none⟩ = some (.slice ao0 A0.length cap0) := XP0.out.cell
  have XR : Hid (Bx w1 (w.heap.size + 1) (.slice none 0 0)) := by rw [hw]; exact Bx.new2 _ _ _ _ 
  have cXR : w1.cell? ⟨(w.heap.size + 1), 0, none⟩ = some (.slice none 0 0) := XR.out.cell
  have fXR : w1.frozen? ⟨(w.heap.size + 1), 0, none⟩ = false := XR.out.free
  have B1 : Hid (Below w1.heap.size w1 w1) := Below.refl _ _
  have BW : Hid (Below w.heap.size w w1) := B0.out
  have LR : Hid ((w.heap.size + 1) < w1.heap.size) := XR.out.lt
  have XR1 : Hid (Bx w1 (w.heap.size + 1) (.slice none 0 0)) := XR.out
  clear b
  go_enter Try.func51, Try.ntmps51
  go_wp2_with fail
  rw [← hw]
  clear hw
  refine (valid_any ⟨_, rfl, (R0.out.ls (by have := Zw1.out; omega))⟩).mono ?_
  rintro e w2 ⟨rfl, b⟩
  have Zw2 : Hid (w1.heap.size ≤ w2.heap.size) := b.size
  replace B0 : Hid (Below w.heap.size w w2) := B0.out.trans (b.mono (by have := Zw1.out; omega))
  replace B1 : Hid (Below w1.heap.size w1 w2) := B1.out.trans (b.mono (Nat.le_refl _))
  replace R0 : Hid (Rd w2 w.heap.size (.slice ao0 A0.length cap0) A0) := R0.out.below b (by have := Zw1.out; omega)
  replace XP0 : Hid (Bx w2 w.heap.size (.slice ao0 A0.length cap0)) := XP0.out.kept b
  replace cXP0 : w2.cell? ⟨w.heap.size, 0, none⟩ = some (.slice ao0 A0.length cap0) := XP0.out.cell
  replace XR : Hid (Bx w2 (w.heap.size + 1) (.slice none 0 0)) := XR.out.kept b
  replace cXR : w2.cell? ⟨(w.heap.size + 1), 0, none⟩ = some (.slice none 0 0) := XR.out.cell
  replace fXR : w2.frozen? ⟨(w.heap.size + 1), 0, none⟩ = false := XR.out.free
  clear b
  cases hv0 : val A0 with
  | false =>
    have Y := out_no B0.out (by omega) XR.out
    have HR : Hid (AnsI (R A0) (ok A0) w (.returned (.tuple #[.agg #[.slice none 0 0], .bool false])) (w2.setCell ⟨(w.heap.size + 1), 0, none⟩ (.slice none 0 0))) := by
      have e1 : R A0 = [] := by simp [R, hv0]
      have e2 : ok A0 = false := by simp [ok, hv0]
      rw [e1, e2]; exact Y.1
    have y := Y.2
    clear Y
    go_wp2_with fail
    exact bodyPost_ret (v := .tuple #[.agg #[.slice none 0 0], .bool false]) (by simp [results, Try.results51, y, go_sem]) rfl HR.out
  | true =>
    have Hhv0 : Hid (val A0 = true) := hv0
    clear hv0
    obtain ⟨_, hcap, hcc⟩ := R0.out.use
    have V0 := val_iff.1 Hhv0.out
    have hp0 := V0.pos
    have hL := V0.le
    have HR : Hid (inR (-1000000) 1000000 A0) := V0.2.2.1
    obtain ⟨b, off, rfl, hbw, hcell⟩ := hcc (by omega)
    have HC : Hid (∀ (k : Nat) (z : Int), A0[k]? = some z → w2.cell? ⟨b, off + k, none⟩ = some (.int .i64 z)) := hcell
    have HBw : Hid (b < w2.heap.size) := by have := B0.out.size; show b < _; omega
    obtain ⟨i0, hi, hz0, hz1, hz2⟩ := info_parts info_i
    obtain ⟨n, hnn⟩ : ∃ n, n = A0.length := ⟨_, rfl⟩
    rw [← hnn] at hcap hp0 hL R0 XP0 cXP0
    have HN : Hid (n = A0.length) := hnn
    obtain ⟨m, hm⟩ : ∃ m, n = m + 1 := ⟨n - 1, by omega⟩
    have hsub : ((m + 1 : Nat) : Int) - 1 = (m : Int) := by omega
    have hcm : ((m : Int) + 1) - 1 = (m : Int) := by omega
    have HM : Hid (m = A0.length - 1) := by (have := HN.out; show m = _; omega)
    clear hnn hcell hbw V0 hcc
    obtain ⟨G, hG⟩ : ∃ G, G = w2.heap.size := ⟨_, rfl⟩
    have HG : Hid (G = w2.heap.size) := hG
    by_cases hm1 : 1 < (m : Int)
    · have hml : m ≤ maxLen := by unfold maxLen; omega
      go_wp2_with (first | (refine wpList_make_full _ rfl (.tmp 15) (.tmp 15) 31 rfl w2.heap.size 2 i0 (.int .i64 0) 1 Try.underlying31 hi hz0 hz1 .i64 .i64 _ _ m rfl rfl rfl rfl (by rw [hz2]; omega) hml (Nat.le_refl _) ?_; intro wm hown hgrow; have BM : Hid (Below w2.heap.size w2 wm) := (Below.refl _ _).grown hgrow (Nat.le_refl _) (by intro k hk; cases hk); have cM := (XP0.out.kept BM.out).cell; clear hgrow))
      rw [rep_map] at hown
      rw [← hG] at hown
      rw [← hG]
      have start : Hid (wm.ownsRow G 2 1 (.slice (some ⟨G, 0, none⟩) m m) m ((List.replicate m (0 : Int)).map (Value.int .i64))) := hown
      clear hown hG hi hz0 hz1 hz2
      go_loopw [21] (fun i wr => ∃ (k : Nat) (Q : List Int), k ≤ m ∧ i = .int .i64 k ∧ Hid (wr.ownsRow G 2 1 (.slice (some ⟨G, 0, none⟩) m m) m (Q.map (Value.int .i64))) ∧ Hid (Q.length = m ∧ (m = 0 → Q = [0]) ∧ ∀ j, j < k → at' Q j = ((j : Int) + 1) * at' A0 (j + 1)) ∧ Hid (Below w2.heap.size w2 wr)) (fun i _ => m - (intOf i).toNat)
      case atStart => exact ⟨0, List.replicate m 0, by omega, rfl, start, ⟨by simp, fun h => by omega, fun j hj => by omega⟩, BM⟩
      case round =>
        obtain ⟨k, Q, hk, rfl, ho, hq, hb⟩ := hrel
        clear cM
        by_cases hlt : k < m
        · have e1 : wr.cell? ⟨b, off + 1 + k, none⟩ = some (.int .i64 (at' A0 (k + 1))) := by
            rw [show off + 1 + k = off + (k + 1) by omega]
            exact (hb.out.cell (p := ⟨b, off + (k + 1), none⟩) HBw.out).trans (HC.out (k + 1) _ (at_some A0 (k + 1) (by have := HN.out; omega)))
          have hql : Q.length = m := hq.out.1
          have e2 : wr.cell? ⟨G, k, none⟩ = some (.int .i64 (at' Q k)) := by
            rw [ho.out.cellAt k (by omega), List.getElem?_map, at_some _ _ (by omega)]; rfl
          have e3 : wr.frozen? ⟨G, k, none⟩ = false := ho.out.frozenAt k
          have hbd := HR.out.at (by omega) (by omega) (k + 1)
          have hpr := mul_le (A := 1000000) (B := 17) (a := at' A0 (k + 1)) (b := (k : Int) + 1) hbd (by omega)
          obtain ⟨y, hy⟩ : ∃ y, y = at' A0 (k + 1) := ⟨_, rfl⟩
          have HY : Hid (y = at' A0 (k + 1)) := hy
          rw [← hy] at e1 hpr
          clear hy hbd
          have w1' : IntKind.i64.wrap (y * ((k : Int) + 1)) = y * ((k : Int) + 1) := IntWalk.i64_in _ (by omega)
          have w2' : wrap64 (y * ((k : Int) + 1)) = y * ((k : Int) + 1) := IntWalk.wrap64_in _ (by omega)
          have HO : Hid ((wr.setCell ⟨G, k, none⟩ (.int .i64 (y * ((k : Int) + 1)))).ownsRow G 2 1 (.slice (some ⟨G, 0, none⟩) m m) m ((Q.set k (y * ((k : Int) + 1))).map (Value.int .i64))) := by
            have := (ho.out.stored k (.int .i64 (y * ((k : Int) + 1)))).1
            rw [← List.map_set] at this
            exact this
          have HQ : Hid ((Q.set k (y * ((k : Int) + 1))).length = m ∧ (m = 0 → Q.set k (y * ((k : Int) + 1)) = [0]) ∧ ∀ j, j < k + 1 → at' (Q.set k (y * ((k : Int) + 1))) j = ((j : Int) + 1) * at' A0 (j + 1)) := by
            refine ⟨by rw [List.length_set]; exact hql, fun h => by omega, fun j hj => ?_⟩
            by_cases e : j = k
            · subst e
              unfold at'
              rw [List.getElem?_set_self (by omega)]
              have := HY.out
              unfold at' at this
              rw [← this]
              simp [Int.mul_comm]
            · have := hq.out.2.2 j (by omega)
              unfold at' at this ⊢
              rw [List.getElem?_set_ne (by omega)]
              exact this
          have HB : Hid (Below w2.heap.size w2 (wr.setCell ⟨G, k, none⟩ (.int .i64 (y * ((k : Int) + 1))))) := hb.out.setCell (p := ⟨G, k, none⟩) (by have := HG.out; show w2.heap.size ≤ G; omega) _
          have hst := store_int (b := y * ((k : Int) + 1)) e2 e3
          clear hpr ho hq hb hql
          go_wp2
          go_roundw
          case rel => exact ⟨k + 1, _, by omega, by go_num, HO, HQ, HB⟩
          case measure => simp [intOf]; omega
        · obtain rfl : m = k := by omega
          have hQ : Q = slope1 A0 := by
            obtain ⟨h1, h2, h3⟩ := hq.out
            by_cases h0 : m = 0
            · rw [h2 h0]; unfold slope1; rw [if_pos (by have := HN.out; omega)]
            · unfold slope1
              rw [if_neg (by have := HN.out; omega)]
              apply List.ext_getElem?
              intro j
              by_cases hj : j < m
              · rw [at_some Q j (by omega), h3 j hj, slope_get A0 j (by have := HN.out; omega)]
              · rw [List.getElem?_eq_none (by omega), List.getElem?_eq_none (by rw [slope_len]; have := HN.out; omega)]
          have OX : Hid (Own wr w1.heap.size wr.heap.size (.slice (some ⟨G, 0, none⟩) m m) (slope1 A0)) := by
            have h1 : m = (slope1 A0).length := by rw [← hQ]; exact hq.out.1.symm
            have h2 := ho.out
            rw [hQ] at h2
            have h3 : wr.ownsRow G 2 1 (.slice (some ⟨G, 0, none⟩) m m) (slope1 A0).length ((slope1 A0).map (Value.int .i64)) := by rw [← h1]; exact h2
            exact (Own.of_row h3 (by omega) (Nat.le_refl _)).wide (by have := HG.out; have := B1.out.size; omega) (Nat.le_refl _)
          have BW2 : Hid (Below w1.heap.size w1 wr) := B1.out.trans (hb.out.mono B1.out.size)
          have XRr : Hid (Bx wr (w.heap.size + 1) (.slice none 0 0)) := XR.out.kept hb.out
          have fR := XRr.out.free
          have cR := XRr.out.cell
          clear ho hq hQ start
          go_wp2_with fail
          refine (wo_any (w0 := w1) (OX.out) BW2.out (slope1_ne A0)).mono ?_
          rintro e w3 ⟨_, rfl, ⟨s, rfl, o⟩, bb⟩
          obtain ⟨ra, rc, rfl⟩ := o.shape
          have XR3 := XR1.out.below bb LR.out
          have c3 := XR3.cell
          have f3 := XR3.free
          have Y := out_yes (ok := val (trim (slope1 A0))) (W1 := w1) (w := w) (r := (w.heap.size + 1)) BW.out (by omega) LR.out XR3 o bb
          have HRR : Hid (AnsI (R A0) (ok A0) w (.returned (.tuple #[.agg #[.slice ra (gv (slope1 A0)).length rc], .bool (val (trim (slope1 A0)))])) (w3.setCell ⟨(w.heap.size + 1), 0, none⟩ (.slice ra (gv (slope1 A0)).length rc))) := by
            have e1 : R A0 = gv (slope1 A0) := by simp [R, Hhv0.out]
            have e2 : ok A0 = val (trim (slope1 A0)) := by simp [ok, Hhv0.out]
            rw [e1, e2]; exact Y.1
          have y := Y.2
          clear Y o bb XR3
          generalize val (trim (slope1 A0)) = gb at *
          generalize (gv (slope1 A0)).length = gl at *
          go_wp2_with fail
          exact bodyPost_ret (v := .tuple #[.agg #[.slice ra gl rc], .bool gb]) (by simp [results, Try.results51, y, go_sem]) rfl HRR.out
    · have hml : 1 ≤ maxLen := by unfold maxLen; omega
      by_cases hcap1 : cap0 = 1
      · subst hcap1
        go_wp2_with (first | (refine wpList_make_full _ rfl (.tmp 15) (.tmp 15) 31 rfl w2.heap.size 2 i0 (.int .i64 0) 1 Try.underlying31 hi hz0 hz1 .i64 .i64 _ _ 1 rfl rfl rfl rfl (by rw [hz2]; omega) hml (Nat.le_refl _) ?_; intro wm hown hgrow; have BM : Hid (Below w2.heap.size w2 wm) := (Below.refl _ _).grown hgrow (Nat.le_refl _) (by intro k hk; cases hk); have cM := (XP0.out.kept BM.out).cell; clear hgrow))
        rw [rep_map] at hown
        rw [← hG] at hown
        rw [← hG]
        have start : Hid (wm.ownsRow G 2 1 (.slice (some ⟨G, 0, none⟩) 1 1) 1 ((List.replicate 1 (0 : Int)).map (Value.int .i64))) := hown
        clear hown hG hi hz0 hz1 hz2
        go_loopw [21] (fun i wr => ∃ (k : Nat) (Q : List Int), k ≤ m ∧ i = .int .i64 k ∧ Hid (wr.ownsRow G 2 1 (.slice (some ⟨G, 0, none⟩) 1 1) 1 (Q.map (Value.int .i64))) ∧ Hid (Q.length = 1 ∧ (m = 0 → Q = [0]) ∧ ∀ j, j < k → at' Q j = ((j : Int) + 1) * at' A0 (j + 1)) ∧ Hid (Below w2.heap.size w2 wr)) (fun i _ => m - (intOf i).toNat)
        case atStart => exact ⟨0, List.replicate 1 0, by omega, rfl, start, ⟨by simp, fun h => by rfl, fun j hj => by omega⟩, BM⟩
        case round =>
          obtain ⟨k, Q, hk, rfl, ho, hq, hb⟩ := hrel
          clear cM
          by_cases hlt : k < m
          · exact absurd hlt (by omega)
          · obtain rfl : m = k := by omega
            have hQ : Q = slope1 A0 := by
              obtain ⟨h1, h2, h3⟩ := hq.out
              by_cases h0 : m = 0
              · rw [h2 h0]; unfold slope1; rw [if_pos (by have := HN.out; omega)]
              · unfold slope1
                rw [if_neg (by have := HN.out; omega)]
                apply List.ext_getElem?
                intro j
                by_cases hj : j < m
                · rw [at_some Q j (by omega), h3 j hj, slope_get A0 j (by have := HN.out; omega)]
                · rw [List.getElem?_eq_none (by omega), List.getElem?_eq_none (by rw [slope_len]; have := HN.out; omega)]
            have OX : Hid (Own wr w1.heap.size wr.heap.size (.slice (some ⟨G, 0, none⟩) 1 1) (slope1 A0)) := by
              have h1 : 1 = (slope1 A0).length := by rw [← hQ]; exact hq.out.1.symm
              have h2 := ho.out
              rw [hQ] at h2
              have h3 : wr.ownsRow G 2 1 (.slice (some ⟨G, 0, none⟩) 1 1) (slope1 A0).length ((slope1 A0).map (Value.int .i64)) := by rw [← h1]; exact h2
              exact (Own.of_row h3 (by omega) (Nat.le_refl _)).wide (by have := HG.out; have := B1.out.size; omega) (Nat.le_refl _)
            have BW2 : Hid (Below w1.heap.size w1 wr) := B1.out.trans (hb.out.mono B1.out.size)
            have XRr : Hid (Bx wr (w.heap.size + 1) (.slice none 0 0)) := XR.out.kept hb.out
            have fR := XRr.out.free
            have cR := XRr.out.cell
            clear ho hq hQ start
            go_wp2_with fail
            refine (wo_any (w0 := w1) (OX.out) BW2.out (slope1_ne A0)).mono ?_
            rintro e w3 ⟨_, rfl, ⟨s, rfl, o⟩, bb⟩
            obtain ⟨ra, rc, rfl⟩ := o.shape
            have XR3 := XR1.out.below bb LR.out
            have c3 := XR3.cell
            have f3 := XR3.free
            have Y := out_yes (ok := val (trim (slope1 A0))) (W1 := w1) (w := w) (r := (w.heap.size + 1)) BW.out (by omega) LR.out XR3 o bb
            have HRR : Hid (AnsI (R A0) (ok A0) w (.returned (.tuple #[.agg #[.slice ra (gv (slope1 A0)).length rc], .bool (val (trim (slope1 A0)))])) (w3.setCell ⟨(w.heap.size + 1), 0, none⟩ (.slice ra (gv (slope1 A0)).length rc))) := by
              have e1 : R A0 = gv (slope1 A0) := by simp [R, Hhv0.out]
              have e2 : ok A0 = val (trim (slope1 A0)) := by simp [ok, Hhv0.out]
              rw [e1, e2]; exact Y.1
            have y := Y.2
            clear Y o bb XR3
            generalize val (trim (slope1 A0)) = gb at *
            generalize (gv (slope1 A0)).length = gl at *
            go_wp2_with fail
            exact bodyPost_ret (v := .tuple #[.agg #[.slice ra gl rc], .bool gb]) (by simp [results, Try.results51, y, go_sem]) rfl HRR.out
      · go_wp2_with (first | (refine wpList_make_full _ rfl (.tmp 15) (.tmp 15) 31 rfl w2.heap.size 2 i0 (.int .i64 0) 1 Try.underlying31 hi hz0 hz1 .i64 .i64 _ _ 1 rfl rfl rfl rfl (by rw [hz2]; omega) hml (Nat.le_refl _) ?_; intro wm hown hgrow; have BM : Hid (Below w2.heap.size w2 wm) := (Below.refl _ _).grown hgrow (Nat.le_refl _) (by intro k hk; cases hk); have cM := (XP0.out.kept BM.out).cell; clear hgrow))
        rw [rep_map] at hown
        rw [← hG] at hown
        rw [← hG]
        have start : Hid (wm.ownsRow G 2 1 (.slice (some ⟨G, 0, none⟩) 1 1) 1 ((List.replicate 1 (0 : Int)).map (Value.int .i64))) := hown
        clear hown hG hi hz0 hz1 hz2
        go_loopw [21] (fun i wr => ∃ (k : Nat) (Q : List Int), k ≤ m ∧ i = .int .i64 k ∧ Hid (wr.ownsRow G 2 1 (.slice (some ⟨G, 0, none⟩) 1 1) 1 (Q.map (Value.int .i64))) ∧ Hid (Q.length = 1 ∧ (m = 0 → Q = [0]) ∧ ∀ j, j < k → at' Q j = ((j : Int) + 1) * at' A0 (j + 1)) ∧ Hid (Below w2.heap.size w2 wr)) (fun i _ => m - (intOf i).toNat)
        case atStart => exact ⟨0, List.replicate 1 0, by omega, rfl, start, ⟨by simp, fun h => by rfl, fun j hj => by omega⟩, BM⟩
        case round =>
          obtain ⟨k, Q, hk, rfl, ho, hq, hb⟩ := hrel
          clear cM
          by_cases hlt : k < m
          · have e1 : wr.cell? ⟨b, off + 1 + k, none⟩ = some (.int .i64 (at' A0 (k + 1))) := by
              rw [show off + 1 + k = off + (k + 1) by omega]
              exact (hb.out.cell (p := ⟨b, off + (k + 1), none⟩) HBw.out).trans (HC.out (k + 1) _ (at_some A0 (k + 1) (by have := HN.out; omega)))
            have hql : Q.length = 1 := hq.out.1
            have e2 : wr.cell? ⟨G, k, none⟩ = some (.int .i64 (at' Q k)) := by
              rw [ho.out.cellAt k (by omega), List.getElem?_map, at_some _ _ (by omega)]; rfl
            have e3 : wr.frozen? ⟨G, k, none⟩ = false := ho.out.frozenAt k
            have hbd := HR.out.at (by omega) (by omega) (k + 1)
            have hpr := mul_le (A := 1000000) (B := 17) (a := at' A0 (k + 1)) (b := (k : Int) + 1) hbd (by omega)
            obtain ⟨y, hy⟩ : ∃ y, y = at' A0 (k + 1) := ⟨_, rfl⟩
            have HY : Hid (y = at' A0 (k + 1)) := hy
            rw [← hy] at e1 hpr
            clear hy hbd
            have w1' : IntKind.i64.wrap (y * ((k : Int) + 1)) = y * ((k : Int) + 1) := IntWalk.i64_in _ (by omega)
            have w2' : wrap64 (y * ((k : Int) + 1)) = y * ((k : Int) + 1) := IntWalk.wrap64_in _ (by omega)
            have HO : Hid ((wr.setCell ⟨G, k, none⟩ (.int .i64 (y * ((k : Int) + 1)))).ownsRow G 2 1 (.slice (some ⟨G, 0, none⟩) 1 1) 1 ((Q.set k (y * ((k : Int) + 1))).map (Value.int .i64))) := by
              have := (ho.out.stored k (.int .i64 (y * ((k : Int) + 1)))).1
              rw [← List.map_set] at this
              exact this
            have HQ : Hid ((Q.set k (y * ((k : Int) + 1))).length = 1 ∧ (m = 0 → Q.set k (y * ((k : Int) + 1)) = [0]) ∧ ∀ j, j < k + 1 → at' (Q.set k (y * ((k : Int) + 1))) j = ((j : Int) + 1) * at' A0 (j + 1)) := by
              refine ⟨by rw [List.length_set]; exact hql, fun h => by omega, fun j hj => ?_⟩
              by_cases e : j = k
              · subst e
                unfold at'
                rw [List.getElem?_set_self (by omega)]
                have := HY.out
                unfold at' at this
                rw [← this]
                simp [Int.mul_comm]
              · have := hq.out.2.2 j (by omega)
                unfold at' at this ⊢
                rw [List.getElem?_set_ne (by omega)]
                exact this
            have HB : Hid (Below w2.heap.size w2 (wr.setCell ⟨G, k, none⟩ (.int .i64 (y * ((k : Int) + 1))))) := hb.out.setCell (p := ⟨G, k, none⟩) (by have := HG.out; show w2.heap.size ≤ G; omega) _
            have hst := store_int (b := y * ((k : Int) + 1)) e2 e3
            clear hpr ho hq hb hql
            go_wp2
            go_roundw
            case rel => exact ⟨k + 1, _, by omega, by go_num, HO, HQ, HB⟩
            case measure => simp [intOf]; omega
          · obtain rfl : m = k := by omega
            have hQ : Q = slope1 A0 := by
              obtain ⟨h1, h2, h3⟩ := hq.out
              by_cases h0 : m = 0
              · rw [h2 h0]; unfold slope1; rw [if_pos (by have := HN.out; omega)]
              · unfold slope1
                rw [if_neg (by have := HN.out; omega)]
                apply List.ext_getElem?
                intro j
                by_cases hj : j < m
                · rw [at_some Q j (by omega), h3 j hj, slope_get A0 j (by have := HN.out; omega)]
                · rw [List.getElem?_eq_none (by omega), List.getElem?_eq_none (by rw [slope_len]; have := HN.out; omega)]
            have OX : Hid (Own wr w1.heap.size wr.heap.size (.slice (some ⟨G, 0, none⟩) 1 1) (slope1 A0)) := by
              have h1 : 1 = (slope1 A0).length := by rw [← hQ]; exact hq.out.1.symm
              have h2 := ho.out
              rw [hQ] at h2
              have h3 : wr.ownsRow G 2 1 (.slice (some ⟨G, 0, none⟩) 1 1) (slope1 A0).length ((slope1 A0).map (Value.int .i64)) := by rw [← h1]; exact h2
              exact (Own.of_row h3 (by omega) (Nat.le_refl _)).wide (by have := HG.out; have := B1.out.size; omega) (Nat.le_refl _)
            have BW2 : Hid (Below w1.heap.size w1 wr) := B1.out.trans (hb.out.mono B1.out.size)
            have XRr : Hid (Bx wr (w.heap.size + 1) (.slice none 0 0)) := XR.out.kept hb.out
            have fR := XRr.out.free
            have cR := XRr.out.cell
            clear ho hq hQ start
            go_wp2_with fail
            refine (wo_any (w0 := w1) (OX.out) BW2.out (slope1_ne A0)).mono ?_
            rintro e w3 ⟨_, rfl, ⟨s, rfl, o⟩, bb⟩
            obtain ⟨ra, rc, rfl⟩ := o.shape
            have XR3 := XR1.out.below bb LR.out
            have c3 := XR3.cell
            have f3 := XR3.free
            have Y := out_yes (ok := val (trim (slope1 A0))) (W1 := w1) (w := w) (r := (w.heap.size + 1)) BW.out (by omega) LR.out XR3 o bb
            have HRR : Hid (AnsI (R A0) (ok A0) w (.returned (.tuple #[.agg #[.slice ra (gv (slope1 A0)).length rc], .bool (val (trim (slope1 A0)))])) (w3.setCell ⟨(w.heap.size + 1), 0, none⟩ (.slice ra (gv (slope1 A0)).length rc))) := by
              have e1 : R A0 = gv (slope1 A0) := by simp [R, Hhv0.out]
              have e2 : ok A0 = val (trim (slope1 A0)) := by simp [ok, Hhv0.out]
              rw [e1, e2]; exact Y.1
            have y := Y.2
            clear Y o bb XR3
            generalize val (trim (slope1 A0)) = gb at *
            generalize (gv (slope1 A0)).length = gl at *
            go_wp2_with fail
            exact bodyPost_ret (v := .tuple #[.agg #[.slice ra gl rc], .bool gb]) (by simp [results, Try.results51, y, go_sem]) rfl HRR.out
end Go.Proofs.Ytbbdhbamooaloab.fSlopeWhole
