/- The whole that the law draws. -/
import Derived.Test.YtcocidlijdfmmaaFwD
namespace Go.Proofs.Ytcocidlijdfmmaa.fw
open Go.RowKit Go.Pl Go.Proofs.Ytcocidlijdfmmaa.wh Go.Proofs.Ytcocidlijdfmmaa.bys

theorem row_turned {w w' : World} {base e size n lo hi : Nat} {v : Value} {xs : List Value} (h : w.ownsRow base e size v n xs) (ht : Turned lo hi w w') (hb : hi ≤ base) : w'.ownsRow base e size v n xs := by
  obtain ⟨h1, h2 | ⟨g, cap, cur, hv, hB, hg, hr⟩⟩ := h
  · exact ⟨h1, .inl h2⟩
  · exact ⟨h1, .inr ⟨g, cap, cur, hv, hB, by rw [ht.block g (Array.getElem?_eq_some_iff.1 hg).1 (by omega)]; exact hg, hr⟩⟩
theorem Sr.lt {w : World} {g : Nat} {v : Value} {a : Int} (h : Sr w g v a) : g < w.heap.size := by
  obtain ⟨s, hg, _⟩ := h
  exact (Array.getElem?_eq_some_iff.1 hg).1
theorem Sr.below {w w' : World} {g B : Nat} {v : Value} {a : Int} (h : Sr w g v a) (hb : Below B w w') (hB : g < B) : Sr w' g v a := by
  obtain ⟨s, hg, hs⟩ := h
  exact ⟨s, by rw [hb.block g hB]; exact hg, hs⟩
end Go.Proofs.Ytcocidlijdfmmaa.fw
namespace Go.Proofs.Ytcocidlijdfmmaa.wh
open Go.RowKit
theorem Turned.also {lo hi B : Nat} {w w1 w2 : World} (h : Turned lo hi w w1) (hb : Below B w1 w2) (hB : w.heap.size ≤ B) : Turned lo hi w w2 :=
  ⟨hb.os.trans h.os, hb.tape.trans h.tape, hb.output.trans h.output, Nat.le_trans h.size hb.size, fun k hk ho => (hb.block k (by omega)).trans (h.block k hk ho)⟩
theorem Turned.two {lo hi : Nat} {w w1 w2 : World} (h : Turned lo hi w w1) (h2 : Turned lo hi w1 w2) : Turned lo hi w w2 :=
  ⟨h2.os.trans h.os, h2.tape.trans h.tape, h2.output.trans h.output, Nat.le_trans h.size h2.size, fun k hk ho => (h2.block k (Nat.lt_of_lt_of_le hk h.size) ho).trans (h.block k hk ho)⟩
end Go.Proofs.Ytcocidlijdfmmaa.wh
namespace Go.Proofs.Ytcocidlijdfmmaa.fw
open Go.RowKit Go.Pl Go.Proofs.Ytcocidlijdfmmaa.wh Go.Proofs.Ytcocidlijdfmmaa.bys
/-- what is drawn so far -/
def Dl (n : Nat) (L : List Int) : Prop := inR (-5) 5 L ∧ (L.length = n → at' L (L.length - 1) ≠ 0)
theorem Dl.more {n : Nat} {L : List Int} (h : Dl n L) {z : Int} (hz : -5 ≤ z ∧ z ≤ 5) (hn : L.length + 1 = n → z ≠ 0) : Dl n (L ++ [z]) := by
  refine ⟨fun y hy => ?_, fun e => ?_⟩
  · rw [List.mem_append] at hy
    rcases hy with hy | hy
    · exact h.1 y hy
    · rw [List.mem_singleton] at hy
      rw [hy]; exact hz
  · have e' : L.length + 1 = n := by simpa using e
    have : at' (L ++ [z]) ((L ++ [z]).length - 1) = z := at_get (by simp)
    rw [this]
    exact hn e'

set_option maxHeartbeats 1600000 in
theorem draw_any {w : World} {g B n : Nat} {v : Value} {a : Int} (h : Bb w B v) (hB : B ≤ g) (hS : Sr w g v a) (ha0 : 0 ≤ a) (ha2 : a ≤ 500) (hn : 1 ≤ n) (hn2 : n ≤ 100) :
    Calls Try.prog 20 #[.pointer (some ⟨g, 0, none⟩), .int .i64 (n : Int), .int .i64 5] w fun e w' => ∃ (v' : Value) (L : List Int), e = .returned v' ∧ L.length = n ∧ Dl n L ∧ wh.Own w' w.heap.size w'.heap.size v' L ∧ Turned g (g + 1) w w' := by
  obtain ⟨i0, hi, hz0, hz1, hz2⟩ := info_parts info_i
  have HB : Hid (Bb w B v) := h
  have HS : Hid (Sr w g v a) := hS
  have HG : Hid (g < w.heap.size) := hS.lt
  have HBg : Hid (B ≤ g) := hB
  have start : Hid ((w.alloc (.cells #[] 2)).ownsRow w.heap.size 2 1 (.slice (some ⟨w.heap.size, 0, none⟩) 0 0) 0 (([] : List Int).map (Value.int .i64))) :=
    ⟨rfl, .inr ⟨w.heap.size, 0, #[], rfl, Nat.le_refl _, heap_alloc_new w _, by simp, by decide, rfl, rfl⟩⟩
  have startB : Hid (Below w.heap.size w (w.alloc (.cells #[] 2))) := new1 _ _
  clear h hS hB
  go_enter Try.func20, Try.ntmps20
  go_wp2_with fail
  go_loopw [7, 8] (fun o t wr => ∃ (k g' cp : Nat) (L : List Int), k ≤ n ∧ o = .slice (some ⟨g', 0, none⟩) k cp ∧ t = .int .i64 (k : Int) ∧ Hid (w.heap.size ≤ g') ∧ Hid (wr.ownsRow w.heap.size 2 1 (.slice (some ⟨g', 0, none⟩) k cp) k (L.map (Value.int .i64))) ∧ Hid (L.length = k) ∧ Hid (Dl n L) ∧ Hid (Sr wr g v (a + (k : Int))) ∧ Hid (Turned g (g + 1) w wr)) (fun _ t _ => n - (intOf t).toNat)
  case atStart => exact ⟨0, _, _, [], by omega, rfl, rfl, Nat.le_refl _, start, rfl, ⟨fun _ hz => by simp at hz, fun e => by simp at e; omega⟩, by show Sr _ g v (a + 0); rw [Int.add_zero]; exact HS.out.below startB.out HG.out, (Turned.refl _ _ _).also startB.out (Nat.le_refl _)⟩
  case round =>
    obtain ⟨k, g', cp, L, hk, rfl, rfl, hg, ho, hL, hD, hS, hT⟩ := hrel
    clear start startB HS
    by_cases hlt : k < n
    · have HBr : Hid (Bb wr B v) := HB.out.below (hT.out.below HBg.out (by have := HG.out; have := HBg.out; omega))
      go_wp2_with fail
      refine (pick_any HBr.out hS.out (by omega) (by omega) (by omega) (by omega)).mono ?_
      rintro e w1 ⟨r, rfl, hr0, hr1, o1, t1⟩
      have SR : Hid (Sr w1 g v (a + (k : Int) + 1)) := o1
      have RO : Hid (w1.ownsRow w.heap.size 2 1 (.slice (some ⟨g', 0, none⟩) k cp) k (L.map (Value.int .i64))) := row_turned ho.out t1 (by have := HG.out; omega)
      have TT : Hid (Turned g (g + 1) w w1) := hT.out.two t1
      have SZ : Hid (w.heap.size ≤ w1.heap.size) := TT.out.size
      clear o1 t1 ho hS hT HBr
      have fin : ∀ (z : Int), -5 ≤ z → z ≤ 5 → (k + 1 = n → z ≠ 0) → ∀ (v' : Value) (w3 : World), w3.ownsRow w.heap.size 2 1 v' (k + 1) (L.map (Value.int .i64) ++ [.int .i64 z]) → (w1.alloc (.cells #[.int .i64 z] 2)).grownBy w3 (some g') →
          ∃ (k2 g2 cp2 : Nat) (L2 : List Int), k2 ≤ n ∧ v' = .slice (some ⟨g2, 0, none⟩) k2 cp2 ∧ Value.int .i64 ((k : Int) + 1) = .int .i64 (k2 : Int) ∧ Hid (w.heap.size ≤ g2) ∧ Hid (w3.ownsRow w.heap.size 2 1 (.slice (some ⟨g2, 0, none⟩) k2 cp2) k2 (L2.map (Value.int .i64))) ∧ Hid (L2.length = k2) ∧ Hid (Dl n L2) ∧ Hid (Sr w3 g v (a + (k2 : Int))) ∧ Hid (Turned g (g + 1) w w3) := by
        intro z hz1 hz2 hz3 v' w3 hown hgrow
        obtain ⟨g2, cap2, rfl⟩ := own_shape hown (by omega)
        have hb : Below w.heap.size w1 w3 := ((Below.refl _ _).alloc SZ.out _).grown hgrow (by have := SZ.out; simp; omega) (by intro j hj; injection hj with hj; have := hg.out; omega)
        refine ⟨k + 1, g2, cap2, L ++ [z], by omega, rfl, by go_num, ?_, ?_, ?_, hD.out.more ⟨hz1, hz2⟩ (fun e => hz3 (by rw [← hL.out]; exact e)), ?_, TT.out.also hb (Nat.le_refl _)⟩
        · rcases hown.2 with ⟨h', _⟩ | ⟨g3, cap3, cur, h', hB3, _⟩
          · simp at h'
          · simp only [Value.slice.injEq, Option.some.injEq, Addr.mk.injEq, and_true] at h'
            obtain ⟨rfl, _⟩ := h'
            exact hB3
        · rw [List.map_append]; exact hown
        · show (L ++ [z]).length = k + 1
          rw [List.length_append, hL.out]; rfl
        · have e : a + ((k + 1 : Nat) : Int) = a + (k : Int) + 1 := by omega
          rw [e]
          exact SR.out.below hb HG.out
      have FN : Hid _ := fin
      clear fin
      by_cases h1 : k + 1 = n <;> by_cases h2 : r = 5
      all_goals
        go_wp2_with (first | (at_builtin; refine wpList_append_own _ rfl (.tmp 31) (.tmp 33) 24 rfl w.heap.size 2 i0 (.int .i64 0) 1 8 Try.underlying24 hi hz0 hz1 hz2 rfl (by decide) _ k _ rfl (RO.out.alloc _) ⟨w1.heap.size, 0, none⟩ 1 1 [.int .i64 _] rfl rfl (cell_one_new w1 _ _) (by intro u hu; rw [List.mem_singleton] at hu; subst hu; rfl) (by unfold maxLen; omega) (by omega) (by have := SZ.out; simp; omega) ?_; intro v' w3 hown' hgrow _))
        obtain ⟨k2, g2, cp2, L2, hk2, rfl, hkk, hr⟩ := FN.out _ (by omega) (by omega) (by omega) _ _ hown' hgrow
        have HR : Hid _ := hr
        clear hown' hgrow hr FN
        go_wp2_with fail
        go_roundw
        case rel => exact ⟨k2, g2, cp2, L2, hk2, rfl, by simp only [Value.int.injEq, true_and] at hkk ⊢; omega, HR.out⟩
        case measure => simp [RowKit.intOf]; omega
    · obtain rfl : n = k := by omega
      have HO : Hid (wh.Own wr w.heap.size wr.heap.size (.slice (some ⟨g', 0, none⟩) n cp) L) := by
        have h2 := ho.out
        have h3 : wr.ownsRow w.heap.size 2 1 (.slice (some ⟨g', 0, none⟩) n cp) L.length (L.map (Value.int .i64)) := by rw [hL.out]; exact h2
        exact wh.Own.of_row h3 (by have := hL.out; omega) (Nat.le_refl _)
      clear ho hi hz0 hz1 hz2
      go_wp2_with fail
      go_ret
      exact ⟨_, L, rfl, hL.out, hD.out, HO.out, hT.out⟩

theorem from_any (ao : Option Addr) (n cap : Nat) (w : World) : Calls Try.prog 18 #[.slice ao n cap] w fun e w' => e = .returned (.pointer (some ⟨w.heap.size, 0, none⟩)) ∧ w' = w.alloc (.cells #[.slice ao n cap, .int .i64 0, .int .u64 0] 58) := by
  go_enter Try.func18, Try.ntmps18
  go_wp2_with fail
  go_ret
  exact ⟨rfl, rfl⟩
theorem bys_shape {w : World} {v : Value} (h : Bys w v) : ∃ ao n cap, v = .slice ao n cap := by
  rcases h with ⟨ao, cap, rfl⟩ | ⟨b, off, len, cap, z, rfl, _⟩
  · exact ⟨_, _, _, rfl⟩
  · exact ⟨_, _, _, rfl⟩
set_option maxRecDepth 100000 in
theorem degree_any {w : World} {v : Value} (h : Bys w v) : Calls Try.prog 5 #[v, .int .i64 4] w fun e w' => ∃ (s : Value) (L : List Int), e = .returned (.agg #[s]) ∧ Dr L ∧ wh.Own w' w.heap.size w'.heap.size s L ∧ Below w.heap.size w w' := by
  obtain ⟨vo, vn, vc, rfl⟩ := bys_shape h
  obtain ⟨v, hv⟩ : ∃ v, v = Value.slice vo vn vc := ⟨_, rfl⟩
  have HB : Hid (Bb w w.heap.size v) := by rw [hv]; exact Bb.of h
  have HV : Hid (v = Value.slice vo vn vc) := hv
  clear h hv
  obtain ⟨w1, hw⟩ : ∃ x, x = w.alloc (.cells #[.slice none 0 0] 26) := ⟨_, rfl⟩
  have X1 : Hid (Bx w1 w.heap.size (.slice none 0 0)) := by rw [hw]; exact Bx.new _ _ _
  have B1 : Hid (Below w.heap.size w w1) := by rw [hw]; exact new1 _ _
  have Z1 : Hid (w1.heap.size = w.heap.size + 1) := by show _ = _; rw [hw]; simp
  go_enter Try.func5, Try.ntmps5
  go_wp2_with fail
  rw [← hw]
  clear hw
  refine (from_any vo vn vc w1).mono ?_
  rintro e w2 ⟨rfl, hw⟩
  have S2 : Hid (Sr w2 w1.heap.size v 0) := by rw [hw, HV.out]; exact ⟨0, heap_alloc_new w1 _, by omega, by omega⟩
  have b : Below w1.heap.size w1 w2 := by rw [hw]; exact new1 _ _
  have B2 : Hid (Below w.heap.size w w2) := B1.out.trans (b.mono B1.out.size)
  have X2 : Hid (Bx w2 w.heap.size (.slice none 0 0)) := X1.out.kept b
  clear b hw X1
  have HB2 : Hid (Bb w2 w.heap.size v) := HB.out.below B2.out
  go_wp2_with fail
  refine (pick_any HB2.out S2.out (by omega) (by omega) (by omega) (by omega)).mono ?_
  rintro e w3 ⟨r, rfl, hr0, hr1, o, t⟩
  have S3 : Hid (Sr w3 w1.heap.size v (0 + 1)) := o
  have B3 : Hid (Below w.heap.size w w3) := B2.out.trans (t.below (by have := Z1.out; omega) B2.out.size)
  have X3 : Hid (Bx w3 w.heap.size (.slice none 0 0)) := X2.out.turned t (by left; have := Z1.out; omega)
  have HB3 : Hid (Bb w3 w.heap.size v) := HB.out.below B3.out
  clear o t S2 B2 X2 HB2
  obtain ⟨n, hn⟩ : ∃ n : Nat, (n : Int) = 2 + r := ⟨(2 + r).toNat, by omega⟩
  have hr : r = (n : Int) - 2 := by omega
  subst hr
  have e2 : Hid (2 + ((n : Int) - 2) = n) := by show _ = _; omega
  clear hn
  go_wp2_with fail
  rw [e2.out]
  refine (draw_any (n := n) HB3.out (by have := Z1.out; omega) S3.out (by omega) (by omega) (by omega) (by omega)).mono ?_
  rintro e w4 ⟨s, L, rfl, hl, hd, o, t⟩
  subst hl
  obtain ⟨sa, sc, rfl⟩ := o.shape
  have O4 : Hid (wh.Own w4 w3.heap.size w4.heap.size (.slice sa L.length sc) L) := o
  have B4 : Hid (Below w.heap.size w w4) := B3.out.trans (t.below (by have := Z1.out; omega) B3.out.size)
  have X4 : Hid (Bx w4 w.heap.size (.slice none 0 0)) := X3.out.turned t (by left; have := Z1.out; omega)
  have HD : Hid (Dr L) := ⟨by omega, by omega, hd.1, hd.2 rfl⟩
  have HZ : Hid (w.heap.size < w3.heap.size) := X3.out.lt
  have c4 := X4.out.cell
  have f4 := X4.out.free
  have Y4 := (X4.out.set (.slice sa L.length sc)).cell
  have BE : Hid (Below w.heap.size w (w4.setCell ⟨w.heap.size, 0, none⟩ (.slice sa L.length sc))) := B4.out.setCell (Nat.le_refl _) _
  clear o t S3 B3 X3 HB3 hd
  go_wp2_with fail
  refine bodyPost_ret (v := .agg #[.slice sa L.length sc]) (by simp [results, Try.results5, Y4, go_sem]) rfl ?_
  refine ⟨_, L, rfl, HD.out, ?_, BE.out⟩
  refine wh.Own.wide (wh.Own.stay O4.out fun k h1 _ _ => ?_) (by have := HZ.out; omega) (by simp)
  exact Below.heap_setCell _ _ _ _ (by have := HZ.out; show k ≠ w.heap.size; omega)
end Go.Proofs.Ytcocidlijdfmmaa.fw
