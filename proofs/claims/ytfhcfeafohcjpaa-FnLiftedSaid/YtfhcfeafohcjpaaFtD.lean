/- FnLifted: the whole over a prime that it draws. -/
import Derived.Test.YtfhcfeafohcjpaaFtQ
import Derived.Test.YtfhcfeafohcjpaaFtE
namespace Go.Proofs.Ytfhcfeafohcjpaa.ft
open Go.RowKit Go.Pl Go.Proofs.Ytfhcfeafohcjpaa.wh Go.Proofs.Ytfhcfeafohcjpaa.bys Go.Proofs.Ytfhcfeafohcjpaa.fw

/-- pick, also of one -/
theorem pick1_any {w : World} {g B : Nat} {v : Value} {a n : Int} (h : Bb w B v) (hS : Sr w g v a) (ha0 : 0 ≤ a) (ha2 : a ≤ 1000) (hn : 1 ≤ n) (hn2 : n ≤ 200) :
    Calls Try.prog 50 #[.pointer (some ⟨g, 0, none⟩), .int .i64 n] w fun e w' => ∃ r a' : Int, e = .returned (.int .i64 r) ∧ 0 ≤ r ∧ r < n ∧ Sr w' g v a' ∧ Turned g (g + 1) w w' := by
  by_cases h1 : 1 < n
  · exact (pick_any h hS ha0 ha2 h1 hn2).mono fun e w' ⟨r, h1, h2, h3, h4, h5⟩ => ⟨r, _, h1, h2, h3, h4, h5⟩
  · obtain rfl : n = 1 := by omega
    have HS : Hid (Sr w g v a) := hS
    clear h hS
    go_enter Try.func50, Try.ntmps50
    go_wp2_with fail
    go_ret
    exact ⟨0, rfl, by omega, by omega, ⟨a, HS.out⟩, Turned.refl _ _ _⟩

theorem own_ge {w : World} {base e size g n cap m : Nat} {xs : List Value} (h : w.ownsRow base e size (.slice (some ⟨g, 0, none⟩) n cap) m xs) : base ≤ g := by
  rcases h.2 with ⟨h', _⟩ | ⟨g3, cap3, cur, h', hB3, _⟩
  · simp at h'
  · simp only [Value.slice.injEq, Option.some.injEq, Addr.mk.injEq, and_true] at h'
    obtain ⟨rfl, _⟩ := h'
    exact hB3
/-- the result's box behind the draws -/
theorem bx_over {w w1 w2 w4 w5 : World} {v : Value} (X : Hid (Bx w2 w.heap.size v)) (T : Hid (Turned w1.heap.size (w1.heap.size + 1) w2 w4)) (b : Below w2.heap.size w4 w5) (Z1 : Hid (w1.heap.size = w.heap.size + 1)) (Z2 : Hid (w2.heap.size = w1.heap.size + 1)) : Bx w5 w.heap.size v :=
  (X.out.turned T.out (by have := Z1.out; omega)).below b (by have := Z1.out; have := Z2.out; omega)

set_option maxRecDepth 100000 in
set_option maxHeartbeats 1600000 in
theorem over_any {w : World} {v : Value} {p : Int} (h : Bys w v) (hp : 2 ≤ p ∧ p ≤ 7) : Calls Try.prog 20 #[v, .int .i64 p, .int .i64 3] w fun e w' => ∃ (s : Value) (L : List Int), e = .returned (.agg #[s]) ∧ Dg p L ∧ wh.Own w' w.heap.size w'.heap.size s L ∧ Below w.heap.size w w' := by
  obtain ⟨i0, hi, hz0, hz1, hz2⟩ := info_parts info_i
  obtain ⟨vo, vn, vc, rfl⟩ := bys_shape h
  obtain ⟨v, hv⟩ : ∃ v, v = Value.slice vo vn vc := ⟨_, rfl⟩
  have HB : Hid (Bb w w.heap.size v) := by rw [hv]; exact Bb.of h
  have HV : Hid (v = Value.slice vo vn vc) := hv
  have wp1 : IntKind.i64.wrap (p - 1) = p - 1 := IntWalk.i64_in _ (by omega)
  have wp2 : wrap64 (p - 1) = p - 1 := IntWalk.wrap64_in _ (by omega)
  clear h hv
  obtain ⟨w1, hw⟩ : ∃ x, x = w.alloc (.cells #[.slice none 0 0] 26) := ⟨_, rfl⟩
  have X1 : Hid (Bx w1 w.heap.size (.slice none 0 0)) := by rw [hw]; exact Bx.new _ _ _
  have B1 : Hid (Below w.heap.size w w1) := by rw [hw]; exact new1 _ _
  have Z1 : Hid (w1.heap.size = w.heap.size + 1) := by show _ = _; rw [hw]; simp
  go_enter Try.func20, Try.ntmps20
  go_wp2_with fail
  rw [← hw]
  clear hw
  refine (from_any vo vn vc w1).mono ?_
  rintro e w2 ⟨rfl, hw⟩
  have S2 : Hid (Sr w2 w1.heap.size v 0) := by rw [hw, HV.out]; exact ⟨0, heap_alloc_new w1 _, by omega, by omega⟩
  have Z2 : Hid (w2.heap.size = w1.heap.size + 1) := by show _ = _; rw [hw]; simp
  have b : Below w1.heap.size w1 w2 := by rw [hw]; exact new1 _ _
  have B2 : Hid (Below w.heap.size w w2) := B1.out.trans (b.mono B1.out.size)
  have X2 : Hid (Bx w2 w.heap.size (.slice none 0 0)) := X1.out.kept b
  clear b hw X1
  have HB2 : Hid (Bb (w2.alloc (.cells #[] 2)) w.heap.size v) := HB.out.below (B2.out.alloc B2.out.size _)
  have S3 : Hid (Sr (w2.alloc (.cells #[] 2)) w1.heap.size v 0) := S2.out.below (new1 _ _) (by have := Z2.out; omega)
  go_wp2_with fail
  refine (pick_any HB2.out S3.out (by omega) (by omega) (by omega) (by omega)).mono ?_
  rintro e w3 ⟨r, rfl, hr0, hr1, o, t⟩
  have S4 : Hid (Sr w3 w1.heap.size v (0 + 1)) := o
  have T4 : Hid (Turned w1.heap.size (w1.heap.size + 1) w2 w3) := ((Turned.refl _ _ _).also (new1 _ _) (Nat.le_refl _)).two t
  have RS : Hid (w3.ownsRow w2.heap.size 2 1 (.slice (some ⟨w2.heap.size, 0, none⟩) 0 0) 0 (([] : List Int).map (Value.int .i64))) :=
    row_turned (⟨rfl, .inr ⟨w2.heap.size, 0, #[], rfl, Nat.le_refl _, heap_alloc_new w2 _, by simp, by decide, rfl, rfl⟩⟩) t (by have := Z2.out; omega)
  clear o t S2 S3 HB2
  obtain ⟨n, hn⟩ : ∃ n : Nat, (n : Int) = 1 + r := ⟨(1 + r).toNat, by omega⟩
  have hr : r = (n : Int) - 1 := by omega
  subst hr
  clear hn
  go_wp2_with fail
  go_loopw [8, 9] (fun o t wr => ∃ (k g' cp : Nat) (L : List Int), k ≤ n ∧ o = .slice (some ⟨g', 0, none⟩) k cp ∧ t = .int .i64 ((n : Int) - (k : Int)) ∧ Hid (w2.heap.size ≤ g') ∧ Hid (wr.ownsRow w2.heap.size 2 1 (.slice (some ⟨g', 0, none⟩) k cp) k (L.map (Value.int .i64))) ∧ Hid (L.length = k) ∧ Hid (inR 0 (p - 1) L) ∧ Hid (Sr wr w1.heap.size v (1 + (k : Int))) ∧ Hid (Turned w1.heap.size (w1.heap.size + 1) w2 wr)) (fun _ t _ => (intOf t).toNat)
  case atStart => exact ⟨0, _, _, [], by omega, rfl, by simp; omega, Nat.le_refl _, RS.out, rfl, fun _ hz => by simp at hz, S4.out, T4.out⟩
  case round =>
    obtain ⟨k, g', cp, L, hk, rfl, rfl, hg, ho, hL, hD, hS, hT⟩ := hrel
    clear RS S4 T4
    have HBr : Hid (Bb wr w.heap.size v) := HB.out.below (B2.out.trans (hT.out.below (by have := Z1.out; omega) (by have := Z1.out; have := Z2.out; omega)))
    have SZ0 : Hid (w2.heap.size ≤ wr.heap.size) := hT.out.size
    by_cases hlt : k < n
    · have wk : IntKind.i64.wrap ((n : Int) - (k : Int) - 1) = (n : Int) - (k : Int) - 1 := IntWalk.i64_in _ (by omega)
      have wk2 : wrap64 ((n : Int) - (k : Int) - 1) = (n : Int) - (k : Int) - 1 := IntWalk.wrap64_in _ (by omega)
      go_wp2_with fail
      refine (pick_any HBr.out hS.out (by omega) (by omega) (by omega) (by omega)).mono ?_
      rintro e w4 ⟨z, rfl, hr0, hr1, o1, t1⟩
      have SR : Hid (Sr w4 w1.heap.size v (1 + (k : Int) + 1)) := o1
      have RO : Hid (w4.ownsRow w2.heap.size 2 1 (.slice (some ⟨g', 0, none⟩) k cp) k (L.map (Value.int .i64))) := row_turned ho.out t1 (by have := Z2.out; omega)
      have TT : Hid (Turned w1.heap.size (w1.heap.size + 1) w2 w4) := hT.out.two t1
      have SZ : Hid (w2.heap.size ≤ w4.heap.size) := TT.out.size
      clear o1 t1 ho hS hT HBr
      go_wp2_with (first | (at_builtin; refine wpList_append_own _ rfl (.tmp 21) (.tmp 25) 22 rfl w2.heap.size 2 i0 (.int .i64 0) 1 8 Try.underlying22 hi hz0 hz1 hz2 rfl (by decide) _ k _ rfl (RO.out.alloc _) ⟨w4.heap.size, 0, none⟩ 1 1 [.int .i64 _] rfl rfl (cell_one_new w4 _ _) (by intro u hu; rw [List.mem_singleton] at hu; subst hu; rfl) (by unfold maxLen; omega) (by omega) (by have := SZ.out; simp; omega) ?_; intro v' w5 hown' hgrow _))
      obtain ⟨g2, cap2, rfl⟩ := own_shape hown' (by omega)
      have hb : Below w2.heap.size w4 w5 := ((Below.refl _ _).alloc SZ.out _).grown hgrow (by have := SZ.out; simp; omega) (by intro j hj; have hj' : some g' = some j := hj; injection hj' with hj'; have := hg.out; omega)
      have HR : Hid (Hid (w2.heap.size ≤ g2) ∧ Hid (w5.ownsRow w2.heap.size 2 1 (.slice (some ⟨g2, 0, none⟩) (k + 1) cap2) (k + 1) ((L ++ [z]).map (Value.int .i64))) ∧ Hid ((L ++ [z]).length = k + 1) ∧ Hid (inR 0 (p - 1) (L ++ [z])) ∧ Hid (Sr w5 w1.heap.size v (1 + ((k + 1 : Nat) : Int))) ∧ Hid (Turned w1.heap.size (w1.heap.size + 1) w2 w5)) := by
        refine ⟨?_, ?_, ?_, ?_, ?_, TT.out.also hb (Nat.le_refl _)⟩
        · rcases hown'.2 with ⟨h', _⟩ | ⟨g3, cap3, cur, h', hB3, _⟩
          · simp at h'
          · simp only [Value.slice.injEq, Option.some.injEq, Addr.mk.injEq, and_true] at h'
            obtain ⟨rfl, _⟩ := h'
            exact hB3
        · rw [List.map_append]; exact hown'
        · show (L ++ [z]).length = k + 1
          rw [List.length_append, hL.out]; rfl
        · intro y hy
          rw [List.mem_append] at hy
          rcases hy with hy | hy
          · exact hD.out y hy
          · rw [List.mem_singleton] at hy; rw [hy]; omega
        · have e : 1 + ((k + 1 : Nat) : Int) = 1 + (k : Int) + 1 := by omega
          rw [e]
          exact SR.out.below hb (by have := Z2.out; omega)
      clear hown' hgrow hb RO SR TT
      go_wp2_with fail
      go_roundw
      case rel => exact ⟨k + 1, g2, cap2, L ++ [z], by omega, rfl, by go_num, HR.out⟩
      case measure => simp [RowKit.intOf]; omega
    · obtain rfl : n = k := by omega
      have RO : Hid (wr.ownsRow w2.heap.size 2 1 (.slice (some ⟨g', 0, none⟩) n cp) n (L.map (Value.int .i64))) := ho.out
      go_wp2_with fail
      refine (pick1_any HBr.out hS.out (by omega) (by omega) (by omega) (by omega)).mono ?_
      rintro e w4 ⟨z, a9, rfl, hr0, hr1, o1, t1⟩
      replace RO : Hid (w4.ownsRow w2.heap.size 2 1 (.slice (some ⟨g', 0, none⟩) n cp) n (L.map (Value.int .i64))) := row_turned RO.out t1 (by have := Z2.out; omega)
      have TT : Hid (Turned w1.heap.size (w1.heap.size + 1) w2 w4) := hT.out.two t1
      have SZ : Hid (w2.heap.size ≤ w4.heap.size) := TT.out.size
      clear o1 t1 ho hS hT HBr
      go_wp2_with (first | (at_builtin; refine wpList_append_own _ rfl (.tmp 27) (.tmp 33) 22 rfl w2.heap.size 2 i0 (.int .i64 0) 1 8 Try.underlying22 hi hz0 hz1 hz2 rfl (by decide) _ n _ rfl (RO.out.alloc _) ⟨w4.heap.size, 0, none⟩ 1 1 [.int .i64 _] rfl rfl (cell_one_new w4 _ _) (by intro u hu; rw [List.mem_singleton] at hu; subst hu; rfl) (by unfold maxLen; omega) (by omega) (by have := SZ.out; simp; omega) ?_; intro v' w5 hown' hgrow _; obtain ⟨g2, cap2, rfl⟩ := own_shape hown' (by omega); have hb : Below w2.heap.size w4 w5 := ((Below.refl _ _).alloc SZ.out _).grown hgrow (by have := SZ.out; simp; omega) (by intro j hj; have hj' : some g' = some j := hj; injection hj' with hj'; have := hg.out; omega); have HG2 : Hid (w2.heap.size ≤ g2) := own_ge hown'; have HW : Hid (w5.ownsRow w2.heap.size 2 1 (.slice (some ⟨g2, 0, none⟩) (n + 1) cap2) (n + 1) ((L ++ [1 + z]).map (Value.int .i64))) := (by show World.ownsRow _ _ _ _ _ _ _; rw [List.map_append]; exact hown'); have HB5 : Hid (Below w.heap.size w w5) := B2.out.trans ((TT.out.also hb (Nat.le_refl _)).below (by have := Z1.out; omega) (by have := Z1.out; have := Z2.out; omega)); have HX5 : Hid (Bx w5 w.heap.size (.slice none 0 0)) := bx_over X2 TT hb Z1 Z2; have c5 := HX5.out.cell; have f5 := HX5.out.free; have Y5 := (HX5.out.set (.slice (some ⟨g2, 0, none⟩) (n + 1) cap2)).cell; clear hown' hgrow hb))
      have HD2 : Hid (Dg p (L ++ [1 + z])) := by
        refine ⟨?_, ?_, fun y hy => ?_⟩
        · rw [List.length_append, hL.out]; simp; omega
        · rw [List.length_append, hL.out]; simp; omega
        · rw [List.mem_append] at hy
          rcases hy with hy | hy
          · exact hD.out y hy
          · rw [List.mem_singleton] at hy; rw [hy]; omega
      have hl1 : (L ++ [1 + z]).length = n + 1 := by rw [List.length_append, hL.out]; rfl
      have HO : Hid (wh.Own w5 w2.heap.size w5.heap.size (.slice (some ⟨g2, 0, none⟩) (n + 1) cap2) (L ++ [1 + z])) := by
        have h3 : w5.ownsRow w2.heap.size 2 1 (.slice (some ⟨g2, 0, none⟩) (n + 1) cap2) (L ++ [1 + z]).length ((L ++ [1 + z]).map (Value.int .i64)) := by rw [hl1]; exact HW.out
        exact wh.Own.of_row h3 (by rw [hl1]; omega) (Nat.le_refl _)
      refine bodyPost_ret (v := .agg #[.slice (some ⟨g2, 0, none⟩) (n + 1) cap2]) (by simp [results, Try.results20, Y5, go_sem]) rfl ?_
      refine ⟨_, _, rfl, HD2, ?_, HB5.out.setCell (Nat.le_refl _) _⟩
      refine wh.Own.wide (wh.Own.stay HO.out fun k h1 _ _ => ?_) (by have := Z1.out; have := Z2.out; omega) (by simp)
      exact Below.heap_setCell _ _ _ _ (by have := Z1.out; have := Z2.out; show k ≠ w.heap.size; omega)
end Go.Proofs.Ytfhcfeafohcjpaa.ft
