/- RootsOver: what both sides answer. -/
import Derived.Test.YthldlhpdnocmcaaCoF
namespace Go.Proofs.Ythldlhpdnocmcaa.fRootsOver
open Go.RowKit Go.Pl Go.Proofs.Ythldlhpdnocmcaa.wh
def R (A : List Int) (p : Int) : List Int := if over A p = true ∧ decide (A = [0]) = false then rts A p p.toNat else []
def ok (A : List Int) (p : Int) : Bool := over A p && !(decide (A = [0]))
theorem len (A : List Int) (p : Int) : (R A p).length ≤ 17 := by
  unfold R
  split
  · rename_i h
    have h1 := rts_len A p p.toNat
    have h2 := isP_le (over_val h.1).1
    omega
  · simp
theorem row_kept {w w' : World} {base e size n : Nat} {v : Value} {xs : List Value} (h : w.ownsRow base e size v n xs) (hb : Below w.heap.size w w') : w'.ownsRow base e size v n xs := by
  rcases h with ⟨h1, h2 | ⟨g, cap, cur, hv, hB, hg, h3⟩⟩
  · exact ⟨h1, .inl h2⟩
  · exact ⟨h1, .inr ⟨g, cap, cur, hv, hB, by rw [hb.block g (Array.getElem?_eq_some_iff.1 hg).1]; exact hg, h3⟩⟩
theorem own_nil (w : World) (lo hi : Nat) : Own w lo hi (.slice none 0 0) [] := ⟨by simp, .inl ⟨rfl, rfl⟩⟩
theorem lin_gd {x p : Int} (hp : isP p = true) : Gd [md (-x) p, 1] p := by
  have hp2 := isP_le hp
  have h := md_range (-x) (p := p) (by omega)
  refine ⟨⟨by simp, fun z hz => ?_⟩, by simp, .inr (by simp)⟩
  simp only [List.mem_cons, List.not_mem_nil, or_false] at hz
  rcases hz with rfl | rfl <;> omega

set_option maxRecDepth 100000 in
set_option maxHeartbeats 6400000 in
theorem impl_any {A0 : List Int} {v0 : Value} {w : World} (h0 : Wh w v0 A0) (a1 : Int) (_b1 : (Lit.int .i64 a1).wf = true) : Calls Try.prog 38 #[v0, .int .i64 a1] w (AnsLI (R A0 a1) (ok A0 a1) w) := by
  obtain ⟨i0, hi, hz0, hz1, hz2⟩ := info_parts info_i
  obtain ⟨s0, rfl, h0⟩ := h0
  obtain ⟨ao, cap, rfl⟩ := id h0.shape
  have R0 : Hid (Ls w (.slice ao A0.length cap) A0) := h0
  clear h0
  obtain ⟨w1, hw⟩ : ∃ x, x = w.alloc (.cells #[.slice ao A0.length cap] 26) := ⟨_, rfl⟩
  have X1 : Hid (Bx w1 w.heap.size (.slice ao A0.length cap)) := by rw [hw]; exact Bx.new _ _ _
  have B1 : Hid (Below w.heap.size w w1) := by rw [hw]; exact new1 _ _
  have R1 : Hid (Ls w1 (.slice ao A0.length cap) A0) := R0.out.below B1.out
  have c1 := X1.out.cell
  clear R0
  go_enter Try.func38, Try.ntmps38
  go_wp2_with fail
  rw [← hw]
  clear hw
  refine (iover_any ⟨_, rfl, R1.out⟩ a1).mono ?_
  rintro e w2 ⟨rfl, b⟩
  replace B1 : Hid (Below w.heap.size w w2) := B1.out.trans (b.mono B1.out.size)
  replace R1 : Hid (Ls w2 (.slice ao A0.length cap) A0) := R1.out.below b
  replace X1 : Hid (Bx w2 w.heap.size (.slice ao A0.length cap)) := X1.out.kept b
  replace c1 := X1.out.cell
  clear b
  cases hv : over A0 a1 with
  | false =>
    have HZ : Hid (R A0 a1 = [] ∧ ok A0 a1 = false) := ⟨by unfold R; rw [if_neg (by rw [hv]; simp)], by unfold ok; rw [hv]; rfl⟩
    clear hv
    go_wp2_with fail
    go_ret2
    exact ⟨_, by rw [HZ.out.2]; rfl, by rw [HZ.out.1]; exact own_nil _ _ _, B1.out⟩
  | true =>
  have HV : Hid (over A0 a1 = true) := hv
  have HP : Hid (isP a1 = true) := (over_val hv).1
  have GA : Hid (Gd A0 a1) := Gd.of_over hv
  have HNE : Hid (A0 ≠ []) := ne_of_len GA.out.1.1
  have HZD : Hid (decide (at' A0 (A0.length - 1) = 0) = decide (A0 = [0])) := zd_eq GA.out.2.2 GA.out.1.1
  clear hv
  go_wp2_with fail
  refine (izero_any R1.out HNE.out).mono ?_
  rintro e w3 ⟨rfl, hw3⟩
  rw [hw3, HZD.out]
  clear hw3
  cases hz : decide (A0 = [0]) with
  | true =>
    have HZ : Hid (R A0 a1 = [] ∧ ok A0 a1 = false) := ⟨by unfold R; rw [if_neg (by rw [hz]; simp)], by unfold ok; rw [hz]; simp⟩
    clear hz
    go_wp2_with fail
    go_ret2
    exact ⟨_, by rw [HZ.out.2]; rfl, by rw [HZ.out.1]; exact own_nil _ _ _, B1.out⟩
  | false =>
  have HZ : Hid (R A0 a1 = rts A0 a1 a1.toNat ∧ ok A0 a1 = true) := ⟨by unfold R; rw [if_pos ⟨HV.out, hz⟩], by unfold ok; rw [hz, HV.out]; rfl⟩
  have hp2 := isP_le HP.out
  have HP1 : Hid (1 ≤ a1 ∧ a1 ≤ 1000000) := ⟨by omega, by omega⟩
  have start : Hid ((w2.alloc (.cells #[] 2)).ownsRow w2.heap.size 2 1 (.slice (some ⟨w2.heap.size, 0, none⟩) (rts A0 a1 0).length 0) (rts A0 a1 0).length ((rts A0 a1 0).map (Value.int .i64))) :=
    ⟨rfl, .inr ⟨w2.heap.size, 0, #[], rfl, Nat.le_refl _, heap_alloc_new w2 _, by simp [rts], by decide, rfl, rfl⟩⟩
  have startB : Hid (Below w2.heap.size w2 (w2.alloc (.cells #[] 2))) := new1 _ _
  have LX : Hid (w.heap.size < w2.heap.size) := X1.out.lt
  clear hz c1
  go_wp2_with fail
  go_loopg [6, 19] a1.toNat (fun k o t wr => ∃ (x g cp : Nat), x + k = a1.toNat ∧ o = .slice (some ⟨g, 0, none⟩) (rts A0 a1 x).length cp ∧ t = .int .i64 (x : Int) ∧ Hid (w2.heap.size ≤ g) ∧ Hid (wr.ownsRow w2.heap.size 2 1 (.slice (some ⟨g, 0, none⟩) (rts A0 a1 x).length cp) (rts A0 a1 x).length ((rts A0 a1 x).map (Value.int .i64))) ∧ Hid (Below w2.heap.size w2 wr))
  case atStart => exact ⟨0, _, _, by omega, rfl, rfl, Nat.le_refl _, start, startB⟩
  case round =>
    obtain ⟨x, g, cp, hk, rfl, rfl, hg, ho, hb⟩ := hrel
    clear start startB
    by_cases hlt : (x : Int) < a1
    · obtain ⟨j, rfl⟩ : ∃ j, gk = j + 1 := ⟨gk - 1, by omega⟩
      have XB : Hid (Bx wr w.heap.size (.slice ao A0.length cap)) := X1.out.below hb.out LX.out
      have RL : Hid (Ls wr (.slice ao A0.length cap) A0) := R1.out.below hb.out
      have cX := XB.out.cell
      have HS : Hid (w2.heap.size ≤ wr.heap.size) := hb.out.size
      have n1 : IntKind.i64.wrap (-(x : Int)) = -(x : Int) := IntWalk.i64_in _ (by omega)
      have n2 : wrap64 (-(x : Int)) = -(x : Int) := IntWalk.wrap64_in _ (by omega)
      have HX : Hid (0 ≤ (x : Int) ∧ (x : Int) < a1) := ⟨by omega, hlt⟩
      have HRT : Hid (dr A0 [md (-(x : Int)) a1, 1] a1 = [0] ↔ hm A0 (x : Int) a1 A0.length = 0) := root_iff HP.out GA.out.1 HX.out
      have GL : Hid (Gd [md (-(x : Int)) a1, 1] a1) := lin_gd HP.out
      obtain ⟨y, hy⟩ : ∃ y, y = md (-(x : Int)) a1 := ⟨_, rfl⟩
      have HY : Hid (y = md (-(x : Int)) a1) := hy
      rw [← hy] at HRT GL
      have GR : Hid (Gd (dr A0 [y, 1] a1) a1) := Gd.rest HP.out GA.out GL.out (by simp)
      have HZE : Hid (decide (at' (dr A0 [y, 1] a1) ((dr A0 [y, 1] a1).length - 1) = 0) = decide (dr A0 [y, 1] a1 = [0])) := zd_eq GR.out.2.2 GR.out.1.1
      have HLE : Hid (at' [y, 1] ([y, 1].length - 1) ≠ 0) := by show (1 : Int) ≠ 0; decide
      have bd : Hid (Below wr.heap.size wr wr.drew) := (Below.refl _ _).drew
      have HB2 : Hid (Ls (wr.drew.alloc (.cells #[.int .i64 y, .int .i64 1] 2)) (.slice (some ⟨wr.heap.size, 0, none⟩) 2 2) [y, 1]) :=
        (Own.of_row (L := [y, 1]) (World.ownsRow_lit (base := wr.drew.heap.size) (e := 2) (size := 1) wr.drew #[.int .i64 y, .int .i64 1] 2 (Nat.le_refl _) (by decide) rfl) (by simp) (Nat.le_refl _)).ls (Nat.le_refl _)
      clear hy
      go_upto_region 7 with fail
      go_cut [31] (fun s wx => s = .bool (decide (dr A0 [y, 1] a1 = [0])) ∧ Hid (Below wr.heap.size wr wx))
      case first =>
        go_region_held3 (fun w' => w'.cell? ⟨w.heap.size, 0, none⟩ = some (.slice ao A0.length cap) ∧ Hid (Below wr.heap.size wr w'))
          (first
            | exact ⟨(XB.out.kept bd.out).cell, bd⟩
            | exact ⟨((XB.out.kept bd.out).alloc _).cell, bd.out.alloc bd.out.size _⟩
            | exact ⟨(XB.out.kept bs.out).cell, bs⟩)
          (first
            | (go_at_call 93; refine (rem_any (-(x : Int)) a1 HP1.out _).mono ?_; rintro e w3 ⟨rfl, hw3⟩; rw [hw3, ← HY.out]; clear hw3)
            | (go_at_call 88; refine (irest_any ((RL.out.below bd.out).below (new1 _ _)) HB2.out HP.out GA.out.1 (by have := GA.out.2.1; omega) GL.out.1 (by simp) HLE.out).mono ?_; rintro e wt ⟨vr, rfl, o, b⟩; obtain ⟨ra, rc, rfl⟩ := o.shape; have bs : Hid (Below wr.heap.size wr wt) := (bd.out.alloc bd.out.size _).trans (b.mono (by simp)); have OO : Hid (Ls wt (.slice ra (dr A0 [y, 1] a1).length rc) (dr A0 [y, 1] a1)) := o.ls (Nat.le_refl _); clear o b)
            | (go_at_call 62; refine (izero_any OO.out (ne_of_len GR.out.1.1)).mono ?_; rintro e w3 ⟨rfl, hw3⟩; rw [hw3, HZE.out]; clear hw3))
        all_goals (go_wp2_with fail; go_meet; exact ⟨rfl, bs⟩)
      case rest =>
        obtain ⟨rfl, hbs⟩ := hcut
        have ho2 : Hid (wc.ownsRow w2.heap.size 2 1 (.slice (some ⟨g, 0, none⟩) (rts A0 a1 x).length cp) (rts A0 a1 x).length ((rts A0 a1 x).map (Value.int .i64))) := row_kept ho.out hbs.out
        have hb2 : Hid (Below w2.heap.size w2 wc) := hb.out.trans (hbs.out.mono hb.out.size)
        have HS2 : Hid (w2.heap.size ≤ wc.heap.size) := hb2.out.size
        have hl17 := rts_len A0 a1 x
        clear cX ho hb XB RL HB2 bd
        by_cases hr : dr A0 [y, 1] a1 = [0]
        · have HRS : Hid (rts A0 a1 (x + 1) = rts A0 a1 x ++ [(x : Int)]) := rts_yes (HRT.out.1 hr)
          have hzz : Hid ((rts A0 a1 x).map (Value.int .i64) ++ [Value.int .i64 (x : Int)] = (rts A0 a1 (x + 1)).map (Value.int .i64)) := by show _ = _; rw [HRS.out]; simp
          have hzl : Hid ((rts A0 a1 x).length + 1 = (rts A0 a1 (x + 1)).length) := by show _ = _; rw [HRS.out]; simp
          rw [decide_eq_true hr]
          clear hr
          obtain ⟨n, hn⟩ : ∃ n, n = (rts A0 a1 x).length := ⟨_, rfl⟩
          rw [← hn] at ho2 hzl hl17 ⊢
          clear hn
          go_wp2_with (first | (at_builtin; refine wpList_append_own _ rfl (.tmp 32) (.tmp 34) 22 rfl w2.heap.size 2 i0 (.int .i64 0) 1 8 Try.underlying22 hi hz0 hz1 hz2 rfl (by decide) _ n _ rfl (ho2.out.alloc _) ⟨wc.heap.size, 0, none⟩ 1 1 [.int .i64 _] rfl rfl (cell_one_new wc _ _) (by intro u hu; rw [List.mem_singleton] at hu; subst hu; rfl) (by unfold maxLen; omega) (by omega) (by have := HS2.out; simp; omega) ?_; intro v' w3 hown' hgrow _))
          obtain ⟨g', cap', rfl⟩ := own_shape hown' (by omega)
          rw [hzz.out] at hown'
          have HG : Hid (w2.heap.size ≤ g') := by
            rcases hown'.2 with ⟨h', _⟩ | ⟨g2, cap2, cur, h', hB, _⟩
            · simp at h'
            · simp only [Value.slice.injEq, Option.some.injEq, Addr.mk.injEq, and_true] at h'
              obtain ⟨rfl, _⟩ := h'
              exact hB
          rw [hzl.out] at hown' ⊢
          have HO : Hid (w3.ownsRow w2.heap.size 2 1 (.slice (some ⟨g', 0, none⟩) (rts A0 a1 (x + 1)).length cap') (rts A0 a1 (x + 1)).length ((rts A0 a1 (x + 1)).map (Value.int .i64))) := hown'
          have HB : Hid (Below w2.heap.size w2 w3) := (hb2.out.alloc HS2.out _).grown hgrow (by have := HS2.out; simp; omega) (by intro j hj; have hj' : some g = some j := hj; injection hj' with hj'; have := hg.out; omega)
          clear hown' hgrow
          go_roundg j
          case rel => exact ⟨x + 1, g', cap', by omega, rfl, by go_num, HG, HO, HB⟩
          case measure => omega
        · have HRS : Hid (rts A0 a1 (x + 1) = rts A0 a1 x) := rts_no (fun h => hr (HRT.out.2 h))
          rw [decide_eq_false hr]
          clear hr
          rw [← HRS.out] at ho2 ⊢
          go_wp2_with fail
          go_roundg j
          case rel => exact ⟨x + 1, g, cp, by omega, rfl, by go_num, hg, ho2, hb2⟩
          case measure => omega
    · have hx : x = a1.toNat := by omega
      have HO : Hid (Own wr w.heap.size wr.heap.size (.slice (some ⟨g, 0, none⟩) (rts A0 a1 x).length cp) (R A0 a1)) := by
        show Own _ _ _ _ _
        rw [HZ.out.1, ← hx]
        exact (Own.of_row ho.out (by have := rts_len A0 a1 x; omega) (Nat.le_refl _)).wide (by have := LX.out; omega) (Nat.le_refl _)
      have HB : Hid (Below w.heap.size w wr) := B1.out.trans (hb.out.mono (by have := LX.out; omega))
      clear ho hb hx
      generalize (rts A0 a1 x).length = n at *
      go_wp2_with fail
      go_ret2
      exact ⟨_, by rw [HZ.out.2]; rfl, HO.out, HB.out⟩

set_option maxRecDepth 100000 in
set_option maxHeartbeats 6400000 in
theorem spec_any {A0 : List Int} {v0 : Value} {w : World} (h0 : Wh w v0 A0) (a1 : Int) (_b1 : (Lit.int .i64 a1).wf = true) : Calls Try.prog 37 #[v0, .int .i64 a1] w (AnsLS (R A0 a1) (ok A0 a1) w) := by
  obtain ⟨i0, hi, hz0, hz1, hz2⟩ := info_parts info_i
  obtain ⟨s0, rfl, h0⟩ := h0
  obtain ⟨ao, cap, rfl⟩ := id h0.shape
  have R0 : Hid (Ls w (.slice ao A0.length cap) A0) := h0
  clear h0
  obtain ⟨w2, hw⟩ : ∃ x, x = w.alloc (.cells #[.slice ao A0.length cap] 26) := ⟨_, rfl⟩
  have X1 : Hid (Bx w2 w.heap.size (.slice ao A0.length cap)) := by rw [hw]; exact Bx.new _ _ _
  have B1 : Hid (Below w.heap.size w w2) := by rw [hw]; exact new1 _ _
  have R1 : Hid (Ls w2 (.slice ao A0.length cap) A0) := R0.out.below B1.out
  have c1 := X1.out.cell
  clear R0
  go_enter Try.func37, Try.ntmps37
  go_wp2_with fail
  rw [← hw]
  clear hw
  refine (sover_any X1.out.cell R1.out a1).mono ?_
  rintro e w3 ⟨rfl, hw3⟩
  rw [hw3]
  clear hw3
  cases hv : over A0 a1 with
  | false =>
    have HZ : Hid (R A0 a1 = [] ∧ ok A0 a1 = false) := ⟨by unfold R; rw [if_neg (by rw [hv]; simp)], by unfold ok; rw [hv]; rfl⟩
    clear hv
    go_wp2_with fail
    go_ret2
    exact ⟨_, by rw [HZ.out.2]; rfl, by rw [HZ.out.1]; exact (own_nil _ 0 _).ls (Nat.le_refl _), B1.out⟩
  | true =>
  have HV : Hid (over A0 a1 = true) := hv
  have HP : Hid (isP a1 = true) := (over_val hv).1
  have GA : Hid (Gd A0 a1) := Gd.of_over hv
  clear hv
  go_wp2_with fail
  refine (szero_any R1.out).mono ?_
  rintro e w3 ⟨rfl, hw3⟩
  rw [hw3]
  clear hw3
  cases hz : decide (A0 = [0]) with
  | true =>
    have HZ : Hid (R A0 a1 = [] ∧ ok A0 a1 = false) := ⟨by unfold R; rw [if_neg (by rw [hz]; simp)], by unfold ok; rw [hz]; simp⟩
    clear hz
    go_wp2_with fail
    go_ret2
    exact ⟨_, by rw [HZ.out.2]; rfl, by rw [HZ.out.1]; exact (own_nil _ 0 _).ls (Nat.le_refl _), B1.out⟩
  | false =>
  have HZ : Hid (R A0 a1 = rts A0 a1 a1.toNat ∧ ok A0 a1 = true) := ⟨by unfold R; rw [if_pos ⟨HV.out, hz⟩], by unfold ok; rw [hz, HV.out]; rfl⟩
  have hp2 := isP_le HP.out
  have hpb : (a1 == 0) = false := by rw [beq_eq_false_iff_ne]; omega
  have start : Hid ((w2.alloc (.cells #[] 2)).ownsRow w2.heap.size 2 1 (.slice (some ⟨w2.heap.size, 0, none⟩) (rts A0 a1 0).length 0) (rts A0 a1 0).length ((rts A0 a1 0).map (Value.int .i64))) :=
    ⟨rfl, .inr ⟨w2.heap.size, 0, #[], rfl, Nat.le_refl _, heap_alloc_new w2 _, by simp [rts], by decide, rfl, rfl⟩⟩
  have startB : Hid (Below w2.heap.size w2 (w2.alloc (.cells #[] 2))) := new1 _ _
  have LX : Hid (w.heap.size < w2.heap.size) := X1.out.lt
  obtain ⟨_, _, hcc⟩ := Rd.use R1.out
  obtain ⟨b, off, rfl, hbw, hcell⟩ := hcc (by have := GA.out.1.1; omega)
  have HC : Hid (∀ (k : Nat) (z : Int), A0[k]? = some z → w2.cell? ⟨b, off + k, none⟩ = some (.int .i64 z)) := hcell
  have HBw : Hid (b < w2.heap.size) := hbw
  obtain ⟨n0, hn0⟩ : ∃ n, n = A0.length := ⟨_, rfl⟩
  have HN0 : Hid (n0 = A0.length ∧ 1 ≤ n0 ∧ n0 ≤ 17) := ⟨hn0, by rw [hn0]; exact GA.out.1.1, by rw [hn0]; exact GA.out.2.1⟩
  rw [← hn0] at X1 R1 c1 ⊢
  clear hz c1 hcc hcell hbw hn0
  go_wp2_with fail
  go_loopw [6, 7] (fun o t wr => ∃ (x g cp : Nat), (x : Int) ≤ a1 ∧ o = .slice (some ⟨g, 0, none⟩) (rts A0 a1 x).length cp ∧ t = .int .i64 (x : Int) ∧ Hid (w2.heap.size ≤ g) ∧ Hid (wr.ownsRow w2.heap.size 2 1 (.slice (some ⟨g, 0, none⟩) (rts A0 a1 x).length cp) (rts A0 a1 x).length ((rts A0 a1 x).map (Value.int .i64))) ∧ Hid (Below w2.heap.size w2 wr)) (fun _ t _ => (a1 - intOf t).toNat)
  case atStart => exact ⟨0, _, _, by omega, rfl, rfl, Nat.le_refl _, start, startB⟩
  case round =>
    obtain ⟨x, g, cp, hk, rfl, rfl, hg, ho, hb⟩ := hrel
    clear start startB
    have XB : Hid (Bx wr w.heap.size (.slice (some ⟨b, off, none⟩) n0 cap)) := X1.out.below hb.out LX.out
    have cX := XB.out.cell
    have HX0 : Hid (0 ≤ (x : Int) ∧ (x : Int) ≤ 13) := ⟨by omega, by omega⟩
    by_cases hlt : (x : Int) < a1
    · obtain ⟨wq, hwq⟩ : ∃ q, q = wr := ⟨_, rfl⟩
      have HCW : Hid (∀ (k : Nat) (z : Int), A0[k]? = some z → wr.cell? ⟨b, off + k, none⟩ = some (.int .i64 z)) := fun k z hz => (hb.out.cell (p := ⟨b, off + k, none⟩) HBw.out).trans (HC.out k z hz)
      rw [← hwq] at ho hb XB cX HCW ⊢
      clear hwq
      have hn1 : 1 ≤ n0 := HN0.out.2.1
      have hn17 : n0 ≤ 17 := HN0.out.2.2
      go_wp2_with fail
      go_loop [8, 9] (fun s t => ∃ (k : Nat), k ≤ n0 ∧ s = .int .i64 (hm A0 (x : Int) a1 k) ∧ t = .int .i64 ((n0 : Int) - 1 - (k : Int))) (fun _ t => (intOf t + 1).toNat)
      case atStart => exact ⟨0, by omega, rfl, by first | rfl | (go_num; done) | (congr 1; omega)⟩
      case round =>
        obtain ⟨k, hkk, rfl, rfl⟩ := hrel
        have hs := hm_bd (p := a1) (by omega) GA.out.1.2 (x := (x : Int)) (by omega) k
        by_cases hkl : k < n0
        · have e1 : wq.cell? ⟨b, off + (n0 - 1 - k), none⟩ = some (.int .i64 (at' A0 (n0 - 1 - k))) := HCW.out _ _ (at_some A0 _ (by have := HN0.out; omega))
          have ha := GA.out.1.2.at (by omega) (by omega) (n0 - 1 - k)
          have HST : Hid (hm A0 (x : Int) a1 (k + 1) = Int.tmod (hm A0 (x : Int) a1 k * (x : Int) + at' A0 (n0 - 1 - k)) a1) := by show _ = _; rw [hm_succ, HN0.out.1]
          obtain ⟨s, hse⟩ : ∃ s, s = hm A0 (x : Int) a1 k := ⟨_, rfl⟩
          obtain ⟨a, hae⟩ : ∃ a, a = at' A0 (n0 - 1 - k) := ⟨_, rfl⟩
          rw [← hse] at hs HST ⊢
          rw [← hae] at ha HST e1
          have hm1 := mul_ab (A := 13) (B := 13) (a := s) (b := (x : Int)) (by omega) (by omega)
          obtain ⟨y, hy⟩ : ∃ y, y = s * (x : Int) := ⟨_, rfl⟩
          rw [← hy] at hm1 HST
          have htm := tm_range (y + a) (p := a1) (by omega)
          have hy0 : 0 ≤ y := by rw [hy]; exact Int.mul_nonneg hs.1 (by omega)
          obtain ⟨u, hu⟩ : ∃ u, u = y + a := ⟨_, rfl⟩
          rw [← hu] at HST htm
          obtain ⟨t, hte⟩ : ∃ t, t = Int.tmod u a1 := ⟨_, rfl⟩
          rw [← hte] at HST htm
          have v1 : IntKind.i64.wrap (s * (x : Int)) = y := by rw [← hy]; exact IntWalk.i64_in _ (by omega)
          have v1' : wrap64 (s * (x : Int)) = y := by rw [← hy]; exact IntWalk.wrap64_in _ (by omega)
          have v2 : IntKind.i64.wrap (y + a) = u := by rw [← hu]; exact IntWalk.i64_in _ (by omega)
          have v2' : wrap64 (y + a) = u := by rw [← hu]; exact IntWalk.wrap64_in _ (by omega)
          have v3 : IntKind.i64.wrap (Int.tmod u a1) = t := by rw [← hte]; exact IntWalk.i64_in _ (by omega)
          have v3' : wrap64 (Int.tmod u a1) = t := by rw [← hte]; exact IntWalk.wrap64_in _ (by omega)
          have v3u : Int.tmod u a1 = t := hte.symm
          have d1 : ((n0 : Int) - 1 - (k : Int)).toNat = n0 - 1 - k := by omega
          have d2 : (0 : Int) ≤ (n0 : Int) - 1 - (k : Int) := by omega
          have d3 : (n0 : Int) - 1 - (k : Int) < (n0 : Int) := by omega
          clear hse hae hm1 hy htm hu hte ha hs hy0
          go_wp2_with fail
          go_round
          case rel => exact ⟨k + 1, by omega, by rw [HST.out], by first | rfl | (go_num; done) | (congr 1; omega)⟩
          case measure => simp [intOf]; omega
        · obtain rfl : k = n0 := by omega
          have HSR : Hid (hm A0 (x : Int) a1 k = hm A0 (x : Int) a1 A0.length) := by show _ = _; rw [← HN0.out.1]
          obtain ⟨s, hse⟩ : ∃ s, s = hm A0 (x : Int) a1 k := ⟨_, rfl⟩
          rw [← hse] at hs HSR ⊢
          have HS2 : Hid (w2.heap.size ≤ wq.heap.size) := hb.out.size
          have hl17 := rts_len A0 a1 x
          clear hse hs
          by_cases hr : s = 0
          · have HRS : Hid (rts A0 a1 (x + 1) = rts A0 a1 x ++ [(x : Int)]) := rts_yes (by rw [← HSR.out]; exact hr)
            have hzz : Hid ((rts A0 a1 x).map (Value.int .i64) ++ [Value.int .i64 (x : Int)] = (rts A0 a1 (x + 1)).map (Value.int .i64)) := by show _ = _; rw [HRS.out]; simp
            have hzl : Hid ((rts A0 a1 x).length + 1 = (rts A0 a1 (x + 1)).length) := by show _ = _; rw [HRS.out]; simp
            subst hr
            obtain ⟨n, hn⟩ : ∃ n, n = (rts A0 a1 x).length := ⟨_, rfl⟩
            rw [← hn] at ho hzl hl17 ⊢
            clear hn
            go_wp2_with (first | (at_builtin; refine wpList_append_own _ rfl (.tmp 45) (.tmp 47) 22 rfl w2.heap.size 2 i0 (.int .i64 0) 1 8 Try.underlying22 hi hz0 hz1 hz2 rfl (by decide) _ n _ rfl (ho.out.alloc _) ⟨wq.heap.size, 0, none⟩ 1 1 [.int .i64 _] rfl rfl (cell_one_new wq _ _) (by intro u hu; rw [List.mem_singleton] at hu; subst hu; rfl) (by unfold maxLen; omega) (by omega) (by have := HS2.out; simp; omega) ?_; intro v' w3 hown' hgrow _))
            obtain ⟨g', cap', rfl⟩ := own_shape hown' (by omega)
            rw [hzz.out] at hown'
            have HG : Hid (w2.heap.size ≤ g') := by
              rcases hown'.2 with ⟨h', _⟩ | ⟨g2, cap2, cur, h', hB, _⟩
              · simp at h'
              · simp only [Value.slice.injEq, Option.some.injEq, Addr.mk.injEq, and_true] at h'
                obtain ⟨rfl, _⟩ := h'
                exact hB
            rw [hzl.out] at hown' ⊢
            have HO : Hid (w3.ownsRow w2.heap.size 2 1 (.slice (some ⟨g', 0, none⟩) (rts A0 a1 (x + 1)).length cap') (rts A0 a1 (x + 1)).length ((rts A0 a1 (x + 1)).map (Value.int .i64))) := hown'
            have HB : Hid (Below w2.heap.size w2 w3) := (hb.out.alloc HS2.out _).grown hgrow (by have := HS2.out; simp; omega) (by intro j hj; have hj' : some g = some j := hj; injection hj' with hj'; have := hg.out; omega)
            clear hown' hgrow
            go_roundw
            case rel => exact ⟨x + 1, g', cap', by omega, rfl, by go_num, HG, HO, HB⟩
            case measure => simp [RowKit.intOf]; omega
          · have HRS : Hid (rts A0 a1 (x + 1) = rts A0 a1 x) := rts_no (fun h => hr (by rw [HSR.out]; exact h))
            have hrb : (s == 0) = false := by rw [beq_eq_false_iff_ne]; exact hr
            clear hr
            rw [← HRS.out] at ho ⊢
            go_wp2_with fail
            go_roundw
            case rel => exact ⟨x + 1, g, cp, by omega, rfl, by go_num, hg, ho, hb⟩
            case measure => simp [RowKit.intOf]; omega
    · have hx : x = a1.toNat := by omega
      have HO : Hid (Ls wr (.slice (some ⟨g, 0, none⟩) (rts A0 a1 x).length cp) (R A0 a1)) := by
        show Ls _ _ _
        rw [HZ.out.1, ← hx]
        exact (Own.of_row ho.out (by have := rts_len A0 a1 x; omega) (Nat.le_refl _)).ls (Nat.le_refl _)
      have HB : Hid (Below w.heap.size w wr) := B1.out.trans (hb.out.mono (by have := LX.out; omega))
      clear ho hb hx
      generalize (rts A0 a1 x).length = n at *
      go_wp2_with fail
      go_ret2
      exact ⟨_, by rw [HZ.out.2]; rfl, HO.out, HB.out⟩
end Go.Proofs.Ythldlhpdnocmcaa.fRootsOver
