/- Greatest common ones over primes; terms with the last one 1: both sides. -/
import Derived.Test.YtfhcfeafohcjpaaOvS
namespace Go.Proofs.Ytfhcfeafohcjpaa.wh
open Go.RowKit Go.Pl

theorem Bx.new4 (w : World) (u : Value) (t : TypeId) (o o2 o3 : Obj) : Bx ((((w.alloc o).alloc o2).alloc o3).alloc (.cells #[u] t)) (w.heap.size + 1 + 1 + 1) u := by
  have := Bx.new (((w.alloc o).alloc o2).alloc o3) u t
  simpa using this
theorem zd_eq {L : List Int} (hc : L.length = 1 ∨ L[L.length - 1]? ≠ some 0) (h1 : 1 ≤ L.length) : decide (at' L (L.length - 1) = 0) = decide (L = [0]) := by
  by_cases h : L = [0]
  · rw [decide_eq_true h, h]; rfl
  · rw [decide_eq_false h, decide_eq_false (clean_last hc h h1)]

set_option maxRecDepth 100000 in
theorem co1_any {va vb : Value} {A B : List Int} {p : Int} {bp : Nat} {w : World} (hbp : w.cell? ⟨bp, 0, none⟩ = some (.int .i64 p)) (hp : isP p = true) (ha : Ls w va A) (hb : Ls w vb B) (hA : Gd A p) (hB : Gd B p) (h0 : B ≠ [0]) :
    Calls Try.prog 87 #[va, vb, .pointer (some ⟨bp, 0, none⟩)] w fun e w' => ∃ vr, e = .returned (.tuple #[vr, .bool true]) ∧ Own w' w.heap.size w'.heap.size vr (dr A B p) ∧ Below w.heap.size w w' := by
  have HC := irest_any ha hb hp hA.1 (by have := hA.2.1; omega) hB.1 hB.2.1 (clean_last hB.2.2 h0 hB.1.1)
  obtain ⟨ao, cap, rfl⟩ := ha.shape
  obtain ⟨bo, cap1, rfl⟩ := hb.shape
  generalize A.length = n at *
  generalize B.length = m at *
  clear ha hb hp hA hB h0
  go_enter Try.func87, Try.ntmps87
  go_wp2_with fail
  refine HC.mono ?_
  rintro e w1 ⟨vr, rfl, orr, b⟩
  have O : Hid (Own w1 w.heap.size w1.heap.size vr (dr A B p)) := orr
  have BB : Hid (Below w.heap.size w w1) := b
  obtain ⟨rao, rcap, rfl⟩ := O.out.shape
  generalize hlr : (dr A B p).length = lr at *
  clear orr b HC hlr
  go_wp2_with fail
  go_ret2
  exact ⟨_, rfl, O.out, BB.out⟩

set_option maxRecDepth 100000 in
set_option maxHeartbeats 3200000 in
theorem gco_any {va vb : Value} {A B : List Int} {p : Int} {bp : Nat} {w : World} (hbp : w.cell? ⟨bp, 0, none⟩ = some (.int .i64 p)) (hbl : bp < w.heap.size) (hp : isP p = true) (ha : Ls w va A) (hb : Ls w vb B) (hA : Gd A p) (hB : Gd B p) :
    Calls Try.prog 86 #[va, vb, .func (.func 78) #[] #[], .func (.func 87) #[] #[.pointer (some ⟨bp, 0, none⟩)]] w
      fun e w' => ∃ v, e = .returned (.tuple #[v, .bool true]) ∧ Ls w' v (cgo p (mu B) A B) ∧ Below w.heap.size w w' := by
  have HLA : Hid (Ls w va A) := ha
  have HLB : Hid (Ls w vb B) := hb
  have HG : Hid (Gd A p ∧ Gd B p) := ⟨hA, hB⟩
  have HPP : Hid (isP p = true) := hp
  have HBP : Hid (∀ W, Below w.heap.size w W → W.cell? ⟨bp, 0, none⟩ = some (.int .i64 p)) := fun W hW => (hW.cell (p := ⟨bp, 0, none⟩) hbl).trans hbp
  obtain ⟨C, hC⟩ : ∃ C, C = cgo p (mu B) A B := ⟨_, rfl⟩
  have HC0 : Hid (cgo p (mu B) A B = C) := hC.symm
  rw [← hC]
  obtain ⟨ao, cap, rfl⟩ := ha.shape
  obtain ⟨bo, cap1, rfl⟩ := hb.shape
  clear hC ha hb hA hB hp hbp hbl
  go_enter Try.func86, Try.ntmps86
  go_wp2_with fail
  go_loopg [0, 1] (mu B) (fun k x y wr => ∃ (X Y : List Int) (xo yo : Option Addr) (xc yc : Nat), x = .slice xo X.length xc ∧ y = .slice yo Y.length yc ∧ mu Y ≤ k ∧ Hid (cgo p k X Y = C) ∧ Hid (Gd X p ∧ Gd Y p) ∧ Hid (Ls wr (.slice xo X.length xc) X) ∧ Hid (Ls wr (.slice yo Y.length yc) Y) ∧ Hid (Below w.heap.size w wr))
  case atStart => exact ⟨A, B, ao, bo, cap, cap1, rfl, rfl, Nat.le_refl _, HC0, HG, HLA, HLB, Below.refl _ _⟩
  case round =>
    obtain ⟨X, Y, xo, yo, xc, yc, rfl, rfl, hk, hcg, hgd, hx, hy, hb⟩ := hrel
    have HNE : Hid (Y ≠ []) := ne_of_len hgd.out.2.1.1
    by_cases hY : Y = [0]
    · have HZ : Hid (decide (at' Y (Y.length - 1) = 0) = true) := by show _ = true; rw [hY]; rfl
      have HR : Hid (X = C) := by
        have := hcg.out
        rw [hY, cgo_stop] at this
        exact this
      clear hY hcg
      go_wp2_with fail
      refine (izero_any hy.out HNE.out).mono ?_
      rintro e w1 ⟨rfl, hw1⟩
      rw [hw1, HZ.out]
      clear hw1
      go_wp2_with fail
      go_ret2
      exact ⟨_, rfl, by rw [← HR.out]; exact hx.out, hb.out⟩
    · have HZ : Hid (decide (at' Y (Y.length - 1) = 0) = false) := by
        show _ = false
        rw [zd_eq hgd.out.2.2.2 hgd.out.2.1.1]
        exact decide_eq_false hY
      have HY : Hid (Y ≠ [0]) := hY
      have hm := mu_step HPP.out hgd.out.1.1 hgd.out.2.1 hgd.out.2.2.2 hY
      obtain ⟨j, rfl⟩ : ∃ j, gk = j + 1 := ⟨gk - 1, by omega⟩
      have HCS : Hid (cgo p j Y (dr X Y p) = C) := by show _ = C; rw [← hcg.out, cgo_step hY]
      have HGN : Hid (Gd Y p ∧ Gd (dr X Y p) p) := ⟨hgd.out.2, Gd.rest HPP.out hgd.out.1 hgd.out.2 hY⟩
      have hmj : mu (dr X Y p) ≤ j := by omega
      have hcell := HBP.out wr hb.out
      clear hY hcg hm
      go_wp2_with fail
      refine (izero_any hy.out HNE.out).mono ?_
      rintro e w1 ⟨rfl, hw1⟩
      rw [hw1, HZ.out]
      clear hw1
      go_wp2_with fail
      refine (co1_any hcell HPP.out hx.out hy.out hgd.out.1 hgd.out.2 HY.out).mono ?_
      rintro e w2 ⟨vr, rfl, o, b⟩
      obtain ⟨ra, rc, rfl⟩ := o.shape
      have HO : Hid (Ls w2 (.slice ra (dr X Y p).length rc) (dr X Y p)) := o.ls (Nat.le_refl _)
      have HYL : Hid (Ls w2 (.slice yo Y.length yc) Y) := hy.out.below b
      have HB : Hid (Below w.heap.size w w2) := hb.out.trans (b.mono hb.out.size)
      clear o b hcell hx hy hb hgd
      go_wp2_with fail
      go_roundg j
      case rel => exact ⟨Y, dr X Y p, yo, ra, yc, rc, rfl, rfl, hmj, HCS, HGN, HYL, HO, HB⟩
      case measure => omega

set_option maxRecDepth 100000 in
theorem imon_any {v : Value} {L : List Int} {p : Int} {w : World} (h : Ls w v L) (hp : isP p = true) (hL : Gd L p) :
    Calls Try.prog 47 #[v, .int .i64 p] w fun e w' => ∃ v', e = .returned v' ∧ Own w' w.heap.size w'.heap.size v' (mon L p) ∧ Below w.heap.size w w' := by
  have HLL : Hid (Ls w v L) := h
  have HNE : Hid (L ≠ []) := ne_of_len hL.1.1
  have HGD : Hid (Gd L p ∧ isP p = true) := ⟨hL, hp⟩
  obtain ⟨ao, cap, rfl⟩ := h.shape
  have hp2 := isP_le hp
  by_cases h0 : L = [0]
  · have HZ : Hid (decide (at' L (L.length - 1) = 0) = true) := by show _ = true; rw [h0]; rfl
    have HO : Hid (Own (w.alloc (.cells #[.int .i64 0] 2)) w.heap.size (w.alloc (.cells #[.int .i64 0] 2)).heap.size (.slice (some ⟨w.heap.size, 0, none⟩) 1 1) (mon L p)) := by
      have HR := World.ownsRow_lit (base := w.heap.size) (e := 2) (size := 1) w #[.int .i64 0] 1 (Nat.le_refl _) (by decide) rfl
      have e : mon L p = [0] := if_pos h0
      rw [e]
      exact Own.of_row HR (by decide) (Nat.le_refl _)
    clear h h0 hL hp hp2
    go_enter Try.func47, Try.ntmps47
    go_wp2_with fail
    refine (izero_any HLL.out HNE.out).mono ?_
    rintro e w1 ⟨rfl, hw1⟩
    rw [hw1, HZ.out]
    clear hw1
    go_wp2_with fail
    go_ret
    exact ⟨_, rfl, HO.out, new1 _ _⟩
  · have HZ : Hid (decide (at' L (L.length - 1) = 0) = false) := by
      show _ = false
      rw [zd_eq hL.2.2 hL.1.1]
      exact decide_eq_false h0
    have hl := clean_last hL.2.2 h0 hL.1.1
    have hr := hL.1.2.at (by omega) (by omega) (L.length - 1)
    have HLast : Hid (L[L.length - 1]? = some (at' L (L.length - 1))) := at_some L _ (by have := hL.1.1; omega)
    have HX : Hid (0 < at' L (L.length - 1) ∧ at' L (L.length - 1) < p) := by show _ ∧ _; omega
    have HIV : Hid (1 ≤ inv (at' L (L.length - 1)) p ∧ inv (at' L (L.length - 1)) p ≤ 12) := inv_bd hp (by omega)
    have HM : Hid (trim (mods (prod L [inv (at' L (L.length - 1)) p]) p) = mon L p) := (mon_trim hp hL.1 hL.2.2 h0).1
    obtain ⟨last, hlast⟩ : ∃ l, l = at' L (L.length - 1) := ⟨_, rfl⟩
    rw [← hlast] at HLast HX HIV HM
    obtain ⟨iv, hiv⟩ : ∃ i, i = inv last p := ⟨_, rfl⟩
    have HII : Hid (iv = inv last p) := hiv
    rw [← hiv] at HIV HM
    have HO : Hid (Own (w.alloc (.cells #[.int .i64 iv] 2)) w.heap.size (w.alloc (.cells #[.int .i64 iv] 2)).heap.size (.slice (some ⟨w.heap.size, 0, none⟩) 1 1) [iv]) :=
      Own.of_row (World.ownsRow_lit (base := w.heap.size) (e := 2) (size := 1) w #[.int .i64 iv] 1 (Nat.le_refl _) (by decide) rfl) (by simp) (Nat.le_refl _)
    have HBD : Hid (∀ i k, -1000000000000 ≤ at' L i * at' [iv] k ∧ at' L i * at' [iv] k ≤ 1000000000000) := fun i k => by
      have h1 := hL.1.2.at (by omega) (by omega) i
      have h2 : 0 ≤ at' [iv] k ∧ at' [iv] k ≤ 12 := by
        have := HIV.out
        by_cases hk : k = 0
        · rw [hk]; show 0 ≤ iv ∧ iv ≤ 12; omega
        · rw [at_out (by simp; omega)]; omega
      have := mul_le (A := 13) (B := 13) (a := at' L i) (b := at' [iv] k) (by omega) (by omega)
      omega
    have HLN : Hid (1 ≤ L.length ∧ L.length ≤ 40) := ⟨hL.1.1, by have := hL.2.1; omega⟩
    have HP1 : Hid (1 ≤ p ∧ p ≤ 1000000) := ⟨by omega, by omega⟩
    clear h h0 hL hp hp2 hl hr hlast hiv
    go_enter Try.func47, Try.ntmps47
    go_wp2_with fail
    refine (izero_any HLL.out HNE.out).mono ?_
    rintro e w1 ⟨rfl, hw1⟩
    rw [hw1, HZ.out]
    clear hw1
    go_wp2_with fail
    refine (last_any HLL.out HLast.out).mono ?_
    rintro e w1 ⟨rfl, hw1⟩
    rw [hw1]
    clear hw1
    go_wp2_with fail
    refine (iinv_any last p HGD.out.2 HX.out _).mono ?_
    rintro e w1 ⟨rfl, hw1⟩
    rw [hw1, ← HII.out]
    clear hw1
    go_wp2_with fail
    refine (pover_any (HLL.out.below (new1 _ _)) (HO.out.ls (Nat.le_refl _)) HLN.out (by simp) HBD.out p HP1.out).mono ?_
    rintro e w2 ⟨v2, rfl, o, b⟩
    have hbs := b.size
    simp only [World.size_alloc] at hbs
    have O2 : Hid (Own w2 w.heap.size w2.heap.size v2 (mon L p)) := by
      show Own _ _ _ _ _
      rw [← HM.out]
      exact o.wide (by simp) (Nat.le_refl _)
    have B2 : Hid (Below w.heap.size w w2) := (new1 w _).trans (b.mono (by simp))
    clear o b
    go_wp2_with fail
    go_ret
    exact ⟨_, rfl, O2.out, B2.out⟩

set_option maxRecDepth 100000 in
set_option maxHeartbeats 3200000 in
/-- the model's may be the list itself -/
theorem smon_any {v : Value} {L : List Int} {p : Int} {w : World} (h : Ls w v L) (hp : isP p = true) (hL : Gd L p) :
    Calls Try.prog 56 #[v, .int .i64 p] w fun e w' => ∃ v', e = .returned v' ∧ Ls w' v' (mon L p) ∧ Below w.heap.size w w' := by
  obtain ⟨i0, hi, hz0, hz1, hz2⟩ := info_parts info_i
  have HLL : Hid (Ls w v L) := h
  have hp2 := isP_le hp
  by_cases h0 : L = [0]
  · have HZ : Hid (decide (L = [0]) = true) := decide_eq_true h0
    have HE : Hid (mon L p = L) := by show mon L p = L; rw [show mon L p = [0] from if_pos h0, h0]
    obtain ⟨ao, cap, rfl⟩ := h.shape
    obtain ⟨n, hnn⟩ : ∃ n, n = L.length := ⟨_, rfl⟩
    rw [← hnn] at HLL ⊢
    clear h h0 hL hp hp2 hnn hi hz0 hz1 hz2
    go_enter Try.func56, Try.ntmps56
    go_wp2_with fail
    refine (szero_any HLL.out).mono ?_
    rintro e w1 ⟨rfl, hw1⟩
    rw [hw1, HZ.out]
    clear hw1
    go_wp2_with fail
    go_ret
    exact ⟨_, rfl, by rw [HE.out]; exact HLL.out, Below.refl _ _⟩
  obtain ⟨ao, cap, rfl, hn, hcap, hc⟩ := h
  have hp0 := hL.1.1
  have hL17 := hL.2.1
  obtain ⟨b, off, rfl, hbw, hcell⟩ := hc (by omega)
  have HC : Hid (∀ (k : Nat) (z : Int), L[k]? = some z → w.cell? ⟨b, off + k, none⟩ = some (.int .i64 z)) := hcell
  have HBw : Hid (b < w.heap.size) := hbw
  have HZ : Hid (decide (L = [0]) = false) := decide_eq_false h0
  have hl := clean_last hL.2.2 h0 hL.1.1
  have hr := hL.1.2.at (by omega) (by omega) (L.length - 1)
  have HX : Hid (isP p = true ∧ 0 < at' L (L.length - 1) ∧ at' L (L.length - 1) < p) := ⟨hp, by omega, by omega⟩
  have HIV : Hid (1 ≤ inv (at' L (L.length - 1)) p ∧ inv (at' L (L.length - 1)) p ≤ 12) := inv_bd hp (by omega)
  have HE : Hid (mon L p = scl L (inv (at' L (L.length - 1)) p) p) := if_neg h0
  have eL : w.cell? ⟨b, off + (L.length - 1), none⟩ = some (.int .i64 (at' L (L.length - 1))) := hcell _ _ (at_some L _ (by omega))
  obtain ⟨last, hlast⟩ : ∃ l, l = at' L (L.length - 1) := ⟨_, rfl⟩
  rw [← hlast] at HX HIV HE eL
  obtain ⟨iv, hiv⟩ : ∃ i, i = inv last p := ⟨_, rfl⟩
  have HII : Hid (iv = inv last p) := hiv
  rw [← hiv] at HIV HE
  have HRG : Hid (inR 0 (p - 1) L) := hL.1.2
  obtain ⟨n, hnn⟩ : ∃ n, n = L.length := ⟨_, rfl⟩
  have HML : Hid ((scl L iv p).length = n) := by show _ = _; rw [scl_len, hnn]
  have HN : Hid (n = L.length) := hnn
  rw [← hnn] at hn hcap HLL hp0 hL17 eL ⊢
  have hpb : (p == 0) = false := by rw [beq_eq_false_iff_ne]; omega
  have hp3 : 1 ≤ p ∧ p ≤ 13 := by omega
  have start : Hid ((w.alloc (.cells #[] 2)).ownsRow w.heap.size 2 1 (.slice (some ⟨w.heap.size, 0, none⟩) 0 0) 0 (((scl L iv p).take 0).map (Value.int .i64))) :=
    ⟨rfl, .inr ⟨w.heap.size, 0, #[], rfl, Nat.le_refl _, heap_alloc_new w _, by simp, by decide, rfl, rfl⟩⟩
  have startB : Hid (Below w.heap.size w (w.alloc (.cells #[] 2))) := new1 _ _
  clear hnn hc hcell hbw h0 hL hl hr hlast hiv hp
  go_enter Try.func56, Try.ntmps56
  go_wp2_with fail
  refine (szero_any HLL.out).mono ?_
  rintro e w1 ⟨rfl, hw1⟩
  rw [hw1, HZ.out]
  clear hw1
  go_wp2_with fail
  refine (sinv_any last p HX.out.1 HX.out.2 _).mono ?_
  rintro e w1 ⟨rfl, hw1⟩
  rw [hw1, ← HII.out]
  clear hw1 eL
  go_wp2_with fail
  go_loopw [6, 22] (fun o t wr => ∃ (k g cp : Nat), k ≤ n ∧ o = .slice (some ⟨g, 0, none⟩) k cp ∧ t = .int .i64 k ∧ Hid (w.heap.size ≤ g) ∧ Hid (wr.ownsRow w.heap.size 2 1 (.slice (some ⟨g, 0, none⟩) k cp) k (((scl L iv p).take k).map (Value.int .i64))) ∧ Hid (Below w.heap.size w wr)) (fun _ t _ => n - (intOf t).toNat)
  case atStart => exact ⟨0, _, _, by omega, rfl, rfl, Nat.le_refl _, start, startB⟩
  case round =>
    obtain ⟨k, g, cp, hk, rfl, rfl, hg, ho, hb⟩ := hrel
    clear start startB
    by_cases hlt : k < n
    · obtain ⟨z, hz⟩ := get_some L k (by have := HN.out; omega)
      have e1 : wr.cell? ⟨b, off + k, none⟩ = some (.int .i64 z) := (hb.out.cell (p := ⟨b, off + k, none⟩) HBw.out).trans (HC.out k z hz)
      have hzz : Hid (((scl L iv p).take k).map (Value.int .i64) ++ [Value.int .i64 (Int.tmod (z * iv) p)] = ((scl L iv p).take (k + 1)).map (Value.int .i64)) := by
        show _ = _
        rw [List.take_add_one, scl_get hz]; simp
      have HS : Hid (w.heap.size ≤ wr.heap.size) := hb.out.size
      have hzr := HRG.out.get hz
      have hzi := mul_ab (A := 13) (B := 13) (a := z) (b := iv) (by omega) (by have := HIV.out; omega)
      have htm := tm_range (z * iv) (p := p) (by omega)
      obtain ⟨y, hy⟩ : ∃ y, y = z * iv := ⟨_, rfl⟩
      obtain ⟨t, hte⟩ : ∃ t, t = Int.tmod y p := ⟨_, rfl⟩
      rw [← hy, ← hte] at hzz htm
      rw [← hy] at hzi
      have w1x : IntKind.i64.wrap (z * iv) = y := by rw [← hy]; exact IntWalk.i64_in _ (by omega)
      have w1x' : wrap64 (z * iv) = y := by rw [← hy]; exact IntWalk.wrap64_in _ (by omega)
      have w1t : IntKind.i64.wrap (Int.tmod y p) = t := by rw [← hte]; exact IntWalk.i64_in _ (by omega)
      have w1t' : wrap64 (Int.tmod y p) = t := by rw [← hte]; exact IntWalk.wrap64_in _ (by omega)
      have w1u : Int.tmod y p = t := hte.symm
      clear hz hzr hzi htm hy hte
      go_wp2_with (first | (at_builtin; refine wpList_append_own _ rfl (.tmp 25) (.tmp 34) 22 rfl w.heap.size 2 i0 (.int .i64 0) 1 8 Try.underlying22 hi hz0 hz1 hz2 rfl (by decide) _ k _ rfl (ho.out.alloc _) ⟨wr.heap.size, 0, none⟩ 1 1 [.int .i64 _] rfl rfl (cell_one_new wr _ _) (by intro u hu; rw [List.mem_singleton] at hu; subst hu; rfl) (by unfold maxLen; omega) (by omega) (by have := HS.out; simp; omega) ?_; intro v' w3 hown' hgrow _))
      obtain ⟨g', cap', rfl⟩ := own_shape hown' (by omega)
      rw [hzz.out] at hown'
      have HG : Hid (w.heap.size ≤ g') := by
        rcases hown'.2 with ⟨h', _⟩ | ⟨g2, cap2, cur, h', hB, _⟩
        · simp at h'
        · simp only [Value.slice.injEq, Option.some.injEq, Addr.mk.injEq, and_true] at h'
          obtain ⟨rfl, _⟩ := h'
          exact hB
      have HO : Hid (w3.ownsRow w.heap.size 2 1 (.slice (some ⟨g', 0, none⟩) (k + 1) cap') (k + 1) (((scl L iv p).take (k + 1)).map (Value.int .i64))) := hown'
      have HB : Hid (Below w.heap.size w w3) := (hb.out.alloc HS.out _).grown hgrow (by have := HS.out; simp; omega) (by intro j hj; have hj' : some g = some j := hj; injection hj' with hj'; have := hg.out; omega)
      clear hown' hgrow w1x w1x' w1t w1t' w1u
      go_roundw
      case rel => exact ⟨k + 1, g', cap', by omega, rfl, by go_num, HG, HO, HB⟩
      case measure => simp [RowKit.intOf]; omega
    · obtain rfl : k = n := by omega
      have ho' := ho.out
      rw [List.take_of_length_le (by have := HML.out; omega)] at ho'
      have HO : Hid (Ls wr (.slice (some ⟨g, 0, none⟩) k cp) (mon L p)) := by
        have h1 := HML.out
        have h2 : wr.ownsRow w.heap.size 2 1 (.slice (some ⟨g, 0, none⟩) k cp) (scl L iv p).length ((scl L iv p).map (Value.int .i64)) := by rw [h1]; exact ho'
        rw [HE.out]
        exact (Own.of_row h2 (by omega) (Nat.le_refl _)).ls (Nat.le_refl _)
      clear ho ho' hi hz0 hz1 hz2
      go_wp2_with fail
      go_ret
      exact ⟨_, rfl, HO.out, hb.out⟩

set_option maxRecDepth 100000 in
set_option maxHeartbeats 3200000 in
theorem sco_any {va vb : Value} {A B : List Int} {p : Int} {w : World} (hp : isP p = true) (ha : Ls w va A) (hb : Ls w vb B) (hA : Gd A p) (hB : Gd B p) :
    Calls Try.prog 29 #[va, vb, .int .i64 p] w
      fun e w' => ∃ v, e = .returned v ∧ Ls w' v (mon (cgo p (mu B) A B) p) ∧ Below w.heap.size w w' := by
  have HLA : Hid (Ls w va A) := ha
  have HLB : Hid (Ls w vb B) := hb
  have HG : Hid (Gd A p ∧ Gd B p) := ⟨hA, hB⟩
  have HPP : Hid (isP p = true) := hp
  obtain ⟨C, hC⟩ : ∃ C, C = cgo p (mu B) A B := ⟨_, rfl⟩
  have HC0 : Hid (cgo p (mu B) A B = C) := hC.symm
  rw [← hC]
  obtain ⟨ao, cap, rfl⟩ := ha.shape
  obtain ⟨bo, cap1, rfl⟩ := hb.shape
  clear hC ha hb hA hB hp
  go_enter Try.func29, Try.ntmps29
  go_wp2_with fail
  go_loopg [0, 1] (mu B) (fun k x y wr => ∃ (X Y : List Int) (xo yo : Option Addr) (xc yc : Nat), x = .slice xo X.length xc ∧ y = .slice yo Y.length yc ∧ mu Y ≤ k ∧ Hid (cgo p k X Y = C) ∧ Hid (Gd X p ∧ Gd Y p) ∧ Hid (Ls wr (.slice xo X.length xc) X) ∧ Hid (Ls wr (.slice yo Y.length yc) Y) ∧ Hid (Below w.heap.size w wr))
  case atStart => exact ⟨A, B, ao, bo, cap, cap1, rfl, rfl, Nat.le_refl _, HC0, HG, HLA, HLB, Below.refl _ _⟩
  case round =>
    obtain ⟨X, Y, xo, yo, xc, yc, rfl, rfl, hk, hcg, hgd, hx, hy, hb⟩ := hrel
    by_cases hY : Y = [0]
    · have HZ : Hid (decide (Y = [0]) = true) := decide_eq_true hY
      have HR : Hid (X = C) := by
        have := hcg.out
        rw [hY, cgo_stop] at this
        exact this
      clear hY hcg
      go_wp2_with fail
      refine (szero_any hy.out).mono ?_
      rintro e w1 ⟨rfl, hw1⟩
      rw [hw1, HZ.out]
      clear hw1
      go_wp2_with fail
      refine (smon_any hx.out HPP.out hgd.out.1).mono ?_
      rintro e w2 ⟨v2, rfl, o, b⟩
      have O : Hid (Ls w2 v2 (mon C p)) := by rw [← HR.out]; exact o
      have HB : Hid (Below w.heap.size w w2) := hb.out.trans (b.mono hb.out.size)
      clear o b
      go_wp2_with fail
      go_ret
      exact ⟨_, rfl, O.out, HB.out⟩
    · have HZ : Hid (decide (Y = [0]) = false) := decide_eq_false hY
      have HY : Hid (Y ≠ [0]) := hY
      have hm := mu_step HPP.out hgd.out.1.1 hgd.out.2.1 hgd.out.2.2.2 hY
      obtain ⟨j, rfl⟩ : ∃ j, gk = j + 1 := ⟨gk - 1, by omega⟩
      have HCS : Hid (cgo p j Y (dr X Y p) = C) := by show _ = C; rw [← hcg.out, cgo_step hY]
      have HGN : Hid (Gd Y p ∧ Gd (dr X Y p) p) := ⟨hgd.out.2, Gd.rest HPP.out hgd.out.1 hgd.out.2 hY⟩
      have hmj : mu (dr X Y p) ≤ j := by omega
      clear hY hcg hm
      go_wp2_with fail
      refine (szero_any hy.out).mono ?_
      rintro e w1 ⟨rfl, hw1⟩
      rw [hw1, HZ.out]
      clear hw1
      go_wp2_with fail
      refine (sdiv_any hx.out hy.out HPP.out hgd.out.1.1 (by have := hgd.out.1.2.1; omega) hgd.out.2.1 hgd.out.2.2.1 (clean_last hgd.out.2.2.2 HY.out hgd.out.2.1.1)).mono ?_
      rintro e w2 ⟨vq, vr, rfl, oq, o, b⟩
      obtain ⟨ra, rc, rfl⟩ := o.shape
      obtain ⟨qa, qc, rfl⟩ := oq.shape
      have HO : Hid (Ls w2 (.slice ra (dr X Y p).length rc) (dr X Y p)) := o.ls (Nat.le_refl _)
      have HYL : Hid (Ls w2 (.slice yo Y.length yc) Y) := hy.out.below b
      have HB : Hid (Below w.heap.size w w2) := hb.out.trans (b.mono hb.out.size)
      generalize hlq : (dq X Y p).length = lq at *
      clear o oq b hx hy hb hgd hlq
      go_wp2_with fail
      go_roundg j
      case rel => exact ⟨Y, dr X Y p, yo, ra, yc, rc, rfl, rfl, hmj, HCS, HGN, HYL, HO, HB⟩
      case measure => omega
end Go.Proofs.Ytfhcfeafohcjpaa.wh
