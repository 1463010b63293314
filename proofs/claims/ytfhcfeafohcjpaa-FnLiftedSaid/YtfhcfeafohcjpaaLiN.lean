/- LiftPair: what the program answers. -/
import Derived.Test.YtfhcfeafohcjpaaLiC
namespace Go.Proofs.Ytfhcfeafohcjpaa.fLiftPair
open Go.RowKit Go.Pl Go.Proofs.Ytfhcfeafohcjpaa.wh

theorem bx5 (w : World) (u : Value) (t : TypeId) (o o2 o3 o4 : Obj) : Bx (((((w.alloc o).alloc o2).alloc o3).alloc o4).alloc (.cells #[u] t)) (w.heap.size + 1 + 1 + 1 + 1) u := by
  have := Bx.new ((((w.alloc o).alloc o2).alloc o3).alloc o4) u t
  simpa using this
theorem mis_get {P G H : List Int} {p : Int} {k : Nat} (h : k < (prod G H).length) : (mis P G H p)[k]? = some (Int.tdiv (at' P k - at' (prod G H) k) p) := by simp [mis, h]
theorem mis_len (P G H : List Int) (p : Int) : (mis P G H p).length = (prod G H).length := by simp [mis]
theorem val_at {L : List Int} (h : Val L) (k : Nat) : -1000000 ≤ at' L k ∧ at' L k ≤ 1000000 := by
  by_cases hk : k < L.length
  · exact h.2.2.1 _ (List.mem_of_getElem? (at_some L k hk))
  · rw [at_out (by omega)]; omega
theorem tdiv_bd {x p M : Int} (h : -M ≤ x ∧ x ≤ M) : -M ≤ Int.tdiv x p ∧ Int.tdiv x p ≤ M := by
  have h1 := Int.natAbs_tdiv x p
  have h2 : x.natAbs.div p.natAbs ≤ x.natAbs := Nat.div_le_self _ _
  rw [← h1] at h2
  generalize Int.tdiv x p = d at *
  omega

theorem sm_bd {f : Nat → Int} (h : ∀ i, 0 ≤ f i ∧ f i ≤ 169) : ∀ n : Nat, 0 ≤ sm f n ∧ sm f n ≤ 169 * (n : Int)
  | 0 => by rw [sm]; omega
  | n + 1 => by
    have h1 := sm_bd h n
    have h2 := h n
    rw [sm_succ]
    omega
theorem prod_bd {G H : List Int} {p : Int} (hp : 2 ≤ p ∧ p ≤ 13) (hG : Ov G p) (hH : Ov H p) (hn : G.length + H.length - 1 ≤ 9) (k : Nat) : -2000 ≤ at' (prod G H) k ∧ at' (prod G H) k ≤ 2000 := by
  by_cases hk : k < (prod G H).length
  · rw [prod_len] at hk
    rw [prod_cv hH.1]
    have := sm_bd (f := fun i => at' G i * at' H (k - i)) (fun i => by
      have h1 := hG.2.at (by omega) (by omega) i
      have h2 := hH.2.at (by omega) (by omega) (k - i)
      have h3 := mul_le (A := 13) (B := 13) (show -13 ≤ at' G i ∧ at' G i ≤ 13 by omega) (show -13 ≤ at' H (k - i) ∧ at' H (k - i) ≤ 13 by omega)
      exact ⟨Int.mul_nonneg h1.1 h2.1, by omega⟩) (k + 1)
    unfold cv
    omega
  · rw [at_out (by omega)]; omega
/-- an ending: two wholes, each in memory of its own, the first one's ahead, and a Bool -/
def Ans2J (R R2 : List Int) (ok : Bool) (w : World) (e : Ending) (w' : World) : Prop := ∃ v v2, e = .returned (.tuple #[v, v2, .bool ok]) ∧ (∃ wm : World, (w.heap.size ≤ wm.heap.size ∧ wm.heap.size ≤ w'.heap.size) ∧ OwW w' w.heap.size wm.heap.size v R ∧ OwW w' wm.heap.size w'.heap.size v2 R2) ∧ Below w.heap.size w w'
theorem out2J {w W1 w5 wm : World} {r r2 : Nat} {s s2 : Value} {R R2 : List Int} {ok : Bool} (hB : Below w.heap.size w W1) (h1 : w.heap.size ≤ r) (h2 : r < W1.heap.size) (h3 : w.heap.size ≤ r2) (h4 : r2 < W1.heap.size) (hm : W1.heap.size ≤ wm.heap.size ∧ wm.heap.size ≤ w5.heap.size)
    (ho : Own w5 W1.heap.size wm.heap.size s R) (ho2 : Own w5 wm.heap.size w5.heap.size s2 R2) (hb : Below W1.heap.size W1 w5) :
    Ans2J R R2 ok w (.returned (.tuple #[.agg #[s], .agg #[s2], .bool ok])) ((w5.setCell ⟨r, 0, none⟩ s).setCell ⟨r2, 0, none⟩ s2) :=
  ⟨_, _, rfl, ⟨wm, ⟨Nat.le_trans hB.size hm.1, by have := hm.2; simpa using this⟩,
    ⟨_, rfl, ((ho.setBelow h2 s).setBelow h4 s2).wide hB.size (Nat.le_refl _)⟩,
    ⟨_, rfl, ((ho2.setBelow (by omega) s).setBelow (by omega) s2).wide (Nat.le_refl _) (by simp)⟩⟩, ((hB.trans (hb.mono hB.size)).setCell h1 _).setCell h3 _⟩

set_option maxRecDepth 100000 in
set_option maxHeartbeats 6400000 in
theorem impl_any {P G H : List Int} {v0 v1 v2 : Value} {w : World} (h0 : Wh w v0 P) (h1 : Wh w v1 G) (h2 : Wh w v2 H) (p : Int) (bp : (Lit.int .i64 p).wf = true) :
    Calls Try.prog 9 #[v0, v1, v2, .int .i64 p] w (Ans2J (R P G H p) (R2 P G H p) (ok P G H p) w) := by
  obtain ⟨_, rfl, h0⟩ := h0
  obtain ⟨po, pc, rfl⟩ := h0.shape
  obtain ⟨_, rfl, h1⟩ := h1
  obtain ⟨go, gc, rfl⟩ := h1.shape
  obtain ⟨_, rfl, h2⟩ := h2
  obtain ⟨ho, hc, rfl⟩ := h2.shape
  obtain ⟨w1, hw⟩ : ∃ x, x = ((((w.alloc (.cells #[.slice po P.length pc] 26)).alloc (.cells #[.slice go G.length gc] 26)).alloc (.cells #[.slice ho H.length hc] 26)).alloc (.cells #[.slice none 0 0] 26)).alloc (.cells #[.slice none 0 0] 26) := ⟨_, rfl⟩
  have XP : Hid (Bx w1 w.heap.size (.slice po P.length pc)) := by rw [hw]; exact ((((Bx.new _ _ _).alloc _).alloc _).alloc _).alloc _
  have XG : Hid (Bx w1 (w.heap.size + 1) (.slice go G.length gc)) := by rw [hw]; exact (((Bx.new2 _ _ _ _).alloc _).alloc _).alloc _
  have XH : Hid (Bx w1 (w.heap.size + 1 + 1) (.slice ho H.length hc)) := by rw [hw]; exact ((Bx.new3 _ _ _ _ _).alloc _).alloc _
  have XR : Hid (Bx w1 (w.heap.size + 1 + 1 + 1) (.slice none 0 0)) := by rw [hw]; exact (bx4 _ _ _ _ _ _).alloc _
  have XQ : Hid (Bx w1 (w.heap.size + 1 + 1 + 1 + 1) (.slice none 0 0)) := by rw [hw]; exact bx5 _ _ _ _ _ _ _
  have B1 : Hid (Below w.heap.size w w1) := by rw [hw]; exact new5 _ _ _ _ _ _
  have LP : Hid (Ls w1 (.slice po P.length pc) P) := Ls.below h0 B1.out
  have LG : Hid (Ls w1 (.slice go G.length gc) G) := Ls.below h1 B1.out
  have LH : Hid (Ls w1 (.slice ho H.length hc) H) := Ls.below h2 B1.out
  have CF : Hid (∀ W, Below w1.heap.size w1 W → W.cell? ⟨w.heap.size, 0, none⟩ = some (.slice po P.length pc) ∧ W.cell? ⟨w.heap.size + 1, 0, none⟩ = some (.slice go G.length gc) ∧ W.cell? ⟨w.heap.size + 1 + 1, 0, none⟩ = some (.slice ho H.length hc) ∧ Ls W (.slice po P.length pc) P ∧ Ls W (.slice go G.length gc) G ∧ Ls W (.slice ho H.length hc) H) :=
    fun W b => ⟨(XP.out.kept b).cell, (XG.out.kept b).cell, (XH.out.kept b).cell, LP.out.below b, LG.out.below b, LH.out.below b⟩
  have LR : Hid (w.heap.size + 1 + 1 + 1 < w1.heap.size ∧ w.heap.size + 1 + 1 + 1 + 1 < w1.heap.size) := ⟨XR.out.lt, XQ.out.lt⟩
  have c0 := XP.out.cell
  have c1 := XG.out.cell
  have c2 := XH.out.cell
  have hif := ifl_any (w := w1) p bp LP.out LG.out LH.out
  clear h0 h1 h2 bp
  go_enter Try.func9, Try.ntmps9
  go_wp2_with fail
  rw [← hw]
  clear hw
  refine hif.mono ?_
  rintro e w2 ⟨rfl, b⟩
  have B2 : Hid (Below w1.heap.size w1 w2) := b
  have XR2 : Hid (Bx w2 (w.heap.size + 1 + 1 + 1) (.slice none 0 0)) := XR.out.kept b
  have XQ2 : Hid (Bx w2 (w.heap.size + 1 + 1 + 1 + 1) (.slice none 0 0)) := XQ.out.kept b
  clear b hif c0 c1 c2
  cases hk : chk P G H p with
  | false =>
    have HR : Hid (Ans2J (R P G H p) (R2 P G H p) (ok P G H p) w (.returned (.tuple #[.agg #[.slice none 0 0], .agg #[.slice none 0 0], .bool false])) ((w2.setCell ⟨w.heap.size + 1 + 1 + 1, 0, none⟩ (.slice none 0 0)).setCell ⟨w.heap.size + 1 + 1 + 1 + 1, 0, none⟩ (.slice none 0 0))) := by
      have e1 : R P G H p = [] := if_neg (by rw [hk]; decide)
      have e2 : R2 P G H p = [] := if_neg (by rw [hk]; decide)
      have e3 : ok P G H p = false := hk
      rw [e1, e2, e3]
      exact ⟨_, _, rfl, ⟨w, ⟨Nat.le_refl _, by have := (B1.out.trans (B2.out.mono B1.out.size)).size; simpa using this⟩, OwW.zero _ _ _, OwW.zero _ _ _⟩, ((B1.out.trans (B2.out.mono B1.out.size)).setCell (by show w.heap.size ≤ w.heap.size + 1 + 1 + 1; omega) _).setCell (by show w.heap.size ≤ w.heap.size + 1 + 1 + 1 + 1; omega) _⟩
    obtain ⟨⟨y1, y2⟩, z1, z2⟩ := two_set XR2.out XQ2.out (by omega) (.slice none 0 0) (.slice none 0 0)
    have f1 := XR2.out.free
    have f2 := XR2.out.cell
    clear hk
    go_wp2_with fail
    exact bodyPost_ret (v := .tuple #[.agg #[.slice none 0 0], .agg #[.slice none 0 0], .bool false]) (by simp [results, Try.results9, y1, y2, go_sem]) rfl HR.out
  | true =>
    have HK : Hid (LK P G H p) := lk_of hk
    have HCK : Hid (chk P G H p = true) := hk
    clear hk
    obtain ⟨c0, c1, c2, l0, l1, l2⟩ := CF.out _ B2.out
    have hpr := prod_any l1 l2 ⟨HK.out.og.1.1, by have := HK.out.og.2.1; omega⟩ ⟨HK.out.oh.1.1, by have := HK.out.oh.2.1; omega⟩ (fun i k => over_bd HK.out.og.1.2 HK.out.oh.1.2 (isP_le HK.out.isp) i k)
    clear l0 l1 l2
    go_wp2_with fail
    refine hpr.mono ?_
    rintro e w3 ⟨vq, rfl, oq, b⟩
    have B3 : Hid (Below w1.heap.size w1 w3) := B2.out.trans (b.mono B2.out.size)
    obtain ⟨qa, qc, rfl⟩ := oq.shape
    have LQ : Hid (Ls w3 (.slice qa (prod G H).length qc) (prod G H)) := oq.ls (Nat.le_refl _)
    clear oq b hpr c0 c1 c2
    obtain ⟨c0, c1, c2, l0, l1, l2⟩ := CF.out _ B3.out
    have LP3 : Hid (Ls w3 (.slice po P.length pc) P) := l0
    clear l0 l1 l2
    obtain ⟨n, hn⟩ : ∃ n, n = (prod G H).length := ⟨_, rfl⟩
    have HN : Hid (n = (prod G H).length) := hn
    have HPN : Hid (P.length = n) := by show _ = _; rw [hn, prod_len]; exact HK.out.mods.2
    have hn9 : n ≤ 9 := by have := HK.out.p9; have := HPN.out; omega
    have hml : n ≤ maxLen := by unfold maxLen; omega
    rw [← hn] at LQ ⊢
    clear hn
    obtain ⟨i0, hi, hz0, hz1, hz2⟩ := info_parts info_i
    go_wp2_with (first | (refine wpList_make_full _ rfl (.tmp 29) (.tmp 29) 22 rfl w3.heap.size 2 i0 (.int .i64 0) 1 Try.underlying22 hi hz0 hz1 .i64 .i64 _ _ n rfl rfl rfl rfl (by rw [hz2]; omega) hml (Nat.le_refl _) ?_; intro w4 hown hgrow))
    obtain ⟨B, hB⟩ : ∃ B, B = w3.heap.size := ⟨_, rfl⟩
    rw [← hB] at hown
    rw [← hB]
    have hbel : Below B w3 w4 := (Below.refl B w3).grown hgrow (by omega) (by intro k hk; cases hk)
    have HE : Hid (B = w3.heap.size) := hB
    clear hgrow hB hi hz0 hz1 hz2 c0 c1 c2
    have B4 : Hid (Below w1.heap.size w1 w4) := B3.out.trans (by have := hbel; rw [HE.out] at this; exact this.mono B3.out.size)
    obtain ⟨pb, pf, hpb, hpl, hpc⟩ : ∃ b off, po = some ⟨b, off, none⟩ ∧ b < w3.heap.size ∧ ∀ (k : Nat) (z : Int), P[k]? = some z → w3.cell? ⟨b, off + k, none⟩ = some (.int .i64 z) := by
      obtain ⟨ao, cap, he, _, _, hc⟩ := LP3.out
      simp only [Value.slice.injEq] at he
      obtain ⟨rfl, _⟩ := he
      exact hc (by have := HK.out.vp.1; omega)
    obtain ⟨qb, qf, hqb, hql, hqc⟩ : ∃ b off, qa = some ⟨b, off, none⟩ ∧ b < w3.heap.size ∧ ∀ (k : Nat) (z : Int), (prod G H)[k]? = some z → w3.cell? ⟨b, off + k, none⟩ = some (.int .i64 z) := by
      obtain ⟨ao, cap, he, _, _, hc⟩ := LQ
      simp only [Value.slice.injEq] at he
      obtain ⟨rfl, _⟩ := he
      exact hc (by have := HN.out; have := HK.out.vp.1; have := HPN.out; omega)
    subst hpb hqb
    have HPC : Hid (pb < w3.heap.size ∧ ∀ (k : Nat) (z : Int), P[k]? = some z → w3.cell? ⟨pb, pf + k, none⟩ = some (.int .i64 z)) := ⟨hpl, hpc⟩
    have HQC : Hid (qb < w3.heap.size ∧ ∀ (k : Nat) (z : Int), (prod G H)[k]? = some z → w3.cell? ⟨qb, qf + k, none⟩ = some (.int .i64 z)) := ⟨hql, hqc⟩
    have HPV : Hid (Val P) := HK.out.vp
    have HPB : Hid (2 ≤ p ∧ p ≤ 13) := isP_le HK.out.isp
    have HQB : Hid (∀ k, -2000 ≤ at' (prod G H) k ∧ at' (prod G H) k ≤ 2000) := fun k => prod_bd HPB.out HK.out.og.1 HK.out.oh.1 (by have := HN.out; rw [prod_len] at this; omega) k
    clear hpl hpc hql hqc LQ
    go_loopw [33] (fun i wr => ∃ (k : Nat) (xs : List Value), k ≤ n ∧ i = .int .i64 (k : Int) ∧ Hid (wr.ownsRow B 2 1 (.slice (some ⟨B, 0, none⟩) n n) n xs) ∧ Hid (∀ j, j < k → xs[j]? = some (.int .i64 (Int.tdiv (at' P j - at' (prod G H) j) p))) ∧ Hid (Below B w3 wr)) (fun i _ => n - (intOf i).toNat)
    case atStart => exact ⟨0, _, by omega, rfl, hown, fun j hj => by omega, hbel⟩
    case round =>
      obtain ⟨k, xs, hk, rfl, how, hx, hb⟩ := hrel
      have hb1 : Hid (Below w1.heap.size w1 wr) := B3.out.trans (by have := hb.out; rw [HE.out] at this; exact this.mono B3.out.size)
      clear hown hbel
      by_cases hlt : k < n
      · have c0 := (CF.out _ hb1.out).1
        have e1 : wr.cell? ⟨pb, pf + k, none⟩ = some (.int .i64 (at' P k)) := (hb.out.cell (p := ⟨pb, pf + k, none⟩) (by have := HE.out; have := HPC.out.1; show pb < B; omega)).trans (HPC.out.2 k _ (at_some P k (by have := HPN.out; omega)))
        have e2 : wr.cell? ⟨qb, qf + k, none⟩ = some (.int .i64 (at' (prod G H) k)) := (hb.out.cell (p := ⟨qb, qf + k, none⟩) (by have := HE.out; have := HQC.out.1; show qb < B; omega)).trans (HQC.out.2 k _ (at_some _ k (by have := HN.out; omega)))
        have e3 : wr.cell? ⟨B, k, none⟩ = xs[k]? := how.out.cellAt k (by omega)
        have hxl : xs.length = n := by have := how.out.1; simpa using this
        obtain ⟨u, hu⟩ : ∃ u, xs[k]? = some u := ⟨xs[k]'(by omega), List.getElem?_eq_getElem (by omega)⟩
        rw [hu] at e3
        have e4 : wr.frozen? ⟨B, k, none⟩ = false := how.out.frozenAt k
        have bp1 := val_at HPV.out k
        have bq1 := HQB.out k
        have HX : Hid (∀ v, v = Int.tdiv (at' P k - at' (prod G H) k) p → ∀ j, j < k + 1 → (xs.set k (.int .i64 v))[j]? = some (.int .i64 (Int.tdiv (at' P j - at' (prod G H) j) p))) := by
          intro v hv j hj
          by_cases hjk : j = k
          · subst hjk
            rw [List.getElem?_set_self (by omega), hv]
          · rw [List.getElem?_set_ne (by omega)]
            exact hx.out j (by omega)
        obtain ⟨x, hxx⟩ : ∃ x, x = at' P k := ⟨_, rfl⟩
        obtain ⟨y, hyy⟩ : ∃ y, y = at' (prod G H) k := ⟨_, rfl⟩
        rw [← hxx] at e1 bp1 HX
        rw [← hyy] at e2 bq1 HX
        have hpp := HPB.out
        have td := tdiv_bd (x := x - y) (p := p) (M := 11000000) (by omega)
        have w1' : IntKind.i64.wrap (x - y) = x - y := IntWalk.i64_in _ (by omega)
        have w2' : wrap64 (x - y) = x - y := IntWalk.wrap64_in _ (by omega)
        obtain ⟨d, hd⟩ : ∃ d, d = Int.tdiv (x - y) p := ⟨_, rfl⟩
        rw [← hd] at td HX
        have w3' : IntKind.i64.wrap (Int.tdiv (x - y) p) = d := by rw [← hd]; exact IntWalk.i64_in _ (by omega)
        have w4' : wrap64 (Int.tdiv (x - y) p) = d := by rw [← hd]; exact IntWalk.wrap64_in _ (by omega)
        have hp0 : p ≠ 0 := by omega
        have kP : (k : Int) < (P.length : Int) := by have := HPN.out; omega
        have kP' : k < P.length := by have := HPN.out; omega
        have hp0' : (p == 0) = false := by rw [beq_eq_false_iff_ne]; exact hp0
        have HO : Hid ((wr.setCell ⟨B, k, none⟩ (.int .i64 d)).ownsRow B 2 1 (.slice (some ⟨B, 0, none⟩) n n) n (xs.set k (.int .i64 d))) := (how.out.stored k (.int .i64 d)).1
        have HX2 : Hid (∀ j, j < k + 1 → (xs.set k (.int .i64 d))[j]? = some (.int .i64 (Int.tdiv (at' P j - at' (prod G H) j) p))) := HX.out d rfl
        have HB : Hid (Below B w3 (wr.setCell ⟨B, k, none⟩ (.int .i64 d))) := hb.out.setCell (p := ⟨B, k, none⟩) (Nat.le_refl B) _
        have hst := store_int (b := d) e3 e4
        clear hu hb how hx hxl HX hxx hyy hd td bp1 bq1 hb1
        go_wp2_with fail
        refine ⟨⟨k + 1, _, by omega, by go_num, HO, HX2, HB⟩, ?_⟩
        simp [intOf]
        omega
      · obtain rfl : k = n := by omega
        have HML : Hid ((mis P G H p).length = k) := by show _ = _; rw [mis_len]; exact HN.out.symm
        have LM : Hid (Ls wr (.slice (some ⟨B, 0, none⟩) k k) (mis P G H p)) := by
          have hxs : xs = (mis P G H p).map (Value.int .i64) := by
            apply List.ext_getElem?
            intro j
            have hxl : xs.length = k := by have := how.out.1; simpa using this
            by_cases hj : j < k
            · rw [hx.out j hj, List.getElem?_map, mis_get (by have := HN.out; omega)]; rfl
            · rw [List.getElem?_eq_none (by omega), List.getElem?_eq_none (by have := HML.out; simp; omega)]
          have ho' := how.out
          rw [hxs] at ho'
          have h1 := HML.out
          have h2 : wr.ownsRow B 2 1 (.slice (some ⟨B, 0, none⟩) k k) (mis P G H p).length ((mis P G H p).map (Value.int .i64)) := by rw [h1]; exact ho'
          exact (Own.of_row h2 (by omega) (Nat.le_refl _)).ls (Nat.le_refl _)
        have XRr : Hid (Bx wr (w.heap.size + 1 + 1 + 1) (.slice none 0 0)) := XR.out.kept hb1.out
        have XQr : Hid (Bx wr (w.heap.size + 1 + 1 + 1 + 1) (.slice none 0 0)) := XQ.out.kept hb1.out
        have XGr : Hid (Bx wr (w.heap.size + 1) (.slice go G.length gc)) := XG.out.kept hb1.out
        have XHr : Hid (Bx wr (w.heap.size + 1 + 1) (.slice ho H.length hc)) := XH.out.kept hb1.out
        have LGr : Hid (Ls wr (.slice go G.length gc) G) := LG.out.below hb1.out
        have LHr : Hid (Ls wr (.slice ho H.length hc) H) := LH.out.below hb1.out
        obtain ⟨c, T, tR, tc, tT, tl, tU⟩ := HK.out.u_eq
        obtain ⟨c', T', tR', tc', tT', tl', tV⟩ := HK.out.v_eq
        have HMB : Hid (∀ j, -10000000 ≤ at' (mis P G H p) j ∧ at' (mis P G H p) j ≤ 10000000) := fun j => by
          by_cases hj : j < (mis P G H p).length
          · have h1 := val_at HPV.out j
            have h2 := HQB.out j
            rw [at_get (mis_get (by rw [mis_len] at hj; exact hj))]
            have := tdiv_bd (x := at' P j - at' (prod G H) j) (p := p) (M := 2000000) (by omega)
            omega
          · rw [at_out (by omega)]; omega
        have HMN : Hid (1 ≤ (mis P G H p).length ∧ (mis P G H p).length ≤ 9) := ⟨HK.out.len_mis.1, HK.out.len_mis.2.1⟩
        have CU := fun (W : World) (h1 : Ls W (.slice go G.length gc) G) (h2 : Ls W (.slice ho H.length hc) H) (h3 : Ls W (.slice (some ⟨B, 0, none⟩) k k) (mis P G H p)) => lifted_any HK.out.isp h1 h2 h3 HK.out.og HK.out.oh (by rw [HK.out.gl]; decide) HMN.out HMB.out tR tc ⟨tT, tl⟩
        have CV := fun (W : World) (h1 : Ls W (.slice go G.length gc) G) (h2 : Ls W (.slice ho H.length hc) H) (h3 : Ls W (.slice (some ⟨B, 0, none⟩) k k) (mis P G H p)) => lifted_any HK.out.isp h2 h1 h3 HK.out.oh HK.out.og (by rw [HK.out.hl]; decide) HMN.out HMB.out tR' tc' ⟨tT', tl'⟩
        rw [tU] at CU
        rw [tV] at CV
        have HCU : Hid (∀ W, Ls W (.slice go G.length gc) G → Ls W (.slice ho H.length hc) H → Ls W (.slice (some ⟨B, 0, none⟩) k k) (mis P G H p) → Calls Try.prog 38 #[.agg #[.slice go G.length gc], .agg #[.slice ho H.length hc], .slice (some ⟨B, 0, none⟩) k k, .int .i64 p] W
            fun e w' => ∃ v, e = .returned v ∧ OwW w' W.heap.size w'.heap.size v (weigh G (uU P G H p) 1 p) ∧ Below W.heap.size W w') := CU
        have HCV : Hid (∀ W, Ls W (.slice go G.length gc) G → Ls W (.slice ho H.length hc) H → Ls W (.slice (some ⟨B, 0, none⟩) k k) (mis P G H p) → Calls Try.prog 38 #[.agg #[.slice ho H.length hc], .agg #[.slice go G.length gc], .slice (some ⟨B, 0, none⟩) k k, .int .i64 p] W
            fun e w' => ∃ v, e = .returned v ∧ OwW w' W.heap.size w'.heap.size v (weigh H (vV P G H p) 1 p) ∧ Below W.heap.size W w') := CV
        have HRR : Hid (R P G H p = weigh G (uU P G H p) 1 p ∧ R2 P G H p = weigh H (vV P G H p) 1 p ∧ ok P G H p = true) := ⟨if_pos HCK.out, if_pos HCK.out, HCK.out⟩
        have HWr : Hid (Below w1.heap.size w1 wr) := hb1.out
        generalize weigh G (uU P G H p) 1 p = RA at *
        generalize weigh H (vV P G H p) 1 p = RB at *
        have c1 := XGr.out.cell
        have c2 := XHr.out.cell
        clear CU CV tR tc tT tl tU tR' tc' tT' tl' tV how hx hb hb1 HMB HMN HPV HQB HPC HQC
        have bd : Hid (Below wr.heap.size wr wr.drew) := (Below.refl _ _).drew
        go_wp2_with fail
        go_region_held3 (fun w' => w'.cell? ⟨w.heap.size + 1, 0, none⟩ = some (.slice go G.length gc) ∧ w'.cell? ⟨w.heap.size + 1 + 1, 0, none⟩ = some (.slice ho H.length hc))
          (first | exact ⟨(XGr.out.kept bd.out).cell, (XHr.out.kept bd.out).cell⟩ | exact ⟨(XGr.out.kept by1.out).cell, (XHr.out.kept by1.out).cell⟩ | exact ⟨(XGr.out.kept by2.out).cell, (XHr.out.kept by2.out).cell⟩ | exact K3.out | exact K4.out)
          (first
            | (go_at_call 38; refine (HCV.out _ (LGr.out.below by1.out) (LHr.out.below by1.out) (LM.out.below by1.out)).mono ?_; rintro e wb ⟨_, rfl, ⟨vb, rfl, ob⟩, bb⟩; obtain ⟨xa, xc, rfl⟩ := ob.shape; have by2 : Hid (Below wr.heap.size wr wb) := by1.out.trans (bb.mono by1.out.size); have OB : Hid (Own wb wa.heap.size wb.heap.size (.slice xa RB.length xc) RB) := ob; have OA2 : Hid (Own wb wr.heap.size wa.heap.size (.slice ua RA.length uc) RA) := OA.out.kept bb; have HZ : Hid (wr.heap.size ≤ wa.heap.size ∧ wa.heap.size ≤ wb.heap.size) := ⟨by1.out.size, bb.size⟩; clear ob bb
               have XRb : Hid (Bx wb (w.heap.size + 1 + 1 + 1) (.slice none 0 0)) := XRr.out.kept by2.out
               have XQb : Hid (Bx wb (w.heap.size + 1 + 1 + 1 + 1) (.slice none 0 0)) := XQr.out.kept by2.out
               have TS := two_set XRb.out XQb.out (by omega) (.slice ua RA.length uc) (.slice xa RB.length xc)
               have f1 := XRb.out.free
               have g1 := XRb.out.cell
               have z1 := TS.2.1
               have z2 := TS.2.2
               have K3 : Hid ((wb.setCell ⟨w.heap.size + 1 + 1 + 1, 0, none⟩ (.slice ua RA.length uc)).cell? ⟨w.heap.size + 1, 0, none⟩ = some (.slice go G.length gc) ∧ (wb.setCell ⟨w.heap.size + 1 + 1 + 1, 0, none⟩ (.slice ua RA.length uc)).cell? ⟨w.heap.size + 1 + 1, 0, none⟩ = some (.slice ho H.length hc)) := ⟨((XGr.out.kept by2.out).other (by omega) _).cell, ((XHr.out.kept by2.out).other (by omega) _).cell⟩
               have K4 : Hid (((wb.setCell ⟨w.heap.size + 1 + 1 + 1, 0, none⟩ (.slice ua RA.length uc)).setCell ⟨w.heap.size + 1 + 1 + 1 + 1, 0, none⟩ (.slice xa RB.length xc)).cell? ⟨w.heap.size + 1, 0, none⟩ = some (.slice go G.length gc) ∧ ((wb.setCell ⟨w.heap.size + 1 + 1 + 1, 0, none⟩ (.slice ua RA.length uc)).setCell ⟨w.heap.size + 1 + 1 + 1 + 1, 0, none⟩ (.slice xa RB.length xc)).cell? ⟨w.heap.size + 1 + 1, 0, none⟩ = some (.slice ho H.length hc)) := ⟨(((XGr.out.kept by2.out).other (by omega) _).other (by omega) _).cell, (((XHr.out.kept by2.out).other (by omega) _).other (by omega) _).cell⟩)
            | (go_at_call 38; refine (HCU.out _ (LGr.out.below bd.out) (LHr.out.below bd.out) (LM.out.below bd.out)).mono ?_; rintro e wa ⟨_, rfl, ⟨va, rfl, oa⟩, ba⟩; obtain ⟨ua, uc, rfl⟩ := oa.shape; have by1 : Hid (Below wr.heap.size wr wa) := bd.out.trans (ba.mono bd.out.size); have OA : Hid (Own wa wr.heap.size wa.heap.size (.slice ua RA.length uc) RA) := oa.wide bd.out.size (Nat.le_refl _); clear oa ba))
        have hsz := HWr.out.size
        have HA : Hid (Ans2J (R P G H p) (R2 P G H p) (ok P G H p) w (.returned (.tuple #[.agg #[.slice ua RA.length uc], .agg #[.slice xa RB.length xc], .bool true])) ((wb.setCell ⟨w.heap.size + 1 + 1 + 1, 0, none⟩ (.slice ua RA.length uc)).setCell ⟨w.heap.size + 1 + 1 + 1 + 1, 0, none⟩ (.slice xa RB.length xc))) := by
          show Ans2J _ _ _ _ _ _
          rw [HRR.out.1, HRR.out.2.1, HRR.out.2.2]
          exact out2J (B1.out.trans (HWr.out.mono B1.out.size)) (by omega) (by have := LR.out; omega) (by omega) (by have := LR.out; omega) HZ.out OA2.out OB.out by2.out
        obtain ⟨⟨y1, y2⟩, _, _⟩ := TS
        clear f1 g1 z1 z2 c1 c2
        generalize RA.length = la at *
        generalize RB.length = lb at *
        go_wp2_with fail
        exact bodyPost_ret (v := .tuple #[.agg #[.slice ua la uc], .agg #[.slice xa lb xc], .bool true]) (by simp [results, Try.results9, y1, y2, go_sem]) rfl HA.out
end Go.Proofs.Ytfhcfeafohcjpaa.fLiftPair
