/- The law FnLifted: its walk, over what its functions answer. -/
import Derived.Test.YtfhcfeafohcjpaaFtD
import Derived.Test.YtfhcfeafohcjpaaLiftPairF
import Derived.Deep.RegionHeld3
import Derived.Deep.DeepCutAuto
namespace Go.Proofs.Ytfhcfeafohcjpaa.fnLiftedW
open Go.RowKit Go.Pl Go.Proofs.Ytfhcfeafohcjpaa.wh Go.Proofs.Ytfhcfeafohcjpaa.bys Go.Proofs.Ytfhcfeafohcjpaa.fw Go.Proofs.Ytfhcfeafohcjpaa.ft

theorem prime_in : ∀ k : Nat, k < 4 → ∃ z : Int, (#[Value.int .i64 2, .int .i64 3, .int .i64 5, .int .i64 7] : Array Value)[k]? = some (.int .i64 z) ∧ isP z = true ∧ (2 ≤ z ∧ z ≤ 7)
  | 0, _ => ⟨2, rfl, by decide, by omega⟩
  | 1, _ => ⟨3, rfl, by decide, by omega⟩
  | 2, _ => ⟨5, rfl, by decide, by omega⟩
  | 3, _ => ⟨7, rfl, by decide, by omega⟩
  | n + 4, h => absurd h (by omega)
theorem own_lo {w : World} {lo hi g n cap : Nat} {L : List Int} (h : wh.Own w lo hi (.slice (some ⟨g, 0, none⟩) (n + 1) cap) L) : lo ≤ g := by
  obtain ⟨_, _, _, _, h1, _⟩ := h.open
  exact h1
theorem own_hi {w : World} {lo hi g n cap : Nat} {L : List Int} (h : wh.Own w lo hi (.slice (some ⟨g, 0, none⟩) (n + 1) cap) L) : g < hi := by
  obtain ⟨_, _, _, _, _, h1, _⟩ := h.open
  exact h1
set_option maxRecDepth 100000 in
set_option maxHeartbeats 8000000 in
theorem walk (v0 v1 : Value) (w : World) (h0 : Bys w v0) (h1 : Bys w v1) :
    Calls Try.prog 5 #[v0, v1] w fun e w' => e = .returned (.bool true) ∧ Below w.heap.size w w' := by
  obtain ⟨q, hq⟩ := long_any h0 h1
  have H0 : Hid (Bb w w.heap.size v0) := Bb.of h0
  have H1 : Hid (Bb w w.heap.size v1) := Bb.of h1
  obtain ⟨vo0, vn0, vc0, rfl⟩ := bys_shape h0
  obtain ⟨vo1, vn1, vc1, rfl⟩ := bys_shape h1
  clear h0 h1
  cases q with
  | true =>
    go_enter Try.func5, Try.ntmps5
    go_wp2_with fail
    refine (hq _).mono ?_
    rintro e w' ⟨rfl, rfl⟩
    go_wp2_with fail
    go_ret
    exact ⟨rfl, Go.Pst.below_draws ⟨0, rfl⟩⟩
  | false =>
  go_enter Try.func5, Try.ntmps5
  go_wp2_with fail
  refine (hq _).mono ?_
  rintro e w' ⟨rfl, rfl⟩
  have B0 : Hid (Below w.heap.size w w) := Below.refl _ _
  clear hq
  go_wp2_with fail
  obtain ⟨w1, hw⟩ : ∃ x, x = w.alloc (.cells #[.int .i64 2, .int .i64 3, .int .i64 5, .int .i64 7] 2) := ⟨_, rfl⟩
  rw [← hw]
  have hcell : w1.heap[w.heap.size]? = some (.cells #[.int .i64 2, .int .i64 3, .int .i64 5, .int .i64 7] 2 (0, 0)) := by rw [hw]; exact heap_alloc_new w _
  have b : Below w.heap.size w w1 := by rw [hw]; exact new1 _ _
  have Zw1 : Hid (w.heap.size ≤ w1.heap.size) := b.size
  replace B0 : Hid (Below w.heap.size w w1) := B0.out.trans (b.mono B0.out.size)
  clear hw b
  obtain ⟨r, hr0, hr1, cr⟩ := at_any (H1.out.below B0.out).1 0 4 (by omega) (by omega) (by omega) (by omega)
  refine cr.mono ?_
  rintro e w' ⟨rfl, rfl⟩
  clear cr
  obtain ⟨k, rfl⟩ : ∃ k : Nat, r = k := ⟨r.toNat, by omega⟩
  obtain ⟨pr, hpr, hisp, hpr7⟩ := prime_in k (by omega)
  have cpr : w1.cell? ⟨w.heap.size, k, none⟩ = some (.int .i64 pr) := by rw [cell_of_row _ _ _ _ _ _ hcell]; exact hpr
  clear hpr hcell
  go_wp2_with fail
  refine (over_any (H0.out.below B0.out).1 hpr7).mono ?_
  rintro e w2 ⟨_, G0, rfl, d0, o, b⟩
  obtain ⟨bg, kg, rfl, lg, mg, _, _⟩ := o.block (fun e => by have := d0.1; rw [e] at this; simp at this)
  obtain ⟨ng, hng⟩ : ∃ n, G0.length = n + 1 := ⟨G0.length - 1, by have := d0.1; omega⟩
  rw [hng] at o ⊢
  have Zw2 : Hid (w1.heap.size ≤ w2.heap.size) := b.size
  replace B0 : Hid (Below w.heap.size w w2) := B0.out.trans (b.mono B0.out.size)
  have Og : Hid (wh.Own w2 w1.heap.size w2.heap.size (.slice (some ⟨bg, 0, none⟩) (ng + 1) kg) G0) := o
  have Ig : Hid (w1.heap.size ≤ bg ∧ bg < w2.heap.size) := ⟨lg, mg⟩
  have Ng : Hid (G0.length = ng + 1) := hng
  have Eg : Hid (Dg pr G0) := d0
  clear o b lg mg d0 hng
  go_wp2_with fail
  obtain ⟨w3, hw⟩ : ∃ x, x = w2.alloc (.cells #[(.slice (some ⟨bg, 0, none⟩) (ng + 1) kg)] 26) := ⟨_, rfl⟩
  rw [← hw]
  have b : Below w2.heap.size w2 w3 := by rw [hw]; exact new1 _ _
  have x9 : Bx w3 w2.heap.size (.slice (some ⟨bg, 0, none⟩) (ng + 1) kg) := by rw [hw]; exact Bx.new _ _ _
  have Zw3 : Hid (w2.heap.size ≤ w3.heap.size) := b.size
  replace B0 : Hid (Below w.heap.size w w3) := B0.out.trans (b.mono B0.out.size)
  replace Og : Hid (wh.Own w3 w1.heap.size w2.heap.size (.slice (some ⟨bg, 0, none⟩) (ng + 1) kg) G0) := Og.out.kept b
  have Xg : Hid (Bx w3 w2.heap.size (.slice (some ⟨bg, 0, none⟩) (ng + 1) kg)) := x9
  have cg : w3.cell? ⟨w2.heap.size, 0, none⟩ = some (.slice (some ⟨bg, 0, none⟩) (ng + 1) kg) := Xg.out.cell
  have Lg : Hid (w2.heap.size < w3.heap.size) := Xg.out.lt
  clear b hw x9
  refine (over_any (H1.out.below B0.out).1 hpr7).mono ?_
  rintro e w4 ⟨_, H0l, rfl, d0, o, b⟩
  obtain ⟨bh, kh, rfl, lh, mh, _, _⟩ := o.block (fun e => by have := d0.1; rw [e] at this; simp at this)
  obtain ⟨nh, hnh⟩ : ∃ n, H0l.length = n + 1 := ⟨H0l.length - 1, by have := d0.1; omega⟩
  rw [hnh] at o ⊢
  have Zw4 : Hid (w3.heap.size ≤ w4.heap.size) := b.size
  replace B0 : Hid (Below w.heap.size w w4) := B0.out.trans (b.mono B0.out.size)
  replace Og : Hid (wh.Own w4 w1.heap.size w2.heap.size (.slice (some ⟨bg, 0, none⟩) (ng + 1) kg) G0) := Og.out.kept b
  replace Xg : Hid (Bx w4 w2.heap.size (.slice (some ⟨bg, 0, none⟩) (ng + 1) kg)) := Xg.out.kept b
  replace cg : w4.cell? ⟨w2.heap.size, 0, none⟩ = some (.slice (some ⟨bg, 0, none⟩) (ng + 1) kg) := Xg.out.cell
  have Oh : Hid (wh.Own w4 w3.heap.size w4.heap.size (.slice (some ⟨bh, 0, none⟩) (nh + 1) kh) H0l) := o
  have Ih : Hid (w3.heap.size ≤ bh ∧ bh < w4.heap.size) := ⟨lh, mh⟩
  have Nh : Hid (H0l.length = nh + 1) := hnh
  have Eh : Hid (Dg pr H0l) := d0
  clear o b lh mh d0 hnh
  have dg : (w4.alloc (.cells #[(.slice (some ⟨bh, 0, none⟩) (nh + 1) kh)] 26)).cell? ⟨w2.heap.size, 0, none⟩ = some (.slice (some ⟨bg, 0, none⟩) (ng + 1) kg) := (Xg.out.alloc _).cell
  go_upto_region 7 with fail
  clear dg
  obtain ⟨w5, hw⟩ : ∃ x, x = w4.alloc (.cells #[(.slice (some ⟨bh, 0, none⟩) (nh + 1) kh)] 26) := ⟨_, rfl⟩
  rw [← hw]
  have b : Below w4.heap.size w4 w5 := by rw [hw]; exact new1 _ _
  have x9 : Bx w5 w4.heap.size (.slice (some ⟨bh, 0, none⟩) (nh + 1) kh) := by rw [hw]; exact Bx.new _ _ _
  have Zw5 : Hid (w4.heap.size ≤ w5.heap.size) := b.size
  replace B0 : Hid (Below w.heap.size w w5) := B0.out.trans (b.mono B0.out.size)
  replace Og : Hid (wh.Own w5 w1.heap.size w2.heap.size (.slice (some ⟨bg, 0, none⟩) (ng + 1) kg) G0) := Og.out.kept b
  replace Oh : Hid (wh.Own w5 w3.heap.size w4.heap.size (.slice (some ⟨bh, 0, none⟩) (nh + 1) kh) H0l) := Oh.out.kept b
  replace Xg : Hid (Bx w5 w2.heap.size (.slice (some ⟨bg, 0, none⟩) (ng + 1) kg)) := Xg.out.kept b
  replace cg : w5.cell? ⟨w2.heap.size, 0, none⟩ = some (.slice (some ⟨bg, 0, none⟩) (ng + 1) kg) := Xg.out.cell
  have Xh : Hid (Bx w5 w4.heap.size (.slice (some ⟨bh, 0, none⟩) (nh + 1) kh)) := x9
  have ch : w5.cell? ⟨w4.heap.size, 0, none⟩ = some (.slice (some ⟨bh, 0, none⟩) (nh + 1) kh) := Xh.out.cell
  have Lh : Hid (w4.heap.size < w5.heap.size) := Xh.out.lt
  clear b hw x9
  have hz : ng < G0.length := by have := Ng.out; omega
  have ce := Og.out.cell (k := ng) (at_some _ _ hz)
  have fe := Og.out.free ng
  have cx := Xg.out.cell
  have hm : G0.length ≤ 4 := Eg.out.2.1
  have hn4 : ng ≤ 3 := by have := Ng.out; omega
  clear hm
  have wn : (0 : Int) ≤ (ng : Int) := by omega
  have wn2 : (ng : Int) ≤ 3 := by omega
  go_upto_region 8 with fail
  clear ce fe cx hz wn wn2 hn4
  obtain ⟨w6, hw⟩ : ∃ x, x = w5.setCell ⟨bg, ng, none⟩ (.int .i64 1) := ⟨_, rfl⟩
  rw [← hw]
  have Zw6 : Hid (w5.heap.size ≤ w6.heap.size) := by show _ ≤ _; rw [hw]; simp
  have hbg : w.heap.size ≤ bg := by have := Zw1.out; have := Zw2.out; have := Zw3.out; have := Zw4.out; have := Zw5.out; have := Lg.out; have := Lh.out; have := Ig.out; omega
  replace B0 : Hid (Below w.heap.size w w6) := by rw [hw]; exact B0.out.setCell hbg _
  replace Og : Hid (wh.Own w6 w1.heap.size w2.heap.size (.slice (some ⟨bg, 0, none⟩) (ng + 1) kg) (G0.set ng 1)) := by rw [hw]; exact Og.out.put _ _
  replace Oh : Hid (wh.Own w6 w3.heap.size w4.heap.size (.slice (some ⟨bh, 0, none⟩) (nh + 1) kh) H0l) := by rw [hw]; exact Oh.out.other (by have := Zw1.out; have := Zw2.out; have := Zw3.out; have := Zw4.out; have := Zw5.out; have := Lg.out; have := Lh.out; have := Ig.out; omega) _
  replace Xg : Hid (Bx w6 w2.heap.size (.slice (some ⟨bg, 0, none⟩) (ng + 1) kg)) := by rw [hw]; exact Xg.out.other (by have := Zw1.out; have := Zw2.out; have := Zw3.out; have := Zw4.out; have := Zw5.out; have := Lg.out; have := Lh.out; have := Ig.out; omega) _
  replace Xh : Hid (Bx w6 w4.heap.size (.slice (some ⟨bh, 0, none⟩) (nh + 1) kh)) := by rw [hw]; exact Xh.out.other (by have := Zw1.out; have := Zw2.out; have := Zw3.out; have := Zw4.out; have := Zw5.out; have := Lg.out; have := Lh.out; have := Ig.out; omega) _
  replace cg : w6.cell? ⟨w2.heap.size, 0, none⟩ = some (.slice (some ⟨bg, 0, none⟩) (ng + 1) kg) := Xg.out.cell
  replace ch : w6.cell? ⟨w4.heap.size, 0, none⟩ = some (.slice (some ⟨bh, 0, none⟩) (nh + 1) kh) := Xh.out.cell
  clear hw hbg
  obtain ⟨G, hL⟩ : ∃ L, L = top1 G0 := ⟨_, rfl⟩
  have Pg : Hid (G = top1 G0) := hL
  replace Og : Hid (wh.Own w6 w1.heap.size w2.heap.size (.slice (some ⟨bg, 0, none⟩) (ng + 1) kg) G) := by have e : G0.set ng 1 = G := (by rw [hL]; unfold top1; rw [Ng.out, Nat.add_sub_cancel]); rw [← e]; exact Og.out
  clear hL
  have hz : nh < H0l.length := by have := Nh.out; omega
  have ce := Oh.out.cell (k := nh) (at_some _ _ hz)
  have fe := Oh.out.free nh
  have cx := Xh.out.cell
  have hm : H0l.length ≤ 4 := Eh.out.2.1
  have hn4 : nh ≤ 3 := by have := Nh.out; omega
  clear hm
  have wn : (0 : Int) ≤ (nh : Int) := by omega
  have wn2 : (nh : Int) ≤ 3 := by omega
  go_upto_region 9 with fail
  clear ce fe cx hz wn wn2 hn4
  obtain ⟨w7, hw⟩ : ∃ x, x = w6.setCell ⟨bh, nh, none⟩ (.int .i64 1) := ⟨_, rfl⟩
  rw [← hw]
  have Zw7 : Hid (w6.heap.size ≤ w7.heap.size) := by show _ ≤ _; rw [hw]; simp
  have hbh : w.heap.size ≤ bh := by have := Zw1.out; have := Zw2.out; have := Zw3.out; have := Zw4.out; have := Zw5.out; have := Zw6.out; have := Lg.out; have := Lh.out; have := Ih.out; omega
  replace B0 : Hid (Below w.heap.size w w7) := by rw [hw]; exact B0.out.setCell hbh _
  replace Og : Hid (wh.Own w7 w1.heap.size w2.heap.size (.slice (some ⟨bg, 0, none⟩) (ng + 1) kg) G) := by rw [hw]; exact Og.out.other (by have := Zw1.out; have := Zw2.out; have := Zw3.out; have := Zw4.out; have := Zw5.out; have := Zw6.out; have := Lg.out; have := Lh.out; have := Ih.out; omega) _
  replace Oh : Hid (wh.Own w7 w3.heap.size w4.heap.size (.slice (some ⟨bh, 0, none⟩) (nh + 1) kh) (H0l.set nh 1)) := by rw [hw]; exact Oh.out.put _ _
  replace Xg : Hid (Bx w7 w2.heap.size (.slice (some ⟨bg, 0, none⟩) (ng + 1) kg)) := by rw [hw]; exact Xg.out.other (by have := Zw1.out; have := Zw2.out; have := Zw3.out; have := Zw4.out; have := Zw5.out; have := Zw6.out; have := Lg.out; have := Lh.out; have := Ih.out; omega) _
  replace Xh : Hid (Bx w7 w4.heap.size (.slice (some ⟨bh, 0, none⟩) (nh + 1) kh)) := by rw [hw]; exact Xh.out.other (by have := Zw1.out; have := Zw2.out; have := Zw3.out; have := Zw4.out; have := Zw5.out; have := Zw6.out; have := Lg.out; have := Lh.out; have := Ih.out; omega) _
  replace cg : w7.cell? ⟨w2.heap.size, 0, none⟩ = some (.slice (some ⟨bg, 0, none⟩) (ng + 1) kg) := Xg.out.cell
  replace ch : w7.cell? ⟨w4.heap.size, 0, none⟩ = some (.slice (some ⟨bh, 0, none⟩) (nh + 1) kh) := Xh.out.cell
  clear hw hbh
  obtain ⟨H, hL⟩ : ∃ L, L = top1 H0l := ⟨_, rfl⟩
  have Ph : Hid (H = top1 H0l) := hL
  replace Oh : Hid (wh.Own w7 w3.heap.size w4.heap.size (.slice (some ⟨bh, 0, none⟩) (nh + 1) kh) H) := by have e : H0l.set nh 1 = H := (by rw [hL]; unfold top1; rw [Nh.out, Nat.add_sub_cancel]); rw [← e]; exact Oh.out
  clear hL
  obtain ⟨np, hnp⟩ : ∃ np, np = ng + nh := ⟨_, rfl⟩
  have base : (G.length = ng + 1 ∧ H.length = nh + 1) ∧ (1 ≤ ng ∧ ng ≤ 3 ∧ 1 ≤ nh ∧ nh ≤ 3) ∧ fMulWholes.R G H = prod G H ∧ fMulWholes.ok G H = true ∧ (prod G H).length = np + 1 ∧ (∀ j, 0 ≤ at' (prod G H) j ∧ at' (prod G H) j ≤ 144) := draw_facts Eg.out Eh.out hpr7 Ng.out Nh.out Pg.out Ph.out hnp
  obtain ⟨⟨lG, lH⟩, ⟨ng1, ng3, nh1, nh3⟩, hR, hok, lP0, bP0⟩ := base
  obtain ⟨P0, hP0⟩ : ∃ P, P = prod G H := ⟨_, rfl⟩
  have HMul : Hid (∀ (w : World) (va vb : Value), Ls w va G → Ls w vb H → Calls Try.prog 21 #[.agg #[va], .agg #[vb]] w (AnsI P0 true w)) := fun w va vb h1 h2 => by
    have t := fMulWholes.spec_any (w := w) ⟨_, rfl, h1⟩ ⟨_, rfl, h2⟩
    rw [hR, hok, ← hP0] at t
    exact t
  rw [← hP0] at lP0 bP0
  have LP0 : Hid (P0.length = np + 1) := lP0
  have BP0 : Hid (∀ j, 0 ≤ at' P0 j ∧ at' P0 j ≤ 144) := bP0
  have LG : Hid (G.length = ng + 1) := lG
  have LH : Hid (H.length = nh + 1) := lH
  have NP : Hid (np = ng + nh) := hnp
  clear hR hok lG lH lP0 bP0 hP0 hnp
  have np6 : np ≤ 6 := by have := NP.out; omega
  go_wp2_with fail
  refine (HMul.out _ _ _ (Og.out.ls (by have := Zw3.out; have := Zw4.out; have := Zw5.out; have := Zw6.out; have := Zw7.out; omega)) (Oh.out.ls (by have := Zw5.out; have := Zw6.out; have := Zw7.out; omega))).mono ?_
  rintro e w8 ⟨_, rfl, ⟨_, rfl, o⟩, b⟩
  obtain ⟨bp, kp, rfl, lp, mp, _, _⟩ := o.block (fun e => by have := LP0.out; rw [e] at this; simp at this)
  rw [LP0.out] at o ⊢
  have Zw8 : Hid (w7.heap.size ≤ w8.heap.size) := b.size
  replace B0 : Hid (Below w.heap.size w w8) := B0.out.trans (b.mono B0.out.size)
  replace Og : Hid (wh.Own w8 w1.heap.size w2.heap.size (.slice (some ⟨bg, 0, none⟩) (ng + 1) kg) G) := Og.out.kept b
  replace Oh : Hid (wh.Own w8 w3.heap.size w4.heap.size (.slice (some ⟨bh, 0, none⟩) (nh + 1) kh) H) := Oh.out.kept b
  replace Xg : Hid (Bx w8 w2.heap.size (.slice (some ⟨bg, 0, none⟩) (ng + 1) kg)) := Xg.out.kept b
  replace Xh : Hid (Bx w8 w4.heap.size (.slice (some ⟨bh, 0, none⟩) (nh + 1) kh)) := Xh.out.kept b
  replace cg : w8.cell? ⟨w2.heap.size, 0, none⟩ = some (.slice (some ⟨bg, 0, none⟩) (ng + 1) kg) := Xg.out.cell
  replace ch : w8.cell? ⟨w4.heap.size, 0, none⟩ = some (.slice (some ⟨bh, 0, none⟩) (nh + 1) kh) := Xh.out.cell
  have Op : Hid (wh.Own w8 w7.heap.size w8.heap.size (.slice (some ⟨bp, 0, none⟩) (np + 1) kp) P0) := o
  have Ip : Hid (w7.heap.size ≤ bp ∧ bp < w8.heap.size) := ⟨lp, mp⟩
  clear o b lp mp
  have dg : (w8.alloc (.cells #[(.slice (some ⟨bp, 0, none⟩) (np + 1) kp)] 26)).cell? ⟨w2.heap.size, 0, none⟩ = some (.slice (some ⟨bg, 0, none⟩) (ng + 1) kg) := (Xg.out.alloc _).cell
  have dh : (w8.alloc (.cells #[(.slice (some ⟨bp, 0, none⟩) (np + 1) kp)] 26)).cell? ⟨w4.heap.size, 0, none⟩ = some (.slice (some ⟨bh, 0, none⟩) (nh + 1) kh) := (Xh.out.alloc _).cell
  go_wp2_with fail
  clear dg dh
  obtain ⟨w9, hw⟩ : ∃ x, x = w8.alloc (.cells #[(.slice (some ⟨bp, 0, none⟩) (np + 1) kp)] 26) := ⟨_, rfl⟩
  rw [← hw]
  have b : Below w8.heap.size w8 w9 := by rw [hw]; exact new1 _ _
  have x9 : Bx w9 w8.heap.size (.slice (some ⟨bp, 0, none⟩) (np + 1) kp) := by rw [hw]; exact Bx.new _ _ _
  have Zw9 : Hid (w8.heap.size ≤ w9.heap.size) := b.size
  replace B0 : Hid (Below w.heap.size w w9) := B0.out.trans (b.mono B0.out.size)
  replace Og : Hid (wh.Own w9 w1.heap.size w2.heap.size (.slice (some ⟨bg, 0, none⟩) (ng + 1) kg) G) := Og.out.kept b
  replace Oh : Hid (wh.Own w9 w3.heap.size w4.heap.size (.slice (some ⟨bh, 0, none⟩) (nh + 1) kh) H) := Oh.out.kept b
  replace Op : Hid (wh.Own w9 w7.heap.size w8.heap.size (.slice (some ⟨bp, 0, none⟩) (np + 1) kp) P0) := Op.out.kept b
  replace Xg : Hid (Bx w9 w2.heap.size (.slice (some ⟨bg, 0, none⟩) (ng + 1) kg)) := Xg.out.kept b
  replace Xh : Hid (Bx w9 w4.heap.size (.slice (some ⟨bh, 0, none⟩) (nh + 1) kh)) := Xh.out.kept b
  replace cg : w9.cell? ⟨w2.heap.size, 0, none⟩ = some (.slice (some ⟨bg, 0, none⟩) (ng + 1) kg) := Xg.out.cell
  replace ch : w9.cell? ⟨w4.heap.size, 0, none⟩ = some (.slice (some ⟨bh, 0, none⟩) (nh + 1) kh) := Xh.out.cell
  have Xp : Hid (Bx w9 w8.heap.size (.slice (some ⟨bp, 0, none⟩) (np + 1) kp)) := x9
  have cp : w9.cell? ⟨w8.heap.size, 0, none⟩ = some (.slice (some ⟨bp, 0, none⟩) (np + 1) kp) := Xp.out.cell
  have Lp : Hid (w8.heap.size < w9.heap.size) := Xp.out.lt
  clear b hw x9
  go_loopw [11] (fun i wr => ∃ (j : Nat) (Pk : List Int), j ≤ np ∧ i = .int .i64 j ∧ Hid (wh.Own wr w7.heap.size w8.heap.size (.slice (some ⟨bp, 0, none⟩) (np + 1) kp) Pk) ∧ Hid (∀ m, j ≤ m → at' Pk m = at' P0 m) ∧ Hid (inR (-200) 200 Pk) ∧ Hid (Pk.length = np + 1) ∧ Hid (Turned w7.heap.size w8.heap.size w9 wr)) (fun i _ => np - (intOf i).toNat)
  case atStart => exact ⟨0, P0, by omega, rfl, Op.out, fun _ _ => rfl, inR_of fun m z _ hz => by have := BP0.out m; rw [at_get hz] at this; omega, LP0.out, Turned.refl _ _ _⟩
  case round =>
    obtain ⟨j, Pk, hj, rfl, hO, hE, hI, hL, hT⟩ := hrel
    have Xq := Xp.out.turned hT.out (.inr (Nat.le_refl _))
    have cq := Xq.cell
    by_cases hlt : j < np
    · have hz : at' Pk j = at' P0 j := hE.out j (Nat.le_refl _)
      have bz := BP0.out j
      rw [← hz] at bz
      have ce := hO.out.cell (k := j) (at_some _ _ (by have := hL.out; omega))
      have fe := hO.out.free j
      have BR : Hid (Below w.heap.size w wr) := B0.out.trans (hT.out.below (by have := Zw1.out; have := Zw2.out; have := Zw3.out; have := Zw4.out; have := Zw5.out; have := Zw6.out; have := Zw7.out; have := Zw8.out; have := Zw9.out; have := Lg.out; have := Lh.out; have := Lp.out; omega) (by have := Zw1.out; have := Zw2.out; have := Zw3.out; have := Zw4.out; have := Zw5.out; have := Zw6.out; have := Zw7.out; have := Zw8.out; have := Zw9.out; have := Lg.out; have := Lh.out; have := Lp.out; omega))
      obtain ⟨r, hr0, hr1, cr⟩ := at_any (w := wr.drew) (H0.out.below BR.out.drew).1 ((j : Int) + 7) 9 (by omega) (by omega) (by omega) (by omega)
      obtain ⟨z, hzz⟩ : ∃ z, z = at' Pk j := ⟨_, rfl⟩
      rw [← hzz] at ce bz
      have hm := mul_le (a := pr) (b := r - 4) (A := 7) (B := 4) (by omega) (by omega)
      have HZ : Hid (z = at' Pk j) := hzz
      have CR : Hid (Calls Try.prog 19 #[.slice vo0 vn0 vc0, .int .i64 ((j : Int) + 7), .int .i64 9] wr.drew fun e w' => e = .returned (.int .i64 r) ∧ wr.drew = w') := cr
      clear hzz hz cr
      have u1 : IntKind.i64.wrap ((j : Int) + 7) = (j : Int) + 7 := IntWalk.i64_in _ (by omega)
      have u2 : IntKind.i64.wrap (r - 4) = r - 4 := IntWalk.i64_in _ (by omega)
      have u3 : IntKind.i64.wrap (pr * (r - 4)) = pr * (r - 4) := IntWalk.i64_in _ (by omega)
      have u4 : IntKind.i64.wrap (z + pr * (r - 4)) = z + pr * (r - 4) := IntWalk.i64_in _ (by omega)
      have hst := store_int (b := z + pr * (r - 4)) (show wr.drew.cell? _ = _ from ce) (show wr.drew.frozen? _ = _ from fe)
      have d5 : (j : Int) < (np : Int) + 1 := by omega
      have d6 : (0 : Int) ≤ (j : Int) := by omega
      have d7 : j < np + 1 := by omega
      go_wp2_with fail
      go_region_law (first | (go_simp; go_at_call 19; refine CR.out.mono ?_; rintro e w0 ⟨rfl, hw0⟩; rw [← hw0]; clear hw0))
      all_goals
        go_wp2_with fail
        go_roundw
        case rel => exact ⟨j + 1, Pk.set j (z + pr * (r - 4)), by omega, by go_num, (hO.out.kept (Below.refl _ _).drew).put _ _, fun m hm9 => by rw [setAt _ _ _ _ (by have := hL.out; omega), if_neg (by omega)]; exact hE.out m (by omega), inR_set hI.out (by omega), by show _ = _; rw [List.length_set]; exact hL.out, (turned_drew hT.out).setCell (by have := hO.out; exact own_lo this) (own_hi hO.out) _⟩
        case measure => simp [intOf]; omega
    · obtain rfl : np = j := by omega
      have Zwr : Hid (w9.heap.size ≤ wr.heap.size) := hT.out.size
      replace B0 : Hid (Below w.heap.size w wr) := B0.out.trans (hT.out.below (by have := Zw1.out; have := Zw2.out; have := Zw3.out; have := Zw4.out; have := Zw5.out; have := Zw6.out; have := Zw7.out; have := Zw8.out; have := Zw9.out; have := Lg.out; have := Lh.out; have := Lp.out; omega) (by have := Zw1.out; have := Zw2.out; have := Zw3.out; have := Zw4.out; have := Zw5.out; have := Zw6.out; have := Zw7.out; have := Zw8.out; have := Zw9.out; have := Lg.out; have := Lh.out; have := Lp.out; omega))
      replace Og : Hid (wh.Own wr w1.heap.size w2.heap.size (.slice (some ⟨bg, 0, none⟩) (ng + 1) kg) G) := Og.out.turned hT.out (.inl (by have := Zw1.out; have := Zw2.out; have := Zw3.out; have := Zw4.out; have := Zw5.out; have := Zw6.out; have := Zw7.out; have := Zw8.out; have := Zw9.out; have := Lg.out; have := Lh.out; have := Lp.out; omega))
      replace Oh : Hid (wh.Own wr w3.heap.size w4.heap.size (.slice (some ⟨bh, 0, none⟩) (nh + 1) kh) H) := Oh.out.turned hT.out (.inl (by have := Zw1.out; have := Zw2.out; have := Zw3.out; have := Zw4.out; have := Zw5.out; have := Zw6.out; have := Zw7.out; have := Zw8.out; have := Zw9.out; have := Lg.out; have := Lh.out; have := Lp.out; omega))
      replace Op : Hid (wh.Own wr w7.heap.size w8.heap.size (.slice (some ⟨bp, 0, none⟩) (np + 1) kp) Pk) := hO.out
      replace Xg : Hid (Bx wr w2.heap.size (.slice (some ⟨bg, 0, none⟩) (ng + 1) kg)) := Xg.out.turned hT.out (by have := Zw1.out; have := Zw2.out; have := Zw3.out; have := Zw4.out; have := Zw5.out; have := Zw6.out; have := Zw7.out; have := Zw8.out; have := Zw9.out; have := Lg.out; have := Lh.out; have := Lp.out; omega)
      replace Xh : Hid (Bx wr w4.heap.size (.slice (some ⟨bh, 0, none⟩) (nh + 1) kh)) := Xh.out.turned hT.out (by have := Zw1.out; have := Zw2.out; have := Zw3.out; have := Zw4.out; have := Zw5.out; have := Zw6.out; have := Zw7.out; have := Zw8.out; have := Zw9.out; have := Lg.out; have := Lh.out; have := Lp.out; omega)
      replace Xp : Hid (Bx wr w8.heap.size (.slice (some ⟨bp, 0, none⟩) (np + 1) kp)) := Xp.out.turned hT.out (by have := Zw1.out; have := Zw2.out; have := Zw3.out; have := Zw4.out; have := Zw5.out; have := Zw6.out; have := Zw7.out; have := Zw8.out; have := Zw9.out; have := Lg.out; have := Lh.out; have := Lp.out; omega)
      replace cg : wr.cell? ⟨w2.heap.size, 0, none⟩ = some (.slice (some ⟨bg, 0, none⟩) (ng + 1) kg) := Xg.out.cell
      replace ch : wr.cell? ⟨w4.heap.size, 0, none⟩ = some (.slice (some ⟨bh, 0, none⟩) (nh + 1) kh) := Xh.out.cell
      replace cp : wr.cell? ⟨w8.heap.size, 0, none⟩ = some (.slice (some ⟨bp, 0, none⟩) (np + 1) kp) := Xp.out.cell
      clear Xq cq hT hO hE HMul hlt hj
      have bpw : (Lit.int .i64 pr).wf = true := by simp [Lit.wf, IntKind.min, IntKind.max, IntKind.signed, IntKind.bits]; omega
      obtain ⟨okv, hok⟩ : ∃ b, b = fLiftPair.ok Pk G H pr := ⟨_, rfl⟩
      obtain ⟨U, hU⟩ : ∃ b, b = fLiftPair.R Pk G H pr := ⟨_, rfl⟩
      obtain ⟨V, hV⟩ : ∃ b, b = fLiftPair.R2 Pk G H pr := ⟨_, rfl⟩
      have HS : Hid (∀ (w : World) (va vb vc : Value), Ls w va Pk → Ls w vb G → Ls w vc H → Calls Try.prog 7 #[.agg #[va], .agg #[vb], .agg #[vc], .int .i64 pr] w (Ans2S U V okv w)) := fun w va vb vc h1 h2 h3 => by
        rw [hok, hU, hV]; exact fLiftPair.spec_any ⟨_, rfl, h1⟩ ⟨_, rfl, h2⟩ ⟨_, rfl, h3⟩ pr bpw
      have HI : Hid (∀ (w : World) (va vb vc : Value), Ls w va Pk → Ls w vb G → Ls w vc H → Calls Try.prog 9 #[.agg #[va], .agg #[vb], .agg #[vc], .int .i64 pr] w (Ans2S U V okv w)) := fun w va vb vc h1 h2 h3 => by
        rw [hok, hU, hV]; exact (fLiftPair.impl_any ⟨_, rfl, h1⟩ ⟨_, rfl, h2⟩ ⟨_, rfl, h3⟩ pr bpw).mono fun _ _ h => h.s
      have HOK : Hid (okv = fLiftPair.ok Pk G H pr) := hok
      have HU : Hid (U = fLiftPair.R Pk G H pr) := hU
      have HV : Hid (V = fLiftPair.R2 Pk G H pr) := hV
      clear hok hU hV bpw
      go_wp2_with fail
      refine (HS.out _ _ _ _ (Op.out.ls (by have := Zw9.out; have := Zwr.out; omega)) (Og.out.ls (by have := Zw3.out; have := Zw4.out; have := Zw5.out; have := Zw6.out; have := Zw7.out; have := Zw8.out; have := Zw9.out; have := Zwr.out; omega)) (Oh.out.ls (by have := Zw5.out; have := Zw6.out; have := Zw7.out; have := Zw8.out; have := Zw9.out; have := Zwr.out; omega))).mono ?_
      rintro e w10 ⟨_, _, rfl, ⟨_, rfl, o0⟩, ⟨_, rfl, o1⟩, b⟩
      obtain ⟨ax, kx, rfl⟩ := o0.shape
      obtain ⟨ay, ky, rfl⟩ := o1.shape
      have Zw10 : Hid (wr.heap.size ≤ w10.heap.size) := b.size
      replace B0 : Hid (Below w.heap.size w w10) := B0.out.trans (b.mono B0.out.size)
      replace Og : Hid (wh.Own w10 w1.heap.size w2.heap.size (.slice (some ⟨bg, 0, none⟩) (ng + 1) kg) G) := Og.out.kept b
      replace Oh : Hid (wh.Own w10 w3.heap.size w4.heap.size (.slice (some ⟨bh, 0, none⟩) (nh + 1) kh) H) := Oh.out.kept b
      replace Op : Hid (wh.Own w10 w7.heap.size w8.heap.size (.slice (some ⟨bp, 0, none⟩) (np + 1) kp) Pk) := Op.out.kept b
      replace Xg : Hid (Bx w10 w2.heap.size (.slice (some ⟨bg, 0, none⟩) (ng + 1) kg)) := Xg.out.kept b
      replace Xh : Hid (Bx w10 w4.heap.size (.slice (some ⟨bh, 0, none⟩) (nh + 1) kh)) := Xh.out.kept b
      replace Xp : Hid (Bx w10 w8.heap.size (.slice (some ⟨bp, 0, none⟩) (np + 1) kp)) := Xp.out.kept b
      replace cg : w10.cell? ⟨w2.heap.size, 0, none⟩ = some (.slice (some ⟨bg, 0, none⟩) (ng + 1) kg) := Xg.out.cell
      replace ch : w10.cell? ⟨w4.heap.size, 0, none⟩ = some (.slice (some ⟨bh, 0, none⟩) (nh + 1) kh) := Xh.out.cell
      replace cp : w10.cell? ⟨w8.heap.size, 0, none⟩ = some (.slice (some ⟨bp, 0, none⟩) (np + 1) kp) := Xp.out.cell
      have Ox : Hid (wh.Own w10 wr.heap.size w10.heap.size (.slice ax U.length kx) U) := o0
      have Oy : Hid (wh.Own w10 wr.heap.size w10.heap.size (.slice ay V.length ky) V) := o1
      clear b o0 o1
      have dg : ((w10.alloc (.cells #[(.slice ax U.length kx)] 26)).alloc (.cells #[(.slice ay V.length ky)] 26)).cell? ⟨w2.heap.size, 0, none⟩ = some (.slice (some ⟨bg, 0, none⟩) (ng + 1) kg) := ((Xg.out.alloc _).alloc _).cell
      have dh : ((w10.alloc (.cells #[(.slice ax U.length kx)] 26)).alloc (.cells #[(.slice ay V.length ky)] 26)).cell? ⟨w4.heap.size, 0, none⟩ = some (.slice (some ⟨bh, 0, none⟩) (nh + 1) kh) := ((Xh.out.alloc _).alloc _).cell
      have dp : ((w10.alloc (.cells #[(.slice ax U.length kx)] 26)).alloc (.cells #[(.slice ay V.length ky)] 26)).cell? ⟨w8.heap.size, 0, none⟩ = some (.slice (some ⟨bp, 0, none⟩) (np + 1) kp) := ((Xp.out.alloc _).alloc _).cell
      go_wp2_with fail
      clear dg dh dp
      obtain ⟨w11, hw⟩ : ∃ x, x = (w10.alloc (.cells #[(.slice ax U.length kx)] 26)).alloc (.cells #[(.slice ay V.length ky)] 26) := ⟨_, rfl⟩
      rw [← hw]
      have b : Below w10.heap.size w10 w11 := by rw [hw]; exact new2 _ _ _
      have x9 : Bx w11 w10.heap.size (.slice ax U.length kx) := by rw [hw]; exact (Bx.new _ _ _).alloc _
      have y9 : Bx w11 (w10.heap.size + 1) (.slice ay V.length ky) := by rw [hw]; exact Bx.new2 _ _ _ _
      have Zw11 : Hid (w10.heap.size ≤ w11.heap.size) := b.size
      replace B0 : Hid (Below w.heap.size w w11) := B0.out.trans (b.mono B0.out.size)
      replace Og : Hid (wh.Own w11 w1.heap.size w2.heap.size (.slice (some ⟨bg, 0, none⟩) (ng + 1) kg) G) := Og.out.kept b
      replace Oh : Hid (wh.Own w11 w3.heap.size w4.heap.size (.slice (some ⟨bh, 0, none⟩) (nh + 1) kh) H) := Oh.out.kept b
      replace Op : Hid (wh.Own w11 w7.heap.size w8.heap.size (.slice (some ⟨bp, 0, none⟩) (np + 1) kp) Pk) := Op.out.kept b
      replace Ox : Hid (wh.Own w11 wr.heap.size w10.heap.size (.slice ax U.length kx) U) := Ox.out.kept b
      replace Oy : Hid (wh.Own w11 wr.heap.size w10.heap.size (.slice ay V.length ky) V) := Oy.out.kept b
      replace Xg : Hid (Bx w11 w2.heap.size (.slice (some ⟨bg, 0, none⟩) (ng + 1) kg)) := Xg.out.kept b
      replace Xh : Hid (Bx w11 w4.heap.size (.slice (some ⟨bh, 0, none⟩) (nh + 1) kh)) := Xh.out.kept b
      replace Xp : Hid (Bx w11 w8.heap.size (.slice (some ⟨bp, 0, none⟩) (np + 1) kp)) := Xp.out.kept b
      replace cg : w11.cell? ⟨w2.heap.size, 0, none⟩ = some (.slice (some ⟨bg, 0, none⟩) (ng + 1) kg) := Xg.out.cell
      replace ch : w11.cell? ⟨w4.heap.size, 0, none⟩ = some (.slice (some ⟨bh, 0, none⟩) (nh + 1) kh) := Xh.out.cell
      replace cp : w11.cell? ⟨w8.heap.size, 0, none⟩ = some (.slice (some ⟨bp, 0, none⟩) (np + 1) kp) := Xp.out.cell
      have Xx : Hid (Bx w11 w10.heap.size (.slice ax U.length kx)) := x9
      have cx : w11.cell? ⟨w10.heap.size, 0, none⟩ = some (.slice ax U.length kx) := Xx.out.cell
      have Lx : Hid (w10.heap.size < w11.heap.size) := Xx.out.lt
      have Xy : Hid (Bx w11 (w10.heap.size + 1) (.slice ay V.length ky)) := y9
      have cy : w11.cell? ⟨(w10.heap.size + 1), 0, none⟩ = some (.slice ay V.length ky) := Xy.out.cell
      have Ly : Hid ((w10.heap.size + 1) < w11.heap.size) := Xy.out.lt
      clear b hw x9 y9
      clear Ox Oy Xx Xy cx cy Lx Ly
      cases okv with
      | false =>
        refine (HI.out _ _ _ _ (Op.out.ls (by have := Zw9.out; have := Zwr.out; have := Zw10.out; have := Zw11.out; omega)) (Og.out.ls (by have := Zw3.out; have := Zw4.out; have := Zw5.out; have := Zw6.out; have := Zw7.out; have := Zw8.out; have := Zw9.out; have := Zwr.out; have := Zw10.out; have := Zw11.out; omega)) (Oh.out.ls (by have := Zw5.out; have := Zw6.out; have := Zw7.out; have := Zw8.out; have := Zw9.out; have := Zwr.out; have := Zw10.out; have := Zw11.out; omega))).mono ?_
        rintro e w12 ⟨_, _, rfl, ⟨_, rfl, o0⟩, ⟨_, rfl, o1⟩, b⟩
        obtain ⟨au, ku, rfl⟩ := o0.shape
        obtain ⟨av, kv, rfl⟩ := o1.shape
        have Zw12 : Hid (w11.heap.size ≤ w12.heap.size) := b.size
        replace B0 : Hid (Below w.heap.size w w12) := B0.out.trans (b.mono B0.out.size)
        replace Og : Hid (wh.Own w12 w1.heap.size w2.heap.size (.slice (some ⟨bg, 0, none⟩) (ng + 1) kg) G) := Og.out.kept b
        replace Oh : Hid (wh.Own w12 w3.heap.size w4.heap.size (.slice (some ⟨bh, 0, none⟩) (nh + 1) kh) H) := Oh.out.kept b
        replace Op : Hid (wh.Own w12 w7.heap.size w8.heap.size (.slice (some ⟨bp, 0, none⟩) (np + 1) kp) Pk) := Op.out.kept b
        replace Xg : Hid (Bx w12 w2.heap.size (.slice (some ⟨bg, 0, none⟩) (ng + 1) kg)) := Xg.out.kept b
        replace Xh : Hid (Bx w12 w4.heap.size (.slice (some ⟨bh, 0, none⟩) (nh + 1) kh)) := Xh.out.kept b
        replace Xp : Hid (Bx w12 w8.heap.size (.slice (some ⟨bp, 0, none⟩) (np + 1) kp)) := Xp.out.kept b
        replace cg : w12.cell? ⟨w2.heap.size, 0, none⟩ = some (.slice (some ⟨bg, 0, none⟩) (ng + 1) kg) := Xg.out.cell
        replace ch : w12.cell? ⟨w4.heap.size, 0, none⟩ = some (.slice (some ⟨bh, 0, none⟩) (nh + 1) kh) := Xh.out.cell
        replace cp : w12.cell? ⟨w8.heap.size, 0, none⟩ = some (.slice (some ⟨bp, 0, none⟩) (np + 1) kp) := Xp.out.cell
        have Ou : Hid (wh.Own w12 w11.heap.size w12.heap.size (.slice au U.length ku) U) := o0
        have Ov : Hid (wh.Own w12 w11.heap.size w12.heap.size (.slice av V.length kv) V) := o1
        clear b o0 o1
        have dg : ((w12.alloc (.cells #[(.slice au U.length ku)] 26)).alloc (.cells #[(.slice av V.length kv)] 26)).cell? ⟨w2.heap.size, 0, none⟩ = some (.slice (some ⟨bg, 0, none⟩) (ng + 1) kg) := ((Xg.out.alloc _).alloc _).cell
        have dh : ((w12.alloc (.cells #[(.slice au U.length ku)] 26)).alloc (.cells #[(.slice av V.length kv)] 26)).cell? ⟨w4.heap.size, 0, none⟩ = some (.slice (some ⟨bh, 0, none⟩) (nh + 1) kh) := ((Xh.out.alloc _).alloc _).cell
        have dp : ((w12.alloc (.cells #[(.slice au U.length ku)] 26)).alloc (.cells #[(.slice av V.length kv)] 26)).cell? ⟨w8.heap.size, 0, none⟩ = some (.slice (some ⟨bp, 0, none⟩) (np + 1) kp) := ((Xp.out.alloc _).alloc _).cell
        go_wp2_with fail
        clear dg dh dp
        obtain ⟨w13, hw⟩ : ∃ x, x = (w12.alloc (.cells #[(.slice au U.length ku)] 26)).alloc (.cells #[(.slice av V.length kv)] 26) := ⟨_, rfl⟩
        rw [← hw]
        have b : Below w12.heap.size w12 w13 := by rw [hw]; exact new2 _ _ _
        have x9 : Bx w13 w12.heap.size (.slice au U.length ku) := by rw [hw]; exact (Bx.new _ _ _).alloc _
        have y9 : Bx w13 (w12.heap.size + 1) (.slice av V.length kv) := by rw [hw]; exact Bx.new2 _ _ _ _
        have Zw13 : Hid (w12.heap.size ≤ w13.heap.size) := b.size
        replace B0 : Hid (Below w.heap.size w w13) := B0.out.trans (b.mono B0.out.size)
        replace Og : Hid (wh.Own w13 w1.heap.size w2.heap.size (.slice (some ⟨bg, 0, none⟩) (ng + 1) kg) G) := Og.out.kept b
        replace Oh : Hid (wh.Own w13 w3.heap.size w4.heap.size (.slice (some ⟨bh, 0, none⟩) (nh + 1) kh) H) := Oh.out.kept b
        replace Op : Hid (wh.Own w13 w7.heap.size w8.heap.size (.slice (some ⟨bp, 0, none⟩) (np + 1) kp) Pk) := Op.out.kept b
        replace Ou : Hid (wh.Own w13 w11.heap.size w12.heap.size (.slice au U.length ku) U) := Ou.out.kept b
        replace Ov : Hid (wh.Own w13 w11.heap.size w12.heap.size (.slice av V.length kv) V) := Ov.out.kept b
        replace Xg : Hid (Bx w13 w2.heap.size (.slice (some ⟨bg, 0, none⟩) (ng + 1) kg)) := Xg.out.kept b
        replace Xh : Hid (Bx w13 w4.heap.size (.slice (some ⟨bh, 0, none⟩) (nh + 1) kh)) := Xh.out.kept b
        replace Xp : Hid (Bx w13 w8.heap.size (.slice (some ⟨bp, 0, none⟩) (np + 1) kp)) := Xp.out.kept b
        replace cg : w13.cell? ⟨w2.heap.size, 0, none⟩ = some (.slice (some ⟨bg, 0, none⟩) (ng + 1) kg) := Xg.out.cell
        replace ch : w13.cell? ⟨w4.heap.size, 0, none⟩ = some (.slice (some ⟨bh, 0, none⟩) (nh + 1) kh) := Xh.out.cell
        replace cp : w13.cell? ⟨w8.heap.size, 0, none⟩ = some (.slice (some ⟨bp, 0, none⟩) (np + 1) kp) := Xp.out.cell
        have Xu : Hid (Bx w13 w12.heap.size (.slice au U.length ku)) := x9
        have cu : w13.cell? ⟨w12.heap.size, 0, none⟩ = some (.slice au U.length ku) := Xu.out.cell
        have Lu : Hid (w12.heap.size < w13.heap.size) := Xu.out.lt
        have Xv : Hid (Bx w13 (w12.heap.size + 1) (.slice av V.length kv)) := y9
        have cv : w13.cell? ⟨(w12.heap.size + 1), 0, none⟩ = some (.slice av V.length kv) := Xv.out.cell
        have Lv : Hid ((w12.heap.size + 1) < w13.heap.size) := Xv.out.lt
        clear b hw x9 y9
        go_ret
        exact ⟨rfl, B0.out⟩
      | true =>
      obtain ⟨lU, lV, lUV, ⟨g2, h2⟩, hUr, hVr, mR, mok, bUV, hUV⟩ := lifted_read (P := Pk) (G := G) (H := H) (p := pr) HOK.out.symm (by omega) (by have := LG.out; omega) (by have := LH.out; omega) HU.out HV.out
      obtain ⟨Q, hQ⟩ : ∃ Q, Q = prod U V := ⟨_, rfl⟩
      rw [← hQ] at lUV bUV hUV mR
      have HMul : Hid (∀ (w : World) (va vb : Value), Ls w va U → Ls w vb V → Calls Try.prog 21 #[.agg #[va], .agg #[vb]] w (AnsI Q true w)) := fun w va vb h1 h2 => by
        have t := fMulWholes.spec_any (w := w) ⟨_, rfl, h1⟩ ⟨_, rfl, h2⟩
        rw [mR, mok] at t
        exact t
      have LQ : Hid (Q.length = np + 1) := by show _ = _; rw [lUV]; exact hL.out
      have LU : Hid (U.length = ng + 1) := by show _ = _; rw [lU]; exact LG.out
      have LV : Hid (V.length = nh + 1) := by show _ = _; rw [lV]; exact LH.out
      rw [LG.out] at hUr
      rw [LH.out] at hVr
      have HUr : Hid _ := hUr
      have HVr : Hid _ := hVr
      have BUV : Hid _ := bUV
      have HUV : Hid _ := hUV
      clear lU lV lUV g2 h2 hUr hVr mR mok bUV hUV HOK HU HV hQ HS
      refine (HI.out _ _ _ _ (Op.out.ls (by have := Zw9.out; have := Zwr.out; have := Zw10.out; have := Zw11.out; omega)) (Og.out.ls (by have := Zw3.out; have := Zw4.out; have := Zw5.out; have := Zw6.out; have := Zw7.out; have := Zw8.out; have := Zw9.out; have := Zwr.out; have := Zw10.out; have := Zw11.out; omega)) (Oh.out.ls (by have := Zw5.out; have := Zw6.out; have := Zw7.out; have := Zw8.out; have := Zw9.out; have := Zwr.out; have := Zw10.out; have := Zw11.out; omega))).mono ?_
      rintro e w12 ⟨_, _, rfl, ⟨_, rfl, o0⟩, ⟨_, rfl, o1⟩, b⟩
      obtain ⟨bu, ku, rfl, lu, mu, _, _⟩ := o0.block (fun e => by have := LU.out; rw [e] at this; simp at this)
      rw [LU.out] at o0 ⊢
      obtain ⟨bv, kv, rfl, lv, mv, _, _⟩ := o1.block (fun e => by have := LV.out; rw [e] at this; simp at this)
      rw [LV.out] at o1 ⊢
      have Zw12 : Hid (w11.heap.size ≤ w12.heap.size) := b.size
      replace B0 : Hid (Below w.heap.size w w12) := B0.out.trans (b.mono B0.out.size)
      replace Og : Hid (wh.Own w12 w1.heap.size w2.heap.size (.slice (some ⟨bg, 0, none⟩) (ng + 1) kg) G) := Og.out.kept b
      replace Oh : Hid (wh.Own w12 w3.heap.size w4.heap.size (.slice (some ⟨bh, 0, none⟩) (nh + 1) kh) H) := Oh.out.kept b
      replace Op : Hid (wh.Own w12 w7.heap.size w8.heap.size (.slice (some ⟨bp, 0, none⟩) (np + 1) kp) Pk) := Op.out.kept b
      replace Xg : Hid (Bx w12 w2.heap.size (.slice (some ⟨bg, 0, none⟩) (ng + 1) kg)) := Xg.out.kept b
      replace Xh : Hid (Bx w12 w4.heap.size (.slice (some ⟨bh, 0, none⟩) (nh + 1) kh)) := Xh.out.kept b
      replace Xp : Hid (Bx w12 w8.heap.size (.slice (some ⟨bp, 0, none⟩) (np + 1) kp)) := Xp.out.kept b
      replace cg : w12.cell? ⟨w2.heap.size, 0, none⟩ = some (.slice (some ⟨bg, 0, none⟩) (ng + 1) kg) := Xg.out.cell
      replace ch : w12.cell? ⟨w4.heap.size, 0, none⟩ = some (.slice (some ⟨bh, 0, none⟩) (nh + 1) kh) := Xh.out.cell
      replace cp : w12.cell? ⟨w8.heap.size, 0, none⟩ = some (.slice (some ⟨bp, 0, none⟩) (np + 1) kp) := Xp.out.cell
      have Ou : Hid (wh.Own w12 w11.heap.size w12.heap.size (.slice (some ⟨bu, 0, none⟩) (ng + 1) ku) U) := o0
      have Ov : Hid (wh.Own w12 w11.heap.size w12.heap.size (.slice (some ⟨bv, 0, none⟩) (nh + 1) kv) V) := o1
      clear b o0 o1 lu mu lv mv HI
      have hpp : pr * pr ≤ 49 ∧ 4 ≤ pr * pr := by
        have := Int.mul_le_mul_of_nonneg_left hpr7.2 (by omega : (0 : Int) ≤ pr)
        have := Int.mul_le_mul_of_nonneg_left hpr7.1 (by omega : (0 : Int) ≤ pr)
        omega
      have dg : ((w12.alloc (.cells #[(.slice (some ⟨bu, 0, none⟩) (ng + 1) ku)] 26)).alloc (.cells #[(.slice (some ⟨bv, 0, none⟩) (nh + 1) kv)] 26)).cell? ⟨w2.heap.size, 0, none⟩ = some (.slice (some ⟨bg, 0, none⟩) (ng + 1) kg) := ((Xg.out.alloc _).alloc _).cell
      have dh : ((w12.alloc (.cells #[(.slice (some ⟨bu, 0, none⟩) (ng + 1) ku)] 26)).alloc (.cells #[(.slice (some ⟨bv, 0, none⟩) (nh + 1) kv)] 26)).cell? ⟨w4.heap.size, 0, none⟩ = some (.slice (some ⟨bh, 0, none⟩) (nh + 1) kh) := ((Xh.out.alloc _).alloc _).cell
      have dp : ((w12.alloc (.cells #[(.slice (some ⟨bu, 0, none⟩) (ng + 1) ku)] 26)).alloc (.cells #[(.slice (some ⟨bv, 0, none⟩) (nh + 1) kv)] 26)).cell? ⟨w8.heap.size, 0, none⟩ = some (.slice (some ⟨bp, 0, none⟩) (np + 1) kp) := ((Xp.out.alloc _).alloc _).cell
      go_wp2_with fail
      clear dg dh dp
      obtain ⟨w13, hw⟩ : ∃ x, x = (w12.alloc (.cells #[(.slice (some ⟨bu, 0, none⟩) (ng + 1) ku)] 26)).alloc (.cells #[(.slice (some ⟨bv, 0, none⟩) (nh + 1) kv)] 26) := ⟨_, rfl⟩
      rw [← hw]
      have b : Below w12.heap.size w12 w13 := by rw [hw]; exact new2 _ _ _
      have x9 : Bx w13 w12.heap.size (.slice (some ⟨bu, 0, none⟩) (ng + 1) ku) := by rw [hw]; exact (Bx.new _ _ _).alloc _
      have y9 : Bx w13 (w12.heap.size + 1) (.slice (some ⟨bv, 0, none⟩) (nh + 1) kv) := by rw [hw]; exact Bx.new2 _ _ _ _
      have Zw13 : Hid (w12.heap.size ≤ w13.heap.size) := b.size
      replace B0 : Hid (Below w.heap.size w w13) := B0.out.trans (b.mono B0.out.size)
      replace Og : Hid (wh.Own w13 w1.heap.size w2.heap.size (.slice (some ⟨bg, 0, none⟩) (ng + 1) kg) G) := Og.out.kept b
      replace Oh : Hid (wh.Own w13 w3.heap.size w4.heap.size (.slice (some ⟨bh, 0, none⟩) (nh + 1) kh) H) := Oh.out.kept b
      replace Op : Hid (wh.Own w13 w7.heap.size w8.heap.size (.slice (some ⟨bp, 0, none⟩) (np + 1) kp) Pk) := Op.out.kept b
      replace Ou : Hid (wh.Own w13 w11.heap.size w12.heap.size (.slice (some ⟨bu, 0, none⟩) (ng + 1) ku) U) := Ou.out.kept b
      replace Ov : Hid (wh.Own w13 w11.heap.size w12.heap.size (.slice (some ⟨bv, 0, none⟩) (nh + 1) kv) V) := Ov.out.kept b
      replace Xg : Hid (Bx w13 w2.heap.size (.slice (some ⟨bg, 0, none⟩) (ng + 1) kg)) := Xg.out.kept b
      replace Xh : Hid (Bx w13 w4.heap.size (.slice (some ⟨bh, 0, none⟩) (nh + 1) kh)) := Xh.out.kept b
      replace Xp : Hid (Bx w13 w8.heap.size (.slice (some ⟨bp, 0, none⟩) (np + 1) kp)) := Xp.out.kept b
      replace cg : w13.cell? ⟨w2.heap.size, 0, none⟩ = some (.slice (some ⟨bg, 0, none⟩) (ng + 1) kg) := Xg.out.cell
      replace ch : w13.cell? ⟨w4.heap.size, 0, none⟩ = some (.slice (some ⟨bh, 0, none⟩) (nh + 1) kh) := Xh.out.cell
      replace cp : w13.cell? ⟨w8.heap.size, 0, none⟩ = some (.slice (some ⟨bp, 0, none⟩) (np + 1) kp) := Xp.out.cell
      have Xu : Hid (Bx w13 w12.heap.size (.slice (some ⟨bu, 0, none⟩) (ng + 1) ku)) := x9
      have cu : w13.cell? ⟨w12.heap.size, 0, none⟩ = some (.slice (some ⟨bu, 0, none⟩) (ng + 1) ku) := Xu.out.cell
      have Lu : Hid (w12.heap.size < w13.heap.size) := Xu.out.lt
      have Xv : Hid (Bx w13 (w12.heap.size + 1) (.slice (some ⟨bv, 0, none⟩) (nh + 1) kv)) := y9
      have cv : w13.cell? ⟨(w12.heap.size + 1), 0, none⟩ = some (.slice (some ⟨bv, 0, none⟩) (nh + 1) kv) := Xv.out.cell
      have Lv : Hid ((w12.heap.size + 1) < w13.heap.size) := Xv.out.lt
      clear b hw x9 y9
      have hp0 : pr ≠ 0 := by omega
      have hpw : IntKind.i64.wrap (pr * pr) = pr * pr := IntWalk.i64_in _ (by omega)
      go_loopw [128] (fun i wr => ∃ (j : Nat), j ≤ ng + 1 ∧ i = .int .i64 j ∧ Hid (∃ m, wr = w13.drewN m)) (fun i _ => ng + 1 - (intOf i).toNat)
      case atStart => exact ⟨0, by omega, rfl, 0, rfl⟩
      case round =>
        obtain ⟨j, hj, rfl, hm⟩ := hrel
        by_cases hlt : j < ng + 1
        · obtain ⟨m, rfl⟩ := hm.out
          have e1 : w13.cell? ⟨w12.heap.size, 0, none⟩ = some (.slice (some ⟨bu, 0, none⟩) (ng + 1) ku) := Xu.out.cell
          have e2 : w13.cell? ⟨w2.heap.size, 0, none⟩ = some (.slice (some ⟨bg, 0, none⟩) (ng + 1) kg) := Xg.out.cell
          have e3 : w13.cell? ⟨bu, j, none⟩ = some (.int .i64 (at' U j)) := Ou.out.cell (k := j) (at_some _ _ (by have := LU.out; omega))
          have e4 : w13.cell? ⟨bg, j, none⟩ = some (.int .i64 (at' G j)) := Og.out.cell (k := j) (at_some _ _ (by have := LG.out; omega))
          obtain ⟨z1, z2, z3⟩ := HUr.out j hlt
          generalize at' U j = z at e3 z1 z2 z3
          generalize at' G j = y at e4 z3
          have d5 : (j : Int) < (ng : Int) + 1 := by omega
          have d6 : (0 : Int) ≤ (j : Int) := by omega
          have a1 : decide (z < 0) = false := decide_eq_false (by omega)
          have a2 : decide (pr * pr ≤ z) = false := decide_eq_false (by omega)
          rw [Int.tmod_eq_emod_of_nonneg z1] at z3
          have a4 : (z % pr == y) = true := by rw [beq_iff_eq]; exact z3
          have a5 : (z % pr != y) = false := by rw [bne, a4]; rfl
          clear z3 hm
          go_wp2_with fail
          go_quiet (fail)
          go_wp2_with fail
          go_roundw
          case rel => exact ⟨j + 1, by omega, by go_num, m + nq, rfl⟩
          case measure => simp [intOf]; omega
        · obtain rfl : ng + 1 = j := by omega
          obtain ⟨m1, rfl⟩ := hm.out
          clear hlt hj
          go_wp2_with fail
          go_loopw [165] (fun i wr => ∃ (j : Nat), j ≤ nh + 1 ∧ i = .int .i64 j ∧ Hid (∃ m, wr = w13.drewN m)) (fun i _ => nh + 1 - (intOf i).toNat)
          case atStart => exact ⟨0, by omega, rfl, m1, rfl⟩
          case round =>
            obtain ⟨j, hj, rfl, hm⟩ := hrel
            by_cases hlt : j < nh + 1
            · obtain ⟨m, rfl⟩ := hm.out
              have e1 : w13.cell? ⟨(w12.heap.size + 1), 0, none⟩ = some (.slice (some ⟨bv, 0, none⟩) (nh + 1) kv) := Xv.out.cell
              have e2 : w13.cell? ⟨w4.heap.size, 0, none⟩ = some (.slice (some ⟨bh, 0, none⟩) (nh + 1) kh) := Xh.out.cell
              have e3 : w13.cell? ⟨bv, j, none⟩ = some (.int .i64 (at' V j)) := Ov.out.cell (k := j) (at_some _ _ (by have := LV.out; omega))
              have e4 : w13.cell? ⟨bh, j, none⟩ = some (.int .i64 (at' H j)) := Oh.out.cell (k := j) (at_some _ _ (by have := LH.out; omega))
              obtain ⟨z1, z2, z3⟩ := HVr.out j hlt
              generalize at' V j = z at e3 z1 z2 z3
              generalize at' H j = y at e4 z3
              have d5 : (j : Int) < (nh : Int) + 1 := by omega
              have d6 : (0 : Int) ≤ (j : Int) := by omega
              have a1 : decide (z < 0) = false := decide_eq_false (by omega)
              have a2 : decide (pr * pr ≤ z) = false := decide_eq_false (by omega)
              rw [Int.tmod_eq_emod_of_nonneg z1] at z3
              have a4 : (z % pr == y) = true := by rw [beq_iff_eq]; exact z3
              have a5 : (z % pr != y) = false := by rw [bne, a4]; rfl
              clear z3 hm
              go_wp2_with fail
              go_quiet (fail)
              go_wp2_with fail
              go_roundw
              case rel => exact ⟨j + 1, by omega, by go_num, m + nq, rfl⟩
              case measure => simp [intOf]; omega
            · obtain rfl : nh + 1 = j := by omega
              obtain ⟨m2, rfl⟩ := hm.out
              clear hlt hj
              obtain ⟨wl, hw⟩ : ∃ x, x = w13.drewN m2 := ⟨_, rfl⟩
              rw [← hw]
              have b : Below w13.heap.size w13 wl := by rw [hw]; exact Go.Pst.below_draws ⟨m2, rfl⟩
              have Zwl : Hid (w13.heap.size ≤ wl.heap.size) := b.size
              replace B0 : Hid (Below w.heap.size w wl) := B0.out.trans (b.mono B0.out.size)
              replace Og : Hid (wh.Own wl w1.heap.size w2.heap.size (.slice (some ⟨bg, 0, none⟩) (ng + 1) kg) G) := Og.out.kept b
              replace Oh : Hid (wh.Own wl w3.heap.size w4.heap.size (.slice (some ⟨bh, 0, none⟩) (nh + 1) kh) H) := Oh.out.kept b
              replace Op : Hid (wh.Own wl w7.heap.size w8.heap.size (.slice (some ⟨bp, 0, none⟩) (np + 1) kp) Pk) := Op.out.kept b
              replace Ou : Hid (wh.Own wl w11.heap.size w12.heap.size (.slice (some ⟨bu, 0, none⟩) (ng + 1) ku) U) := Ou.out.kept b
              replace Ov : Hid (wh.Own wl w11.heap.size w12.heap.size (.slice (some ⟨bv, 0, none⟩) (nh + 1) kv) V) := Ov.out.kept b
              replace Xg : Hid (Bx wl w2.heap.size (.slice (some ⟨bg, 0, none⟩) (ng + 1) kg)) := Xg.out.kept b
              replace Xh : Hid (Bx wl w4.heap.size (.slice (some ⟨bh, 0, none⟩) (nh + 1) kh)) := Xh.out.kept b
              replace Xp : Hid (Bx wl w8.heap.size (.slice (some ⟨bp, 0, none⟩) (np + 1) kp)) := Xp.out.kept b
              replace Xu : Hid (Bx wl w12.heap.size (.slice (some ⟨bu, 0, none⟩) (ng + 1) ku)) := Xu.out.kept b
              replace Xv : Hid (Bx wl (w12.heap.size + 1) (.slice (some ⟨bv, 0, none⟩) (nh + 1) kv)) := Xv.out.kept b
              replace cg : wl.cell? ⟨w2.heap.size, 0, none⟩ = some (.slice (some ⟨bg, 0, none⟩) (ng + 1) kg) := Xg.out.cell
              replace ch : wl.cell? ⟨w4.heap.size, 0, none⟩ = some (.slice (some ⟨bh, 0, none⟩) (nh + 1) kh) := Xh.out.cell
              replace cp : wl.cell? ⟨w8.heap.size, 0, none⟩ = some (.slice (some ⟨bp, 0, none⟩) (np + 1) kp) := Xp.out.cell
              replace cu : wl.cell? ⟨w12.heap.size, 0, none⟩ = some (.slice (some ⟨bu, 0, none⟩) (ng + 1) ku) := Xu.out.cell
              replace cv : wl.cell? ⟨(w12.heap.size + 1), 0, none⟩ = some (.slice (some ⟨bv, 0, none⟩) (nh + 1) kv) := Xv.out.cell
              clear b hw HUr HVr
              go_wp2_with fail
              refine (HMul.out _ _ _ (Ou.out.ls (by have := Zw13.out; have := Zwl.out; omega)) (Ov.out.ls (by have := Zw13.out; have := Zwl.out; omega))).mono ?_
              rintro e w14 ⟨_, rfl, ⟨_, rfl, o⟩, b⟩
              obtain ⟨bq, kq, rfl, lq, mq, _, _⟩ := o.block (fun e => by have := LQ.out; rw [e] at this; simp at this)
              rw [LQ.out] at o ⊢
              have Zw14 : Hid (wl.heap.size ≤ w14.heap.size) := b.size
              replace B0 : Hid (Below w.heap.size w w14) := B0.out.trans (b.mono B0.out.size)
              replace Og : Hid (wh.Own w14 w1.heap.size w2.heap.size (.slice (some ⟨bg, 0, none⟩) (ng + 1) kg) G) := Og.out.kept b
              replace Oh : Hid (wh.Own w14 w3.heap.size w4.heap.size (.slice (some ⟨bh, 0, none⟩) (nh + 1) kh) H) := Oh.out.kept b
              replace Op : Hid (wh.Own w14 w7.heap.size w8.heap.size (.slice (some ⟨bp, 0, none⟩) (np + 1) kp) Pk) := Op.out.kept b
              replace Ou : Hid (wh.Own w14 w11.heap.size w12.heap.size (.slice (some ⟨bu, 0, none⟩) (ng + 1) ku) U) := Ou.out.kept b
              replace Ov : Hid (wh.Own w14 w11.heap.size w12.heap.size (.slice (some ⟨bv, 0, none⟩) (nh + 1) kv) V) := Ov.out.kept b
              replace Xg : Hid (Bx w14 w2.heap.size (.slice (some ⟨bg, 0, none⟩) (ng + 1) kg)) := Xg.out.kept b
              replace Xh : Hid (Bx w14 w4.heap.size (.slice (some ⟨bh, 0, none⟩) (nh + 1) kh)) := Xh.out.kept b
              replace Xp : Hid (Bx w14 w8.heap.size (.slice (some ⟨bp, 0, none⟩) (np + 1) kp)) := Xp.out.kept b
              replace Xu : Hid (Bx w14 w12.heap.size (.slice (some ⟨bu, 0, none⟩) (ng + 1) ku)) := Xu.out.kept b
              replace Xv : Hid (Bx w14 (w12.heap.size + 1) (.slice (some ⟨bv, 0, none⟩) (nh + 1) kv)) := Xv.out.kept b
              replace cg : w14.cell? ⟨w2.heap.size, 0, none⟩ = some (.slice (some ⟨bg, 0, none⟩) (ng + 1) kg) := Xg.out.cell
              replace ch : w14.cell? ⟨w4.heap.size, 0, none⟩ = some (.slice (some ⟨bh, 0, none⟩) (nh + 1) kh) := Xh.out.cell
              replace cp : w14.cell? ⟨w8.heap.size, 0, none⟩ = some (.slice (some ⟨bp, 0, none⟩) (np + 1) kp) := Xp.out.cell
              replace cu : w14.cell? ⟨w12.heap.size, 0, none⟩ = some (.slice (some ⟨bu, 0, none⟩) (ng + 1) ku) := Xu.out.cell
              replace cv : w14.cell? ⟨(w12.heap.size + 1), 0, none⟩ = some (.slice (some ⟨bv, 0, none⟩) (nh + 1) kv) := Xv.out.cell
              have Oq : Hid (wh.Own w14 wl.heap.size w14.heap.size (.slice (some ⟨bq, 0, none⟩) (np + 1) kq) Q) := o
              have Iq : Hid (wl.heap.size ≤ bq ∧ bq < w14.heap.size) := ⟨lq, mq⟩
              clear o b lq mq
              have dg : (w14.alloc (.cells #[(.slice (some ⟨bq, 0, none⟩) (np + 1) kq)] 26)).cell? ⟨w2.heap.size, 0, none⟩ = some (.slice (some ⟨bg, 0, none⟩) (ng + 1) kg) := (Xg.out.alloc _).cell
              have dh : (w14.alloc (.cells #[(.slice (some ⟨bq, 0, none⟩) (np + 1) kq)] 26)).cell? ⟨w4.heap.size, 0, none⟩ = some (.slice (some ⟨bh, 0, none⟩) (nh + 1) kh) := (Xh.out.alloc _).cell
              have dp : (w14.alloc (.cells #[(.slice (some ⟨bq, 0, none⟩) (np + 1) kq)] 26)).cell? ⟨w8.heap.size, 0, none⟩ = some (.slice (some ⟨bp, 0, none⟩) (np + 1) kp) := (Xp.out.alloc _).cell
              have du : (w14.alloc (.cells #[(.slice (some ⟨bq, 0, none⟩) (np + 1) kq)] 26)).cell? ⟨w12.heap.size, 0, none⟩ = some (.slice (some ⟨bu, 0, none⟩) (ng + 1) ku) := (Xu.out.alloc _).cell
              have dv : (w14.alloc (.cells #[(.slice (some ⟨bq, 0, none⟩) (np + 1) kq)] 26)).cell? ⟨(w12.heap.size + 1), 0, none⟩ = some (.slice (some ⟨bv, 0, none⟩) (nh + 1) kv) := (Xv.out.alloc _).cell
              go_wp2_with fail
              clear dg dh dp du dv
              obtain ⟨w15, hw⟩ : ∃ x, x = w14.alloc (.cells #[(.slice (some ⟨bq, 0, none⟩) (np + 1) kq)] 26) := ⟨_, rfl⟩
              rw [← hw]
              have b : Below w14.heap.size w14 w15 := by rw [hw]; exact new1 _ _
              have x9 : Bx w15 w14.heap.size (.slice (some ⟨bq, 0, none⟩) (np + 1) kq) := by rw [hw]; exact Bx.new _ _ _
              have Zw15 : Hid (w14.heap.size ≤ w15.heap.size) := b.size
              replace B0 : Hid (Below w.heap.size w w15) := B0.out.trans (b.mono B0.out.size)
              replace Og : Hid (wh.Own w15 w1.heap.size w2.heap.size (.slice (some ⟨bg, 0, none⟩) (ng + 1) kg) G) := Og.out.kept b
              replace Oh : Hid (wh.Own w15 w3.heap.size w4.heap.size (.slice (some ⟨bh, 0, none⟩) (nh + 1) kh) H) := Oh.out.kept b
              replace Op : Hid (wh.Own w15 w7.heap.size w8.heap.size (.slice (some ⟨bp, 0, none⟩) (np + 1) kp) Pk) := Op.out.kept b
              replace Ou : Hid (wh.Own w15 w11.heap.size w12.heap.size (.slice (some ⟨bu, 0, none⟩) (ng + 1) ku) U) := Ou.out.kept b
              replace Ov : Hid (wh.Own w15 w11.heap.size w12.heap.size (.slice (some ⟨bv, 0, none⟩) (nh + 1) kv) V) := Ov.out.kept b
              replace Oq : Hid (wh.Own w15 wl.heap.size w14.heap.size (.slice (some ⟨bq, 0, none⟩) (np + 1) kq) Q) := Oq.out.kept b
              replace Xg : Hid (Bx w15 w2.heap.size (.slice (some ⟨bg, 0, none⟩) (ng + 1) kg)) := Xg.out.kept b
              replace Xh : Hid (Bx w15 w4.heap.size (.slice (some ⟨bh, 0, none⟩) (nh + 1) kh)) := Xh.out.kept b
              replace Xp : Hid (Bx w15 w8.heap.size (.slice (some ⟨bp, 0, none⟩) (np + 1) kp)) := Xp.out.kept b
              replace Xu : Hid (Bx w15 w12.heap.size (.slice (some ⟨bu, 0, none⟩) (ng + 1) ku)) := Xu.out.kept b
              replace Xv : Hid (Bx w15 (w12.heap.size + 1) (.slice (some ⟨bv, 0, none⟩) (nh + 1) kv)) := Xv.out.kept b
              replace cg : w15.cell? ⟨w2.heap.size, 0, none⟩ = some (.slice (some ⟨bg, 0, none⟩) (ng + 1) kg) := Xg.out.cell
              replace ch : w15.cell? ⟨w4.heap.size, 0, none⟩ = some (.slice (some ⟨bh, 0, none⟩) (nh + 1) kh) := Xh.out.cell
              replace cp : w15.cell? ⟨w8.heap.size, 0, none⟩ = some (.slice (some ⟨bp, 0, none⟩) (np + 1) kp) := Xp.out.cell
              replace cu : w15.cell? ⟨w12.heap.size, 0, none⟩ = some (.slice (some ⟨bu, 0, none⟩) (ng + 1) ku) := Xu.out.cell
              replace cv : w15.cell? ⟨(w12.heap.size + 1), 0, none⟩ = some (.slice (some ⟨bv, 0, none⟩) (nh + 1) kv) := Xv.out.cell
              have Xq : Hid (Bx w15 w14.heap.size (.slice (some ⟨bq, 0, none⟩) (np + 1) kq)) := x9
              have cq : w15.cell? ⟨w14.heap.size, 0, none⟩ = some (.slice (some ⟨bq, 0, none⟩) (np + 1) kq) := Xq.out.cell
              have Lq : Hid (w14.heap.size < w15.heap.size) := Xq.out.lt
              clear b hw x9
              have hpp0 : pr * pr ≠ 0 := by omega
              go_loopw [219] (fun i wr => ∃ (j : Nat), j ≤ np + 1 ∧ i = .int .i64 j ∧ Hid (∃ m, wr = w15.drewN m)) (fun i _ => np + 1 - (intOf i).toNat)
              case atStart => exact ⟨0, by omega, rfl, 0, rfl⟩
              case round =>
                obtain ⟨j, hj, rfl, hm⟩ := hrel
                by_cases hlt : j < np + 1
                · obtain ⟨m, rfl⟩ := hm.out
                  have e1 : w15.cell? ⟨w14.heap.size, 0, none⟩ = some (.slice (some ⟨bq, 0, none⟩) (np + 1) kq) := Xq.out.cell
                  have e2 : w15.cell? ⟨w8.heap.size, 0, none⟩ = some (.slice (some ⟨bp, 0, none⟩) (np + 1) kp) := Xp.out.cell
                  have e3 : w15.cell? ⟨bq, j, none⟩ = some (.int .i64 (at' Q j)) := Oq.out.cell (k := j) (at_some _ _ (by have := LQ.out; omega))
                  have e4 : w15.cell? ⟨bp, j, none⟩ = some (.int .i64 (at' Pk j)) := Op.out.cell (k := j) (at_some _ _ (by have := hL.out; omega))
                  have z1 := BUV.out j
                  have z2 := hI.out.at (by omega) (by omega) j
                  have z3 := HUV.out j
                  generalize at' Q j = z at e3 z1 z3
                  generalize at' Pk j = y at e4 z2 z3
                  have d5 : (j : Int) < (np : Int) + 1 := by omega
                  have d6 : (0 : Int) ≤ (j : Int) := by omega
                  have u1 : IntKind.i64.wrap (z - y) = z - y := IntWalk.i64_in _ (by omega)
                  have u2 : IntKind.i64.wrap (Int.tmod (z - y) (pr * pr)) = Int.tmod (z - y) (pr * pr) := by rw [z3]; rfl
                  have a4 : (Int.tmod (z - y) (pr * pr) == 0) = true := by rw [beq_iff_eq]; exact z3
                  have a5 : (Int.tmod (z - y) (pr * pr) != 0) = false := by rw [bne, a4]; rfl
                  have Z3 : Hid (Int.tmod (z - y) (pr * pr) = 0) := z3
                  clear z3 hm
                  go_wp2_with fail
                  go_quiet (fail)
                  go_wp2_with fail
                  go_roundw
                  case rel => exact ⟨j + 1, by omega, by go_num, m + nq, rfl⟩
                  case measure => simp [intOf]; omega
                · obtain rfl : np + 1 = j := by omega
                  obtain ⟨m3, rfl⟩ := hm.out
                  have BE : Hid (Below w.heap.size w (w15.drewN m3)) := B0.out.trans ((show Below w15.heap.size w15 (w15.drewN m3) from Go.Pst.below_draws ⟨m3, rfl⟩).mono B0.out.size)
                  clear hm
                  go_wp2_with fail
                  go_ret
                  exact ⟨rfl, BE.out⟩
end Go.Proofs.Ytfhcfeafohcjpaa.fnLiftedW
