/- The law FnWholes: its walk, over what its functions answer. -/
import Derived.Test.YtcocidlijdfmmaaFwB
import Derived.Deep.RegionHeld3
import Derived.Deep.DeepCutAuto
namespace Go.Proofs.Ytcocidlijdfmmaa.fnWholesW
open Go.RowKit Go.Pl Go.Proofs.Ytcocidlijdfmmaa.wh Go.Proofs.Ytcocidlijdfmmaa.bys Go.Proofs.Ytcocidlijdfmmaa.fw

theorem slope_le {L : List Int} (h2 : 2 ≤ L.length) : (fSlopeWhole.R L).length ≤ L.length - 1 := by
  unfold fSlopeWhole.R gv
  have h1 := slope1_len L
  have h3 : slope1 L ≠ [] := slope1_ne L
  have h4 := tlen_le (slope1 L) (slope1 L).length
  have h5 := trim_len h3
  split
  · split
    · omega
    · simp
  · simp

theorem row_ge {w : World} {base e size g n cap m : Nat} {xs : List Value} (h : w.ownsRow base e size (.slice (some ⟨g, 0, none⟩) n cap) m xs) : base ≤ g := by
  rcases h.2 with ⟨h', _⟩ | ⟨g3, cap3, cur, h', hB3, _⟩
  · simp at h'
  · simp only [Value.slice.injEq, Option.some.injEq, Addr.mk.injEq, and_true] at h'
    obtain ⟨rfl, _⟩ := h'
    exact hB3

theorem pack {A B : List Int} (ha : Dr A) (hb : Dr B) {x : Int} (hx : -4 ≤ x ∧ x ≤ 4) :
    ∃ (P S Pr SA SB SP : List Int) (u v da db c : Int), ((3 ≤ P.length ∧ P.length ≤ 9) ∧ Pr.length = P.length) ∧ ((-15625 ≤ u ∧ u ≤ 15625) ∧ (-15625 ≤ v ∧ v ≤ 15625) ∧ (-6250000000 ≤ da ∧ da ≤ 6250000000) ∧ (-6250000000 ≤ db ∧ db ≤ 6250000000) ∧ (1 ≤ c ∧ c ≤ 1000000)) ∧
      (∀ k, k < P.length → ∃ y z, Pr[k]? = some y ∧ P[k]? = some z ∧ (-1000000 ≤ y ∧ y ≤ 1000000) ∧ (-1000000 ≤ z ∧ z ≤ 1000000) ∧ (y * c = z ∨ y * c = -z)) ∧
      (∀ (w : World) (va vb : Value), Ls w va A → Ls w vb B → Calls Try.prog 7 #[.agg #[va], .agg #[vb]] w (AnsI P true w)) ∧
      (∀ (w : World) (va vb : Value), Ls w va P → Ls w vb B → Calls Try.prog 8 #[.agg #[va], .agg #[vb]] w (AnsI A true w)) ∧
      (∀ (w : World) (va : Value), Ls w va A → Calls Try.prog 9 #[.agg #[va], .int .i64 x] w fun e w' => e = .returned (.tuple #[.int .i64 (u), .bool true]) ∧ Below w.heap.size w w') ∧
      (∀ (w : World) (va : Value), Ls w va B → Calls Try.prog 9 #[.agg #[va], .int .i64 x] w fun e w' => e = .returned (.tuple #[.int .i64 (v), .bool true]) ∧ Below w.heap.size w w') ∧
      (∀ (w : World) (va : Value), Ls w va P → Calls Try.prog 9 #[.agg #[va], .int .i64 x] w fun e w' => e = .returned (.tuple #[.int .i64 (u * v), .bool true]) ∧ Below w.heap.size w w') ∧
      (∀ (w : World) (va vb : Value), Ls w va A → Ls w vb B → Calls Try.prog 10 #[.agg #[va], .agg #[vb], .int .i64 2, .int .i64 (-3)] w (AnsI S true w)) ∧
      (∀ (w : World) (va : Value), Ls w va S → Calls Try.prog 9 #[.agg #[va], .int .i64 x] w fun e w' => e = .returned (.tuple #[.int .i64 (2 * u - 3 * v), .bool true]) ∧ Below w.heap.size w w') ∧
      (∀ (w : World) (va : Value), Ls w va A → Calls Try.prog 11 #[.agg #[va]] w fun e w' => e = .returned (.bool true) ∧ Below w.heap.size w w') ∧
      (∀ (w : World) (va vb : Value), Ls w va A → Ls w vb A → Calls Try.prog 13 #[.agg #[va], .agg #[vb]] w fun e w' => e = .returned (.bool true) ∧ Below w.heap.size w w') ∧
      (∀ (w : World) (va : Value), Ls w va P → Calls Try.prog 14 #[.agg #[va]] w fun e w' => e = .returned (.tuple #[.int .i64 c, .bool true]) ∧ Below w.heap.size w w') ∧
      (∀ (w : World) (va : Value), Ls w va P → Calls Try.prog 15 #[.agg #[va]] w (AnsI Pr true w)) ∧
      (∀ (w : World) (va : Value), Ls w va A → Calls Try.prog 16 #[.agg #[va]] w (AnsI SA true w)) ∧
      (∀ (w : World) (va : Value), Ls w va B → Calls Try.prog 16 #[.agg #[va]] w (AnsI SB true w)) ∧
      (∀ (w : World) (va : Value), Ls w va P → Calls Try.prog 16 #[.agg #[va]] w (AnsI SP true w)) ∧
      (∀ (w : World) (va : Value), Ls w va SA → Calls Try.prog 9 #[.agg #[va], .int .i64 x] w fun e w' => e = .returned (.tuple #[.int .i64 (da), .bool true]) ∧ Below w.heap.size w w') ∧
      (∀ (w : World) (va : Value), Ls w va SB → Calls Try.prog 9 #[.agg #[va], .int .i64 x] w fun e w' => e = .returned (.tuple #[.int .i64 (db), .bool true]) ∧ Below w.heap.size w w') ∧
      (∀ (w : World) (va : Value), Ls w va SP → Calls Try.prog 9 #[.agg #[va], .int .i64 x] w fun e w' => e = .returned (.tuple #[.int .i64 (da * v + u * db), .bool true]) ∧ Below w.heap.size w w') ∧
      (∀ (w : World) (va : Value), Ls w va (A ++ [0, 0]) → Calls Try.prog 17 #[va] w (AnsI A true w)) := by
  obtain ⟨P, hP⟩ : ∃ P, P = prod A B := ⟨_, rfl⟩
  have h2a := ha.1
  have h5a := ha.2.1
  have h2b := hb.1
  have h5b := hb.2.1
  have hb1 : 1 ≤ B.length := by omega
  have hpl : P.length = A.length + B.length - 1 := by rw [hP]; exact prod_len A B
  have hxw : (Lit.int .i64 x).wf = true := by simp [Lit.wf, IntKind.min, IntKind.max, IntKind.signed, IntKind.bits]; omega
  have h9a : A.length ≤ 9 := by omega
  have h9b : B.length ≤ 9 := by omega
  have h9p : P.length ≤ 9 := by omega
  have hPv : Val P := by rw [hP]; exact prod_val ha hb
  have hadd := add_ok ha hb x
  have hpr := prim_ok hPv (by omega)
  have hsa := slope_ok (T := 5) (by omega) ha.val h2a h9a ha.2.2.1 x
  have hsb := slope_ok (T := 5) (by omega) hb.val h2b h9b hb.2.2.1 x
  have hsp := slope_ok (T := 625) (by omega) hPv (by omega) h9p (by rw [hP]; exact prod_in ha hb) x
  obtain ⟨S, hS⟩ : ∃ S, S = fAddWholes.R A B 2 (-3) := ⟨_, rfl⟩
  have hSv : Val S := by rw [hS]; exact hadd.2.1
  have h9s : S.length ≤ 9 := by rw [hS]; exact hadd.2.2.1
  obtain ⟨Pr, hPr⟩ : ∃ S, S = fPrimitiveOf.R P := ⟨_, rfl⟩
  obtain ⟨SA, hSA⟩ : ∃ S, S = fSlopeWhole.R A := ⟨_, rfl⟩
  obtain ⟨SB, hSB⟩ : ∃ S, S = fSlopeWhole.R B := ⟨_, rfl⟩
  obtain ⟨SP, hSP⟩ : ∃ S, S = fSlopeWhole.R P := ⟨_, rfl⟩
  obtain ⟨u, hu⟩ : ∃ u, u = ev x A := ⟨_, rfl⟩
  obtain ⟨v, hv⟩ : ∃ u, u = ev x B := ⟨_, rfl⟩
  obtain ⟨da, hda⟩ : ∃ u, u = dv x A := ⟨_, rfl⟩
  obtain ⟨db, hdb⟩ : ∃ u, u = dv x B := ⟨_, rfl⟩
  obtain ⟨c, hc⟩ : ∃ c, c = fContentOf.z P := ⟨_, rfl⟩
  have bu := ev_bd (T := 5) (n := 5) hx ha.2.2.1 h5a
  have bv := ev_bd (T := 5) (n := 5) hx hb.2.2.1 h5b
  have bda := ev_bd (L := fSlopeWhole.R A) (T := 1000000) (n := 4) hx (fun z hz => hsa.2.1.2.2.1 z hz) (by have := slope_le h2a; omega)
  have bdb := ev_bd (L := fSlopeWhole.R B) (T := 1000000) (n := 4) hx (fun z hz => hsb.2.1.2.2.1 z hz) (by have := slope_le h2b; omega)
  rw [hsa.2.2.2, ← hda] at bda
  rw [hsb.2.2.2, ← hdb] at bdb
  rw [← hu] at bu
  rw [← hv] at bv
  have e5 : 5 * 5 ^ 5 = 15625 := by decide
  have e4 : 1000000 * 5 ^ 4 = 625000000 := by decide
  refine ⟨P, S, Pr, SA, SB, SP, u, v, da, db, c, ⟨⟨by omega, h9p⟩, by rw [hPr]; exact hpr.2.2.2.2.1⟩, ⟨by omega, by omega, by omega, by omega, by rw [hc]; exact ⟨hpr.2.1, hpr.2.2.1⟩⟩, fun k hk => ?_,
    fun w va vb h1 h2 => by have t := fMulWholes.impl_any (w := w) ⟨_, rfl, h1⟩ ⟨_, rfl, h2⟩; rw [(mul_ok ha hb).1, (mul_ok ha hb).2] at t; rw [hP]; exact t,
    fun w va vb h1 h2 => by rw [hP] at h1; have t := fExactQuotient.impl_any (w := w) ⟨_, rfl, h1⟩ ⟨_, rfl, h2⟩; rw [(back_ok ha hb).1, (back_ok ha hb).2] at t; exact t,
    fun w va h => by have t := fWholeAt.impl_any (w := w) ⟨_, rfl, h⟩ x hxw; rw [(at_ok ha.val h9a hx).1, (at_ok ha.val h9a hx).2, ← hu] at t; exact t,
    fun w va h => by have t := fWholeAt.impl_any (w := w) ⟨_, rfl, h⟩ x hxw; rw [(at_ok hb.val h9b hx).1, (at_ok hb.val h9b hx).2, ← hv] at t; exact t,
    fun w va h => by have t := fWholeAt.impl_any (w := w) ⟨_, rfl, h⟩ x hxw; rw [(at_ok hPv h9p hx).1, (at_ok hPv h9p hx).2, hP, ev_prod x hb1, ← hu, ← hv] at t; exact t,
    fun w va vb h1 h2 => by have t := fAddWholes.impl_any (w := w) ⟨_, rfl, h1⟩ ⟨_, rfl, h2⟩ 2 (by decide) (-3) (by decide); rw [hadd.1, ← hS] at t; exact t,
    fun w va h => by have t := fWholeAt.impl_any (w := w) ⟨_, rfl, h⟩ x hxw; rw [(at_ok hSv h9s hx).1, (at_ok hSv h9s hx).2, hS, hadd.2.2.2, ← hu, ← hv] at t; exact t,
    fun w va h => by have t := valid_any (w := w) ⟨_, rfl, h⟩; rw [val_iff.2 ha.val] at t; exact t,
    fun w va vb h1 h2 => by have t := fSameWhole.impl_any (w := w) ⟨_, rfl, h1⟩ ⟨_, rfl, h2⟩; rw [show fSameWhole.ok A A = true from decide_eq_true rfl] at t; exact t,
    fun w va h => by have t := fContentOf.impl_any (w := w) ⟨_, rfl, h⟩; rw [hpr.1, ← hc] at t; exact t,
    fun w va h => by have t := fPrimitiveOf.impl_any (w := w) ⟨_, rfl, h⟩; rw [hpr.2.2.2.1, ← hPr] at t; exact t,
    fun w va h => by have t := fSlopeWhole.impl_any (w := w) ⟨_, rfl, h⟩; rw [hsa.1, ← hSA] at t; exact t,
    fun w va h => by have t := fSlopeWhole.impl_any (w := w) ⟨_, rfl, h⟩; rw [hsb.1, ← hSB] at t; exact t,
    fun w va h => by have t := fSlopeWhole.impl_any (w := w) ⟨_, rfl, h⟩; rw [hsp.1, ← hSP] at t; exact t,
    fun w va h => by rw [hSA] at h; have t := fWholeAt.impl_any (w := w) ⟨_, rfl, h⟩ x hxw; rw [(at_ok hsa.2.1 hsa.2.2.1 hx).1, (at_ok hsa.2.1 hsa.2.2.1 hx).2, hsa.2.2.2, ← hda] at t; exact t,
    fun w va h => by rw [hSB] at h; have t := fWholeAt.impl_any (w := w) ⟨_, rfl, h⟩ x hxw; rw [(at_ok hsb.2.1 hsb.2.2.1 hx).1, (at_ok hsb.2.1 hsb.2.2.1 hx).2, hsb.2.2.2, ← hdb] at t; exact t,
    fun w va h => by rw [hSP] at h; have t := fWholeAt.impl_any (w := w) ⟨_, rfl, h⟩ x hxw; rw [(at_ok hsp.2.1 hsp.2.2.1 hx).1, (at_ok hsp.2.1 hsp.2.2.1 hx).2, hsp.2.2.2, hP, dv_prod x hb1, ← hda, ← hdb, ← hu, ← hv] at t; exact t,
    fun w va h => by have t := fWholeFrom.impl_any (w := w) h (by have := ha.2.1; simp; omega); rw [(from_ok ha).1, (from_ok ha).2] at t; exact t⟩
  have hkl : k < (fPrimitiveOf.R P).length := by rw [hpr.2.2.2.2.1]; exact hk
  have e1 := at_some (fPrimitiveOf.R P) k hkl
  have e2 := at_some P k hk
  refine ⟨_, _, by rw [hPr]; exact e1, e2, hpr.2.2.2.2.2.1.get e1, hPv.get e2, ?_⟩
  rw [hc]
  exact hpr.2.2.2.2.2.2 k

set_option maxRecDepth 100000 in
set_option maxHeartbeats 8000000 in
theorem walk (v0 v1 : Value) (w : World) (h0 : Bys w v0) (h1 : Bys w v1) :
    Calls Try.prog 3 #[v0, v1] w fun e w' => e = .returned (.bool true) ∧ Below w.heap.size w w' := by
  obtain ⟨q, hq⟩ := long_any h0 h1
  have H0 : Hid (Bb w w.heap.size v0) := Bb.of h0
  have H1 : Hid (Bb w w.heap.size v1) := Bb.of h1
  obtain ⟨vo0, vn0, vc0, rfl⟩ := bys_shape h0
  obtain ⟨vo1, vn1, vc1, rfl⟩ := bys_shape h1
  clear h0 h1
  cases q with
  | true =>
    go_enter Try.func3, Try.ntmps3
    go_wp2_with fail
    refine (hq _).mono ?_
    rintro e w' ⟨rfl, rfl⟩
    go_wp2_with fail
    go_ret
    exact ⟨rfl, Go.Pst.below_draws ⟨0, rfl⟩⟩
  | false =>
  go_enter Try.func3, Try.ntmps3
  go_wp2_with fail
  refine (hq _).mono ?_
  rintro e w' ⟨rfl, rfl⟩
  have B0 : Hid (Below w.heap.size w w) := Below.refl _ _
  clear hq
  go_wp2_with fail
  refine (degree_any (H0.out.below B0.out).1).mono ?_
  rintro e w1 ⟨s, A, rfl, Da, o, b⟩
  obtain ⟨za, ka, rfl⟩ := o.shape
  replace B0 : Hid (Below w.heap.size w w1) := B0.out.trans (b.mono B0.out.size)
  have Ra : Hid (Ls w1 (.slice za A.length ka) A) := o.ls (Nat.le_refl _)
  have Ea : Hid (Dr A) := Da
  clear Da
  clear o b
  go_wp2_with fail
  obtain ⟨w2, hw⟩ : ∃ x, x = w1.alloc (.cells #[(.slice za A.length ka)] 26) := ⟨_, rfl⟩
  rw [← hw]
  have b : Below w1.heap.size w1 w2 := by rw [hw]; exact new1 _ _
  have x9 : Bx w2 w1.heap.size (.slice za A.length ka) := by rw [hw]; exact Bx.new _ _ _
  replace B0 : Hid (Below w.heap.size w w2) := B0.out.trans (b.mono B0.out.size)
  replace Ra : Hid (Ls w2 (.slice za A.length ka) A) := Ra.out.below b
  have Xa : Hid (Bx w2 w1.heap.size (.slice za A.length ka)) := x9
  have ca : w2.cell? ⟨w1.heap.size, 0, none⟩ = some (.slice za A.length ka) := Xa.out.cell
  clear b hw x9
  refine (degree_any (H1.out.below B0.out).1).mono ?_
  rintro e w3 ⟨s, B, rfl, Db, o, b⟩
  obtain ⟨zb, kb, rfl⟩ := o.shape
  replace B0 : Hid (Below w.heap.size w w3) := B0.out.trans (b.mono B0.out.size)
  replace Ra : Hid (Ls w3 (.slice za A.length ka) A) := Ra.out.below b
  replace Xa : Hid (Bx w3 w1.heap.size (.slice za A.length ka)) := Xa.out.kept b
  replace ca : w3.cell? ⟨w1.heap.size, 0, none⟩ = some (.slice za A.length ka) := Xa.out.cell
  have Rb : Hid (Ls w3 (.slice zb B.length kb) B) := o.ls (Nat.le_refl _)
  have Eb : Hid (Dr B) := Db
  clear Db
  clear o b
  have da : (w3.alloc (.cells #[(.slice zb B.length kb)] 26)).cell? ⟨w1.heap.size, 0, none⟩ = some (.slice za A.length ka) := (Xa.out.alloc _).cell
  go_wp2_with fail
  clear da
  obtain ⟨w4, hw⟩ : ∃ x, x = w3.alloc (.cells #[(.slice zb B.length kb)] 26) := ⟨_, rfl⟩
  rw [← hw]
  have b : Below w3.heap.size w3 w4 := by rw [hw]; exact new1 _ _
  have x9 : Bx w4 w3.heap.size (.slice zb B.length kb) := by rw [hw]; exact Bx.new _ _ _
  replace B0 : Hid (Below w.heap.size w w4) := B0.out.trans (b.mono B0.out.size)
  replace Ra : Hid (Ls w4 (.slice za A.length ka) A) := Ra.out.below b
  replace Rb : Hid (Ls w4 (.slice zb B.length kb) B) := Rb.out.below b
  replace Xa : Hid (Bx w4 w1.heap.size (.slice za A.length ka)) := Xa.out.kept b
  replace ca : w4.cell? ⟨w1.heap.size, 0, none⟩ = some (.slice za A.length ka) := Xa.out.cell
  have Xb : Hid (Bx w4 w3.heap.size (.slice zb B.length kb)) := x9
  have cb : w4.cell? ⟨w3.heap.size, 0, none⟩ = some (.slice zb B.length kb) := Xb.out.cell
  clear b hw x9
  obtain ⟨r, hr0, hr1, cr⟩ := at_any (H1.out.below B0.out).1 0 9 (by omega) (by omega) (by omega) (by omega)
  refine cr.mono ?_
  rintro e w' ⟨rfl, rfl⟩
  clear cr H0 H1
  obtain ⟨P, S, Pr, SA, SB, SP, u, v, da, db, c, ⟨⟨HP3, HP9⟩, HRL⟩, ⟨bu, bv, bda, bdb, bc⟩, HEL, HMul, HEx, HAtA, HAtB, HAtP, HAdd, HAtS, HVal, HSame, HCont, HPrim, HSlA, HSlB, HSlP, HAtSA, HAtSB, HAtSP, HFrom⟩ := pack Ea.out Eb.out (x := r - 4) (by omega)
  replace HMul : Hid _ := HMul
  replace HEx : Hid _ := HEx
  replace HAtA : Hid _ := HAtA
  replace HAtB : Hid _ := HAtB
  replace HAtP : Hid _ := HAtP
  replace HAdd : Hid _ := HAdd
  replace HAtS : Hid _ := HAtS
  replace HVal : Hid _ := HVal
  replace HSame : Hid _ := HSame
  replace HCont : Hid _ := HCont
  replace HPrim : Hid _ := HPrim
  replace HSlA : Hid _ := HSlA
  replace HSlB : Hid _ := HSlB
  replace HSlP : Hid _ := HSlP
  replace HAtSA : Hid _ := HAtSA
  replace HAtSB : Hid _ := HAtSB
  replace HAtSP : Hid _ := HAtSP
  replace HFrom : Hid _ := HFrom
  obtain ⟨N, HN⟩ : ∃ N, P.length = N := ⟨_, rfl⟩
  rw [HN] at HP3 HP9 HRL HEL
  have bA : Hid (2 ≤ A.length ∧ A.length ≤ 5) := ⟨Ea.out.1, Ea.out.2.1⟩
  replace HEL : Hid _ := HEL
  clear Ea Eb
  have m1 := mul_le bu bv
  have m2 := mul_le bda bv
  have m3 := mul_le bu bdb
  go_wp2_with fail
  refine (HMul.out _ _ _ Ra.out Rb.out).mono ?_
  rintro e w5 ⟨_, rfl, ⟨s, rfl, o⟩, b⟩
  obtain ⟨zp, kp, rfl⟩ := o.shape
  replace B0 : Hid (Below w.heap.size w w5) := B0.out.trans (b.mono B0.out.size)
  replace Ra : Hid (Ls w5 (.slice za A.length ka) A) := Ra.out.below b
  replace Rb : Hid (Ls w5 (.slice zb B.length kb) B) := Rb.out.below b
  replace Xa : Hid (Bx w5 w1.heap.size (.slice za A.length ka)) := Xa.out.kept b
  replace ca : w5.cell? ⟨w1.heap.size, 0, none⟩ = some (.slice za A.length ka) := Xa.out.cell
  replace Xb : Hid (Bx w5 w3.heap.size (.slice zb B.length kb)) := Xb.out.kept b
  replace cb : w5.cell? ⟨w3.heap.size, 0, none⟩ = some (.slice zb B.length kb) := Xb.out.cell
  have Rp : Hid (Ls w5 (.slice zp P.length kp) P) := o.ls (Nat.le_refl _)
  clear o b
  rw [HN] at Rp ⊢
  have da : (w5.alloc (.cells #[(.slice zp N kp)] 26)).cell? ⟨w1.heap.size, 0, none⟩ = some (.slice za A.length ka) := (Xa.out.alloc _).cell
  have db : (w5.alloc (.cells #[(.slice zp N kp)] 26)).cell? ⟨w3.heap.size, 0, none⟩ = some (.slice zb B.length kb) := (Xb.out.alloc _).cell
  go_wp2_with fail
  clear da db
  obtain ⟨w6, hw⟩ : ∃ x, x = w5.alloc (.cells #[(.slice zp N kp)] 26) := ⟨_, rfl⟩
  rw [← hw]
  have b : Below w5.heap.size w5 w6 := by rw [hw]; exact new1 _ _
  have x9 : Bx w6 w5.heap.size (.slice zp N kp) := by rw [hw]; exact Bx.new _ _ _
  replace B0 : Hid (Below w.heap.size w w6) := B0.out.trans (b.mono B0.out.size)
  replace Ra : Hid (Ls w6 (.slice za A.length ka) A) := Ra.out.below b
  replace Rb : Hid (Ls w6 (.slice zb B.length kb) B) := Rb.out.below b
  replace Rp : Hid (Ls w6 (.slice zp N kp) P) := Rp.out.below b
  replace Xa : Hid (Bx w6 w1.heap.size (.slice za A.length ka)) := Xa.out.kept b
  replace ca : w6.cell? ⟨w1.heap.size, 0, none⟩ = some (.slice za A.length ka) := Xa.out.cell
  replace Xb : Hid (Bx w6 w3.heap.size (.slice zb B.length kb)) := Xb.out.kept b
  replace cb : w6.cell? ⟨w3.heap.size, 0, none⟩ = some (.slice zb B.length kb) := Xb.out.cell
  have Xp : Hid (Bx w6 w5.heap.size (.slice zp N kp)) := x9
  have cp : w6.cell? ⟨w5.heap.size, 0, none⟩ = some (.slice zp N kp) := Xp.out.cell
  clear b hw x9
  refine (HEx.out _ _ _ Rp.out Rb.out).mono ?_
  rintro e w7 ⟨_, rfl, ⟨s, rfl, o⟩, b⟩
  obtain ⟨zk, kk, rfl⟩ := o.shape
  replace B0 : Hid (Below w.heap.size w w7) := B0.out.trans (b.mono B0.out.size)
  replace Ra : Hid (Ls w7 (.slice za A.length ka) A) := Ra.out.below b
  replace Rb : Hid (Ls w7 (.slice zb B.length kb) B) := Rb.out.below b
  replace Rp : Hid (Ls w7 (.slice zp N kp) P) := Rp.out.below b
  replace Xa : Hid (Bx w7 w1.heap.size (.slice za A.length ka)) := Xa.out.kept b
  replace ca : w7.cell? ⟨w1.heap.size, 0, none⟩ = some (.slice za A.length ka) := Xa.out.cell
  replace Xb : Hid (Bx w7 w3.heap.size (.slice zb B.length kb)) := Xb.out.kept b
  replace cb : w7.cell? ⟨w3.heap.size, 0, none⟩ = some (.slice zb B.length kb) := Xb.out.cell
  replace Xp : Hid (Bx w7 w5.heap.size (.slice zp N kp)) := Xp.out.kept b
  replace cp : w7.cell? ⟨w5.heap.size, 0, none⟩ = some (.slice zp N kp) := Xp.out.cell
  have Rk : Hid (Ls w7 (.slice zk A.length kk) A) := o.ls (Nat.le_refl _)
  clear o b
  have da : (w7.alloc (.cells #[(.slice zk A.length kk)] 26)).cell? ⟨w1.heap.size, 0, none⟩ = some (.slice za A.length ka) := (Xa.out.alloc _).cell
  have db : (w7.alloc (.cells #[(.slice zk A.length kk)] 26)).cell? ⟨w3.heap.size, 0, none⟩ = some (.slice zb B.length kb) := (Xb.out.alloc _).cell
  have dp : (w7.alloc (.cells #[(.slice zk A.length kk)] 26)).cell? ⟨w5.heap.size, 0, none⟩ = some (.slice zp N kp) := (Xp.out.alloc _).cell
  go_wp2_with fail
  clear da db dp
  obtain ⟨w8, hw⟩ : ∃ x, x = w7.alloc (.cells #[(.slice zk A.length kk)] 26) := ⟨_, rfl⟩
  rw [← hw]
  have b : Below w7.heap.size w7 w8 := by rw [hw]; exact new1 _ _
  have x9 : Bx w8 w7.heap.size (.slice zk A.length kk) := by rw [hw]; exact Bx.new _ _ _
  replace B0 : Hid (Below w.heap.size w w8) := B0.out.trans (b.mono B0.out.size)
  replace Ra : Hid (Ls w8 (.slice za A.length ka) A) := Ra.out.below b
  replace Rb : Hid (Ls w8 (.slice zb B.length kb) B) := Rb.out.below b
  replace Rp : Hid (Ls w8 (.slice zp N kp) P) := Rp.out.below b
  replace Rk : Hid (Ls w8 (.slice zk A.length kk) A) := Rk.out.below b
  replace Xa : Hid (Bx w8 w1.heap.size (.slice za A.length ka)) := Xa.out.kept b
  replace ca : w8.cell? ⟨w1.heap.size, 0, none⟩ = some (.slice za A.length ka) := Xa.out.cell
  replace Xb : Hid (Bx w8 w3.heap.size (.slice zb B.length kb)) := Xb.out.kept b
  replace cb : w8.cell? ⟨w3.heap.size, 0, none⟩ = some (.slice zb B.length kb) := Xb.out.cell
  replace Xp : Hid (Bx w8 w5.heap.size (.slice zp N kp)) := Xp.out.kept b
  replace cp : w8.cell? ⟨w5.heap.size, 0, none⟩ = some (.slice zp N kp) := Xp.out.cell
  have Xk : Hid (Bx w8 w7.heap.size (.slice zk A.length kk)) := x9
  have ck : w8.cell? ⟨w7.heap.size, 0, none⟩ = some (.slice zk A.length kk) := Xk.out.cell
  clear b hw x9
  refine (HAtA.out _ _ Ra.out).mono ?_
  rintro e w9 ⟨rfl, b⟩
  replace B0 : Hid (Below w.heap.size w w9) := B0.out.trans (b.mono B0.out.size)
  replace Ra : Hid (Ls w9 (.slice za A.length ka) A) := Ra.out.below b
  replace Rb : Hid (Ls w9 (.slice zb B.length kb) B) := Rb.out.below b
  replace Rp : Hid (Ls w9 (.slice zp N kp) P) := Rp.out.below b
  replace Rk : Hid (Ls w9 (.slice zk A.length kk) A) := Rk.out.below b
  replace Xa : Hid (Bx w9 w1.heap.size (.slice za A.length ka)) := Xa.out.kept b
  replace ca : w9.cell? ⟨w1.heap.size, 0, none⟩ = some (.slice za A.length ka) := Xa.out.cell
  replace Xb : Hid (Bx w9 w3.heap.size (.slice zb B.length kb)) := Xb.out.kept b
  replace cb : w9.cell? ⟨w3.heap.size, 0, none⟩ = some (.slice zb B.length kb) := Xb.out.cell
  replace Xp : Hid (Bx w9 w5.heap.size (.slice zp N kp)) := Xp.out.kept b
  replace cp : w9.cell? ⟨w5.heap.size, 0, none⟩ = some (.slice zp N kp) := Xp.out.cell
  replace Xk : Hid (Bx w9 w7.heap.size (.slice zk A.length kk)) := Xk.out.kept b
  replace ck : w9.cell? ⟨w7.heap.size, 0, none⟩ = some (.slice zk A.length kk) := Xk.out.cell
  clear b
  go_wp2_with fail
  refine (HAtB.out _ _ Rb.out).mono ?_
  rintro e w10 ⟨rfl, b⟩
  replace B0 : Hid (Below w.heap.size w w10) := B0.out.trans (b.mono B0.out.size)
  replace Ra : Hid (Ls w10 (.slice za A.length ka) A) := Ra.out.below b
  replace Rb : Hid (Ls w10 (.slice zb B.length kb) B) := Rb.out.below b
  replace Rp : Hid (Ls w10 (.slice zp N kp) P) := Rp.out.below b
  replace Rk : Hid (Ls w10 (.slice zk A.length kk) A) := Rk.out.below b
  replace Xa : Hid (Bx w10 w1.heap.size (.slice za A.length ka)) := Xa.out.kept b
  replace ca : w10.cell? ⟨w1.heap.size, 0, none⟩ = some (.slice za A.length ka) := Xa.out.cell
  replace Xb : Hid (Bx w10 w3.heap.size (.slice zb B.length kb)) := Xb.out.kept b
  replace cb : w10.cell? ⟨w3.heap.size, 0, none⟩ = some (.slice zb B.length kb) := Xb.out.cell
  replace Xp : Hid (Bx w10 w5.heap.size (.slice zp N kp)) := Xp.out.kept b
  replace cp : w10.cell? ⟨w5.heap.size, 0, none⟩ = some (.slice zp N kp) := Xp.out.cell
  replace Xk : Hid (Bx w10 w7.heap.size (.slice zk A.length kk)) := Xk.out.kept b
  replace ck : w10.cell? ⟨w7.heap.size, 0, none⟩ = some (.slice zk A.length kk) := Xk.out.cell
  clear b
  go_wp2_with fail
  refine (HAtP.out _ _ Rp.out).mono ?_
  rintro e w11 ⟨rfl, b⟩
  replace B0 : Hid (Below w.heap.size w w11) := B0.out.trans (b.mono B0.out.size)
  replace Ra : Hid (Ls w11 (.slice za A.length ka) A) := Ra.out.below b
  replace Rb : Hid (Ls w11 (.slice zb B.length kb) B) := Rb.out.below b
  replace Rp : Hid (Ls w11 (.slice zp N kp) P) := Rp.out.below b
  replace Rk : Hid (Ls w11 (.slice zk A.length kk) A) := Rk.out.below b
  replace Xa : Hid (Bx w11 w1.heap.size (.slice za A.length ka)) := Xa.out.kept b
  replace ca : w11.cell? ⟨w1.heap.size, 0, none⟩ = some (.slice za A.length ka) := Xa.out.cell
  replace Xb : Hid (Bx w11 w3.heap.size (.slice zb B.length kb)) := Xb.out.kept b
  replace cb : w11.cell? ⟨w3.heap.size, 0, none⟩ = some (.slice zb B.length kb) := Xb.out.cell
  replace Xp : Hid (Bx w11 w5.heap.size (.slice zp N kp)) := Xp.out.kept b
  replace cp : w11.cell? ⟨w5.heap.size, 0, none⟩ = some (.slice zp N kp) := Xp.out.cell
  replace Xk : Hid (Bx w11 w7.heap.size (.slice zk A.length kk)) := Xk.out.kept b
  replace ck : w11.cell? ⟨w7.heap.size, 0, none⟩ = some (.slice zk A.length kk) := Xk.out.cell
  clear b
  go_wp2_with fail
  refine (HAdd.out _ _ _ Ra.out Rb.out).mono ?_
  rintro e w12 ⟨_, rfl, ⟨s, rfl, o⟩, b⟩
  obtain ⟨zs, ks, rfl⟩ := o.shape
  replace B0 : Hid (Below w.heap.size w w12) := B0.out.trans (b.mono B0.out.size)
  replace Ra : Hid (Ls w12 (.slice za A.length ka) A) := Ra.out.below b
  replace Rb : Hid (Ls w12 (.slice zb B.length kb) B) := Rb.out.below b
  replace Rp : Hid (Ls w12 (.slice zp N kp) P) := Rp.out.below b
  replace Rk : Hid (Ls w12 (.slice zk A.length kk) A) := Rk.out.below b
  replace Xa : Hid (Bx w12 w1.heap.size (.slice za A.length ka)) := Xa.out.kept b
  replace ca : w12.cell? ⟨w1.heap.size, 0, none⟩ = some (.slice za A.length ka) := Xa.out.cell
  replace Xb : Hid (Bx w12 w3.heap.size (.slice zb B.length kb)) := Xb.out.kept b
  replace cb : w12.cell? ⟨w3.heap.size, 0, none⟩ = some (.slice zb B.length kb) := Xb.out.cell
  replace Xp : Hid (Bx w12 w5.heap.size (.slice zp N kp)) := Xp.out.kept b
  replace cp : w12.cell? ⟨w5.heap.size, 0, none⟩ = some (.slice zp N kp) := Xp.out.cell
  replace Xk : Hid (Bx w12 w7.heap.size (.slice zk A.length kk)) := Xk.out.kept b
  replace ck : w12.cell? ⟨w7.heap.size, 0, none⟩ = some (.slice zk A.length kk) := Xk.out.cell
  have Rs : Hid (Ls w12 (.slice zs S.length ks) S) := o.ls (Nat.le_refl _)
  clear o b
  have da : (w12.alloc (.cells #[(.slice zs S.length ks)] 26)).cell? ⟨w1.heap.size, 0, none⟩ = some (.slice za A.length ka) := (Xa.out.alloc _).cell
  have db : (w12.alloc (.cells #[(.slice zs S.length ks)] 26)).cell? ⟨w3.heap.size, 0, none⟩ = some (.slice zb B.length kb) := (Xb.out.alloc _).cell
  have dp : (w12.alloc (.cells #[(.slice zs S.length ks)] 26)).cell? ⟨w5.heap.size, 0, none⟩ = some (.slice zp N kp) := (Xp.out.alloc _).cell
  have dk : (w12.alloc (.cells #[(.slice zs S.length ks)] 26)).cell? ⟨w7.heap.size, 0, none⟩ = some (.slice zk A.length kk) := (Xk.out.alloc _).cell
  go_wp2_with fail
  clear da db dp dk
  obtain ⟨w13, hw⟩ : ∃ x, x = w12.alloc (.cells #[(.slice zs S.length ks)] 26) := ⟨_, rfl⟩
  rw [← hw]
  have b : Below w12.heap.size w12 w13 := by rw [hw]; exact new1 _ _
  have x9 : Bx w13 w12.heap.size (.slice zs S.length ks) := by rw [hw]; exact Bx.new _ _ _
  replace B0 : Hid (Below w.heap.size w w13) := B0.out.trans (b.mono B0.out.size)
  replace Ra : Hid (Ls w13 (.slice za A.length ka) A) := Ra.out.below b
  replace Rb : Hid (Ls w13 (.slice zb B.length kb) B) := Rb.out.below b
  replace Rp : Hid (Ls w13 (.slice zp N kp) P) := Rp.out.below b
  replace Rk : Hid (Ls w13 (.slice zk A.length kk) A) := Rk.out.below b
  replace Rs : Hid (Ls w13 (.slice zs S.length ks) S) := Rs.out.below b
  replace Xa : Hid (Bx w13 w1.heap.size (.slice za A.length ka)) := Xa.out.kept b
  replace ca : w13.cell? ⟨w1.heap.size, 0, none⟩ = some (.slice za A.length ka) := Xa.out.cell
  replace Xb : Hid (Bx w13 w3.heap.size (.slice zb B.length kb)) := Xb.out.kept b
  replace cb : w13.cell? ⟨w3.heap.size, 0, none⟩ = some (.slice zb B.length kb) := Xb.out.cell
  replace Xp : Hid (Bx w13 w5.heap.size (.slice zp N kp)) := Xp.out.kept b
  replace cp : w13.cell? ⟨w5.heap.size, 0, none⟩ = some (.slice zp N kp) := Xp.out.cell
  replace Xk : Hid (Bx w13 w7.heap.size (.slice zk A.length kk)) := Xk.out.kept b
  replace ck : w13.cell? ⟨w7.heap.size, 0, none⟩ = some (.slice zk A.length kk) := Xk.out.cell
  have Xs : Hid (Bx w13 w12.heap.size (.slice zs S.length ks)) := x9
  have cs : w13.cell? ⟨w12.heap.size, 0, none⟩ = some (.slice zs S.length ks) := Xs.out.cell
  clear b hw x9
  refine (HAtS.out _ _ Rs.out).mono ?_
  rintro e w14 ⟨rfl, b⟩
  replace B0 : Hid (Below w.heap.size w w14) := B0.out.trans (b.mono B0.out.size)
  replace Ra : Hid (Ls w14 (.slice za A.length ka) A) := Ra.out.below b
  replace Rb : Hid (Ls w14 (.slice zb B.length kb) B) := Rb.out.below b
  replace Rp : Hid (Ls w14 (.slice zp N kp) P) := Rp.out.below b
  replace Rk : Hid (Ls w14 (.slice zk A.length kk) A) := Rk.out.below b
  replace Rs : Hid (Ls w14 (.slice zs S.length ks) S) := Rs.out.below b
  replace Xa : Hid (Bx w14 w1.heap.size (.slice za A.length ka)) := Xa.out.kept b
  replace ca : w14.cell? ⟨w1.heap.size, 0, none⟩ = some (.slice za A.length ka) := Xa.out.cell
  replace Xb : Hid (Bx w14 w3.heap.size (.slice zb B.length kb)) := Xb.out.kept b
  replace cb : w14.cell? ⟨w3.heap.size, 0, none⟩ = some (.slice zb B.length kb) := Xb.out.cell
  replace Xp : Hid (Bx w14 w5.heap.size (.slice zp N kp)) := Xp.out.kept b
  replace cp : w14.cell? ⟨w5.heap.size, 0, none⟩ = some (.slice zp N kp) := Xp.out.cell
  replace Xk : Hid (Bx w14 w7.heap.size (.slice zk A.length kk)) := Xk.out.kept b
  replace ck : w14.cell? ⟨w7.heap.size, 0, none⟩ = some (.slice zk A.length kk) := Xk.out.cell
  replace Xs : Hid (Bx w14 w12.heap.size (.slice zs S.length ks)) := Xs.out.kept b
  replace cs : w14.cell? ⟨w12.heap.size, 0, none⟩ = some (.slice zs S.length ks) := Xs.out.cell
  clear b
  go_wp2_with fail
  refine (HVal.out _ _ Ra.out).mono ?_
  rintro e w15 ⟨rfl, b⟩
  replace B0 : Hid (Below w.heap.size w w15) := B0.out.trans (b.mono B0.out.size)
  replace Ra : Hid (Ls w15 (.slice za A.length ka) A) := Ra.out.below b
  replace Rb : Hid (Ls w15 (.slice zb B.length kb) B) := Rb.out.below b
  replace Rp : Hid (Ls w15 (.slice zp N kp) P) := Rp.out.below b
  replace Rk : Hid (Ls w15 (.slice zk A.length kk) A) := Rk.out.below b
  replace Rs : Hid (Ls w15 (.slice zs S.length ks) S) := Rs.out.below b
  replace Xa : Hid (Bx w15 w1.heap.size (.slice za A.length ka)) := Xa.out.kept b
  replace ca : w15.cell? ⟨w1.heap.size, 0, none⟩ = some (.slice za A.length ka) := Xa.out.cell
  replace Xb : Hid (Bx w15 w3.heap.size (.slice zb B.length kb)) := Xb.out.kept b
  replace cb : w15.cell? ⟨w3.heap.size, 0, none⟩ = some (.slice zb B.length kb) := Xb.out.cell
  replace Xp : Hid (Bx w15 w5.heap.size (.slice zp N kp)) := Xp.out.kept b
  replace cp : w15.cell? ⟨w5.heap.size, 0, none⟩ = some (.slice zp N kp) := Xp.out.cell
  replace Xk : Hid (Bx w15 w7.heap.size (.slice zk A.length kk)) := Xk.out.kept b
  replace ck : w15.cell? ⟨w7.heap.size, 0, none⟩ = some (.slice zk A.length kk) := Xk.out.cell
  replace Xs : Hid (Bx w15 w12.heap.size (.slice zs S.length ks)) := Xs.out.kept b
  replace cs : w15.cell? ⟨w12.heap.size, 0, none⟩ = some (.slice zs S.length ks) := Xs.out.cell
  clear b
  go_wp2_with fail
  refine (whole_any ⟨_, rfl, Rk.out⟩ ⟨_, rfl, Ra.out⟩ (by have := bA.out; omega)).mono ?_
  rintro e w16 ⟨rfl, b⟩
  replace B0 : Hid (Below w.heap.size w w16) := B0.out.trans (b.mono B0.out.size)
  replace Ra : Hid (Ls w16 (.slice za A.length ka) A) := Ra.out.below b
  replace Rb : Hid (Ls w16 (.slice zb B.length kb) B) := Rb.out.below b
  replace Rp : Hid (Ls w16 (.slice zp N kp) P) := Rp.out.below b
  replace Rk : Hid (Ls w16 (.slice zk A.length kk) A) := Rk.out.below b
  replace Rs : Hid (Ls w16 (.slice zs S.length ks) S) := Rs.out.below b
  replace Xa : Hid (Bx w16 w1.heap.size (.slice za A.length ka)) := Xa.out.kept b
  replace ca : w16.cell? ⟨w1.heap.size, 0, none⟩ = some (.slice za A.length ka) := Xa.out.cell
  replace Xb : Hid (Bx w16 w3.heap.size (.slice zb B.length kb)) := Xb.out.kept b
  replace cb : w16.cell? ⟨w3.heap.size, 0, none⟩ = some (.slice zb B.length kb) := Xb.out.cell
  replace Xp : Hid (Bx w16 w5.heap.size (.slice zp N kp)) := Xp.out.kept b
  replace cp : w16.cell? ⟨w5.heap.size, 0, none⟩ = some (.slice zp N kp) := Xp.out.cell
  replace Xk : Hid (Bx w16 w7.heap.size (.slice zk A.length kk)) := Xk.out.kept b
  replace ck : w16.cell? ⟨w7.heap.size, 0, none⟩ = some (.slice zk A.length kk) := Xk.out.cell
  replace Xs : Hid (Bx w16 w12.heap.size (.slice zs S.length ks)) := Xs.out.kept b
  replace cs : w16.cell? ⟨w12.heap.size, 0, none⟩ = some (.slice zs S.length ks) := Xs.out.cell
  clear b
  go_wp2_with fail
  refine (HSame.out _ _ _ Rk.out Ra.out).mono ?_
  rintro e w17 ⟨rfl, b⟩
  replace B0 : Hid (Below w.heap.size w w17) := B0.out.trans (b.mono B0.out.size)
  replace Ra : Hid (Ls w17 (.slice za A.length ka) A) := Ra.out.below b
  replace Rb : Hid (Ls w17 (.slice zb B.length kb) B) := Rb.out.below b
  replace Rp : Hid (Ls w17 (.slice zp N kp) P) := Rp.out.below b
  replace Rk : Hid (Ls w17 (.slice zk A.length kk) A) := Rk.out.below b
  replace Rs : Hid (Ls w17 (.slice zs S.length ks) S) := Rs.out.below b
  replace Xa : Hid (Bx w17 w1.heap.size (.slice za A.length ka)) := Xa.out.kept b
  replace ca : w17.cell? ⟨w1.heap.size, 0, none⟩ = some (.slice za A.length ka) := Xa.out.cell
  replace Xb : Hid (Bx w17 w3.heap.size (.slice zb B.length kb)) := Xb.out.kept b
  replace cb : w17.cell? ⟨w3.heap.size, 0, none⟩ = some (.slice zb B.length kb) := Xb.out.cell
  replace Xp : Hid (Bx w17 w5.heap.size (.slice zp N kp)) := Xp.out.kept b
  replace cp : w17.cell? ⟨w5.heap.size, 0, none⟩ = some (.slice zp N kp) := Xp.out.cell
  replace Xk : Hid (Bx w17 w7.heap.size (.slice zk A.length kk)) := Xk.out.kept b
  replace ck : w17.cell? ⟨w7.heap.size, 0, none⟩ = some (.slice zk A.length kk) := Xk.out.cell
  replace Xs : Hid (Bx w17 w12.heap.size (.slice zs S.length ks)) := Xs.out.kept b
  replace cs : w17.cell? ⟨w12.heap.size, 0, none⟩ = some (.slice zs S.length ks) := Xs.out.cell
  clear b
  go_wp2_with fail
  refine (HCont.out _ _ Rp.out).mono ?_
  rintro e w18 ⟨rfl, b⟩
  replace B0 : Hid (Below w.heap.size w w18) := B0.out.trans (b.mono B0.out.size)
  replace Ra : Hid (Ls w18 (.slice za A.length ka) A) := Ra.out.below b
  replace Rb : Hid (Ls w18 (.slice zb B.length kb) B) := Rb.out.below b
  replace Rp : Hid (Ls w18 (.slice zp N kp) P) := Rp.out.below b
  replace Rk : Hid (Ls w18 (.slice zk A.length kk) A) := Rk.out.below b
  replace Rs : Hid (Ls w18 (.slice zs S.length ks) S) := Rs.out.below b
  replace Xa : Hid (Bx w18 w1.heap.size (.slice za A.length ka)) := Xa.out.kept b
  replace ca : w18.cell? ⟨w1.heap.size, 0, none⟩ = some (.slice za A.length ka) := Xa.out.cell
  replace Xb : Hid (Bx w18 w3.heap.size (.slice zb B.length kb)) := Xb.out.kept b
  replace cb : w18.cell? ⟨w3.heap.size, 0, none⟩ = some (.slice zb B.length kb) := Xb.out.cell
  replace Xp : Hid (Bx w18 w5.heap.size (.slice zp N kp)) := Xp.out.kept b
  replace cp : w18.cell? ⟨w5.heap.size, 0, none⟩ = some (.slice zp N kp) := Xp.out.cell
  replace Xk : Hid (Bx w18 w7.heap.size (.slice zk A.length kk)) := Xk.out.kept b
  replace ck : w18.cell? ⟨w7.heap.size, 0, none⟩ = some (.slice zk A.length kk) := Xk.out.cell
  replace Xs : Hid (Bx w18 w12.heap.size (.slice zs S.length ks)) := Xs.out.kept b
  replace cs : w18.cell? ⟨w12.heap.size, 0, none⟩ = some (.slice zs S.length ks) := Xs.out.cell
  clear b
  go_wp2_with fail
  refine (HPrim.out _ _ Rp.out).mono ?_
  rintro e w19 ⟨_, rfl, ⟨s, rfl, o⟩, b⟩
  obtain ⟨zq, kq, rfl⟩ := o.shape
  replace B0 : Hid (Below w.heap.size w w19) := B0.out.trans (b.mono B0.out.size)
  replace Ra : Hid (Ls w19 (.slice za A.length ka) A) := Ra.out.below b
  replace Rb : Hid (Ls w19 (.slice zb B.length kb) B) := Rb.out.below b
  replace Rp : Hid (Ls w19 (.slice zp N kp) P) := Rp.out.below b
  replace Rk : Hid (Ls w19 (.slice zk A.length kk) A) := Rk.out.below b
  replace Rs : Hid (Ls w19 (.slice zs S.length ks) S) := Rs.out.below b
  replace Xa : Hid (Bx w19 w1.heap.size (.slice za A.length ka)) := Xa.out.kept b
  replace ca : w19.cell? ⟨w1.heap.size, 0, none⟩ = some (.slice za A.length ka) := Xa.out.cell
  replace Xb : Hid (Bx w19 w3.heap.size (.slice zb B.length kb)) := Xb.out.kept b
  replace cb : w19.cell? ⟨w3.heap.size, 0, none⟩ = some (.slice zb B.length kb) := Xb.out.cell
  replace Xp : Hid (Bx w19 w5.heap.size (.slice zp N kp)) := Xp.out.kept b
  replace cp : w19.cell? ⟨w5.heap.size, 0, none⟩ = some (.slice zp N kp) := Xp.out.cell
  replace Xk : Hid (Bx w19 w7.heap.size (.slice zk A.length kk)) := Xk.out.kept b
  replace ck : w19.cell? ⟨w7.heap.size, 0, none⟩ = some (.slice zk A.length kk) := Xk.out.cell
  replace Xs : Hid (Bx w19 w12.heap.size (.slice zs S.length ks)) := Xs.out.kept b
  replace cs : w19.cell? ⟨w12.heap.size, 0, none⟩ = some (.slice zs S.length ks) := Xs.out.cell
  have Rq : Hid (Ls w19 (.slice zq Pr.length kq) Pr) := o.ls (Nat.le_refl _)
  clear o b
  rw [HRL] at Rq ⊢
  have da : (w19.alloc (.cells #[(.slice zq N kq)] 26)).cell? ⟨w1.heap.size, 0, none⟩ = some (.slice za A.length ka) := (Xa.out.alloc _).cell
  have db : (w19.alloc (.cells #[(.slice zq N kq)] 26)).cell? ⟨w3.heap.size, 0, none⟩ = some (.slice zb B.length kb) := (Xb.out.alloc _).cell
  have dp : (w19.alloc (.cells #[(.slice zq N kq)] 26)).cell? ⟨w5.heap.size, 0, none⟩ = some (.slice zp N kp) := (Xp.out.alloc _).cell
  have dk : (w19.alloc (.cells #[(.slice zq N kq)] 26)).cell? ⟨w7.heap.size, 0, none⟩ = some (.slice zk A.length kk) := (Xk.out.alloc _).cell
  have ds : (w19.alloc (.cells #[(.slice zq N kq)] 26)).cell? ⟨w12.heap.size, 0, none⟩ = some (.slice zs S.length ks) := (Xs.out.alloc _).cell
  go_wp2_with fail
  clear da db dp dk ds
  obtain ⟨w20, hw⟩ : ∃ x, x = w19.alloc (.cells #[(.slice zq N kq)] 26) := ⟨_, rfl⟩
  rw [← hw]
  have b : Below w19.heap.size w19 w20 := by rw [hw]; exact new1 _ _
  have x9 : Bx w20 w19.heap.size (.slice zq N kq) := by rw [hw]; exact Bx.new _ _ _
  replace B0 : Hid (Below w.heap.size w w20) := B0.out.trans (b.mono B0.out.size)
  replace Ra : Hid (Ls w20 (.slice za A.length ka) A) := Ra.out.below b
  replace Rb : Hid (Ls w20 (.slice zb B.length kb) B) := Rb.out.below b
  replace Rp : Hid (Ls w20 (.slice zp N kp) P) := Rp.out.below b
  replace Rk : Hid (Ls w20 (.slice zk A.length kk) A) := Rk.out.below b
  replace Rs : Hid (Ls w20 (.slice zs S.length ks) S) := Rs.out.below b
  replace Rq : Hid (Ls w20 (.slice zq N kq) Pr) := Rq.out.below b
  replace Xa : Hid (Bx w20 w1.heap.size (.slice za A.length ka)) := Xa.out.kept b
  replace ca : w20.cell? ⟨w1.heap.size, 0, none⟩ = some (.slice za A.length ka) := Xa.out.cell
  replace Xb : Hid (Bx w20 w3.heap.size (.slice zb B.length kb)) := Xb.out.kept b
  replace cb : w20.cell? ⟨w3.heap.size, 0, none⟩ = some (.slice zb B.length kb) := Xb.out.cell
  replace Xp : Hid (Bx w20 w5.heap.size (.slice zp N kp)) := Xp.out.kept b
  replace cp : w20.cell? ⟨w5.heap.size, 0, none⟩ = some (.slice zp N kp) := Xp.out.cell
  replace Xk : Hid (Bx w20 w7.heap.size (.slice zk A.length kk)) := Xk.out.kept b
  replace ck : w20.cell? ⟨w7.heap.size, 0, none⟩ = some (.slice zk A.length kk) := Xk.out.cell
  replace Xs : Hid (Bx w20 w12.heap.size (.slice zs S.length ks)) := Xs.out.kept b
  replace cs : w20.cell? ⟨w12.heap.size, 0, none⟩ = some (.slice zs S.length ks) := Xs.out.cell
  have Xq : Hid (Bx w20 w19.heap.size (.slice zq N kq)) := x9
  have cq : w20.cell? ⟨w19.heap.size, 0, none⟩ = some (.slice zq N kq) := Xq.out.cell
  clear b hw x9
  clear ck cs Xk Xs Rk Rs HMul HEx HAtA HAtB HAtP HAdd HAtS HVal HSame HCont HPrim
  obtain ⟨_, _, he, _, _, hq⟩ := Rq.out
  simp only [Value.slice.injEq] at he
  obtain ⟨bq, fq, hqa, hqb, hqc⟩ := hq (by omega)
  obtain rfl : zq = some ⟨bq, fq, none⟩ := he.1.trans hqa
  have Cq : Hid (∀ w', Below w20.heap.size w20 w' → ∀ k z, Pr[k]? = some z → w'.cell? ⟨bq, fq + k, none⟩ = some (.int .i64 z)) := fun w' b k z hk => (b.cell (p := ⟨bq, fq + k, none⟩) hqb).trans (hqc k z hk)
  clear he hq hqa hqb hqc
  obtain ⟨_, _, he, _, _, hq⟩ := Rp.out
  simp only [Value.slice.injEq] at he
  obtain ⟨bp, fp, hqa, hqb, hqc⟩ := hq (by omega)
  obtain rfl : zp = some ⟨bp, fp, none⟩ := he.1.trans hqa
  have Cp : Hid (∀ w', Below w20.heap.size w20 w' → ∀ k z, P[k]? = some z → w'.cell? ⟨bp, fp + k, none⟩ = some (.int .i64 z)) := fun w' b k z hk => (b.cell (p := ⟨bp, fp + k, none⟩) hqb).trans (hqc k z hk)
  clear he hq hqa hqb hqc
  clear cp cq
  go_loopw [184] (fun i wr => ∃ (k : Nat), k ≤ N ∧ i = .int .i64 k ∧ Hid (Below w20.heap.size w20 wr)) (fun i _ => N - (intOf i).toNat)
  case atStart => exact ⟨0, by omega, rfl, Below.refl _ _⟩
  case round =>
    obtain ⟨k, hk, rfl, hb⟩ := hrel
    have cp := (Xp.out.kept hb.out).cell
    have cq := (Xq.out.kept hb.out).cell
    by_cases hlt : k < N
    · obtain ⟨y, z, hy, hz, by1, bz1, hyz⟩ := HEL.out k hlt
      have e1 := Cq.out _ hb.out k y hy
      have e2 := Cp.out _ hb.out k z hz
      have m4 := mul_le (A := 1000000) (B := 1000000) by1 (by omega : -1000000 ≤ c ∧ c ≤ 1000000)
      clear hy hz
      by_cases h3 : y * c = z
      · go_wp2_with fail
        go_quiet (fail)
        go_wp2_with fail
        go_roundw
        case rel => exact ⟨k + 1, by omega, by go_num, hb.out.trans ((Go.Pst.below_draws ⟨nq, rfl⟩).mono hb.out.size)⟩
        case measure => simp [intOf]; omega
      · have h4 : y * c = -z := by omega
        have h5 : (y * c == z) = false := by rw [beq_eq_false_iff_ne]; exact h3
        have h6 : decide (y * c = z) = false := decide_eq_false h3
        have h7 : (y * c == -z) = true := by rw [beq_iff_eq]; exact h4
        have h8 : decide (y * c = -z) = true := decide_eq_true h4
        have g1 : decide (¬ y * c = z) = true := decide_eq_true h3
        have g2 : (y * c != z) = true := by rw [bne_iff_ne]; exact h3
        have g3 : (!decide (y * c = z)) = true := by rw [h6]; rfl
        have g5 : decide (¬ y * c = -z) = false := decide_eq_false (fun h => h h4)
        have g6 : (y * c != -z) = false := by rw [← Bool.not_eq_true, bne_iff_ne]; exact fun h => h h4
        have g7 : (!decide (y * c = -z)) = false := by rw [h8]; rfl
        clear h4
        clear hyz
        go_wp2_with fail
        go_big_quiet (fail)
        go_wp2_with fail
        go_roundw
        case rel => exact ⟨k + 1, by omega, by go_num, hb.out.trans ((Go.Pst.below_draws ⟨nq, rfl⟩).mono hb.out.size)⟩
        case measure => simp [intOf]; omega
    · obtain rfl : N = k := by omega
      clear cp cq Cp Cq HEL
      have b := hb.out
      have cp : w20.cell? ⟨w5.heap.size, 0, none⟩ = some (.slice (some ⟨bp, fp, none⟩) N kp) := Xp.out.cell
      have cq : w20.cell? ⟨w19.heap.size, 0, none⟩ = some (.slice (some ⟨bq, fq, none⟩) N kq) := Xq.out.cell
      replace B0 : Hid (Below w.heap.size w wr) := B0.out.trans (b.mono B0.out.size)
      replace Ra : Hid (Ls wr (.slice za A.length ka) A) := Ra.out.below b
      replace Rb : Hid (Ls wr (.slice zb B.length kb) B) := Rb.out.below b
      replace Rp : Hid (Ls wr (.slice (some ⟨bp, fp, none⟩) N kp) P) := Rp.out.below b
      replace Rq : Hid (Ls wr (.slice (some ⟨bq, fq, none⟩) N kq) Pr) := Rq.out.below b
      replace Xa : Hid (Bx wr w1.heap.size (.slice za A.length ka)) := Xa.out.kept b
      replace ca : wr.cell? ⟨w1.heap.size, 0, none⟩ = some (.slice za A.length ka) := Xa.out.cell
      replace Xb : Hid (Bx wr w3.heap.size (.slice zb B.length kb)) := Xb.out.kept b
      replace cb : wr.cell? ⟨w3.heap.size, 0, none⟩ = some (.slice zb B.length kb) := Xb.out.cell
      replace Xp : Hid (Bx wr w5.heap.size (.slice (some ⟨bp, fp, none⟩) N kp)) := Xp.out.kept b
      replace cp : wr.cell? ⟨w5.heap.size, 0, none⟩ = some (.slice (some ⟨bp, fp, none⟩) N kp) := Xp.out.cell
      replace Xq : Hid (Bx wr w19.heap.size (.slice (some ⟨bq, fq, none⟩) N kq)) := Xq.out.kept b
      replace cq : wr.cell? ⟨w19.heap.size, 0, none⟩ = some (.slice (some ⟨bq, fq, none⟩) N kq) := Xq.out.cell
      clear b hb
      go_wp2_with fail
      refine (HSlA.out _ _ Ra.out).mono ?_
      rintro e w21 ⟨_, rfl, ⟨s, rfl, o⟩, b⟩
      obtain ⟨zsa, ksa, rfl⟩ := o.shape
      replace B0 : Hid (Below w.heap.size w w21) := B0.out.trans (b.mono B0.out.size)
      replace Ra : Hid (Ls w21 (.slice za A.length ka) A) := Ra.out.below b
      replace Rb : Hid (Ls w21 (.slice zb B.length kb) B) := Rb.out.below b
      replace Rp : Hid (Ls w21 (.slice (some ⟨bp, fp, none⟩) N kp) P) := Rp.out.below b
      replace Rq : Hid (Ls w21 (.slice (some ⟨bq, fq, none⟩) N kq) Pr) := Rq.out.below b
      replace Xa : Hid (Bx w21 w1.heap.size (.slice za A.length ka)) := Xa.out.kept b
      replace ca : w21.cell? ⟨w1.heap.size, 0, none⟩ = some (.slice za A.length ka) := Xa.out.cell
      replace Xb : Hid (Bx w21 w3.heap.size (.slice zb B.length kb)) := Xb.out.kept b
      replace cb : w21.cell? ⟨w3.heap.size, 0, none⟩ = some (.slice zb B.length kb) := Xb.out.cell
      replace Xp : Hid (Bx w21 w5.heap.size (.slice (some ⟨bp, fp, none⟩) N kp)) := Xp.out.kept b
      replace cp : w21.cell? ⟨w5.heap.size, 0, none⟩ = some (.slice (some ⟨bp, fp, none⟩) N kp) := Xp.out.cell
      replace Xq : Hid (Bx w21 w19.heap.size (.slice (some ⟨bq, fq, none⟩) N kq)) := Xq.out.kept b
      replace cq : w21.cell? ⟨w19.heap.size, 0, none⟩ = some (.slice (some ⟨bq, fq, none⟩) N kq) := Xq.out.cell
      have Rsa : Hid (Ls w21 (.slice zsa SA.length ksa) SA) := o.ls (Nat.le_refl _)
      clear o b
      have da : (w21.alloc (.cells #[(.slice zsa SA.length ksa)] 26)).cell? ⟨w1.heap.size, 0, none⟩ = some (.slice za A.length ka) := (Xa.out.alloc _).cell
      have db : (w21.alloc (.cells #[(.slice zsa SA.length ksa)] 26)).cell? ⟨w3.heap.size, 0, none⟩ = some (.slice zb B.length kb) := (Xb.out.alloc _).cell
      have dp : (w21.alloc (.cells #[(.slice zsa SA.length ksa)] 26)).cell? ⟨w5.heap.size, 0, none⟩ = some (.slice (some ⟨bp, fp, none⟩) N kp) := (Xp.out.alloc _).cell
      have dq : (w21.alloc (.cells #[(.slice zsa SA.length ksa)] 26)).cell? ⟨w19.heap.size, 0, none⟩ = some (.slice (some ⟨bq, fq, none⟩) N kq) := (Xq.out.alloc _).cell
      go_wp2_with fail
      clear da db dp dq
      obtain ⟨w22, hw⟩ : ∃ x, x = w21.alloc (.cells #[(.slice zsa SA.length ksa)] 26) := ⟨_, rfl⟩
      rw [← hw]
      have b : Below w21.heap.size w21 w22 := by rw [hw]; exact new1 _ _
      have x9 : Bx w22 w21.heap.size (.slice zsa SA.length ksa) := by rw [hw]; exact Bx.new _ _ _
      replace B0 : Hid (Below w.heap.size w w22) := B0.out.trans (b.mono B0.out.size)
      replace Ra : Hid (Ls w22 (.slice za A.length ka) A) := Ra.out.below b
      replace Rb : Hid (Ls w22 (.slice zb B.length kb) B) := Rb.out.below b
      replace Rp : Hid (Ls w22 (.slice (some ⟨bp, fp, none⟩) N kp) P) := Rp.out.below b
      replace Rq : Hid (Ls w22 (.slice (some ⟨bq, fq, none⟩) N kq) Pr) := Rq.out.below b
      replace Rsa : Hid (Ls w22 (.slice zsa SA.length ksa) SA) := Rsa.out.below b
      replace Xa : Hid (Bx w22 w1.heap.size (.slice za A.length ka)) := Xa.out.kept b
      replace ca : w22.cell? ⟨w1.heap.size, 0, none⟩ = some (.slice za A.length ka) := Xa.out.cell
      replace Xb : Hid (Bx w22 w3.heap.size (.slice zb B.length kb)) := Xb.out.kept b
      replace cb : w22.cell? ⟨w3.heap.size, 0, none⟩ = some (.slice zb B.length kb) := Xb.out.cell
      replace Xp : Hid (Bx w22 w5.heap.size (.slice (some ⟨bp, fp, none⟩) N kp)) := Xp.out.kept b
      replace cp : w22.cell? ⟨w5.heap.size, 0, none⟩ = some (.slice (some ⟨bp, fp, none⟩) N kp) := Xp.out.cell
      replace Xq : Hid (Bx w22 w19.heap.size (.slice (some ⟨bq, fq, none⟩) N kq)) := Xq.out.kept b
      replace cq : w22.cell? ⟨w19.heap.size, 0, none⟩ = some (.slice (some ⟨bq, fq, none⟩) N kq) := Xq.out.cell
      have Xsa : Hid (Bx w22 w21.heap.size (.slice zsa SA.length ksa)) := x9
      have csa : w22.cell? ⟨w21.heap.size, 0, none⟩ = some (.slice zsa SA.length ksa) := Xsa.out.cell
      clear b hw x9
      refine (HSlB.out _ _ Rb.out).mono ?_
      rintro e w23 ⟨_, rfl, ⟨s, rfl, o⟩, b⟩
      obtain ⟨zsb, ksb, rfl⟩ := o.shape
      replace B0 : Hid (Below w.heap.size w w23) := B0.out.trans (b.mono B0.out.size)
      replace Ra : Hid (Ls w23 (.slice za A.length ka) A) := Ra.out.below b
      replace Rb : Hid (Ls w23 (.slice zb B.length kb) B) := Rb.out.below b
      replace Rp : Hid (Ls w23 (.slice (some ⟨bp, fp, none⟩) N kp) P) := Rp.out.below b
      replace Rq : Hid (Ls w23 (.slice (some ⟨bq, fq, none⟩) N kq) Pr) := Rq.out.below b
      replace Rsa : Hid (Ls w23 (.slice zsa SA.length ksa) SA) := Rsa.out.below b
      replace Xa : Hid (Bx w23 w1.heap.size (.slice za A.length ka)) := Xa.out.kept b
      replace ca : w23.cell? ⟨w1.heap.size, 0, none⟩ = some (.slice za A.length ka) := Xa.out.cell
      replace Xb : Hid (Bx w23 w3.heap.size (.slice zb B.length kb)) := Xb.out.kept b
      replace cb : w23.cell? ⟨w3.heap.size, 0, none⟩ = some (.slice zb B.length kb) := Xb.out.cell
      replace Xp : Hid (Bx w23 w5.heap.size (.slice (some ⟨bp, fp, none⟩) N kp)) := Xp.out.kept b
      replace cp : w23.cell? ⟨w5.heap.size, 0, none⟩ = some (.slice (some ⟨bp, fp, none⟩) N kp) := Xp.out.cell
      replace Xq : Hid (Bx w23 w19.heap.size (.slice (some ⟨bq, fq, none⟩) N kq)) := Xq.out.kept b
      replace cq : w23.cell? ⟨w19.heap.size, 0, none⟩ = some (.slice (some ⟨bq, fq, none⟩) N kq) := Xq.out.cell
      replace Xsa : Hid (Bx w23 w21.heap.size (.slice zsa SA.length ksa)) := Xsa.out.kept b
      replace csa : w23.cell? ⟨w21.heap.size, 0, none⟩ = some (.slice zsa SA.length ksa) := Xsa.out.cell
      have Rsb : Hid (Ls w23 (.slice zsb SB.length ksb) SB) := o.ls (Nat.le_refl _)
      clear o b
      have da : (w23.alloc (.cells #[(.slice zsb SB.length ksb)] 26)).cell? ⟨w1.heap.size, 0, none⟩ = some (.slice za A.length ka) := (Xa.out.alloc _).cell
      have db : (w23.alloc (.cells #[(.slice zsb SB.length ksb)] 26)).cell? ⟨w3.heap.size, 0, none⟩ = some (.slice zb B.length kb) := (Xb.out.alloc _).cell
      have dp : (w23.alloc (.cells #[(.slice zsb SB.length ksb)] 26)).cell? ⟨w5.heap.size, 0, none⟩ = some (.slice (some ⟨bp, fp, none⟩) N kp) := (Xp.out.alloc _).cell
      have dq : (w23.alloc (.cells #[(.slice zsb SB.length ksb)] 26)).cell? ⟨w19.heap.size, 0, none⟩ = some (.slice (some ⟨bq, fq, none⟩) N kq) := (Xq.out.alloc _).cell
      have dsa : (w23.alloc (.cells #[(.slice zsb SB.length ksb)] 26)).cell? ⟨w21.heap.size, 0, none⟩ = some (.slice zsa SA.length ksa) := (Xsa.out.alloc _).cell
      go_wp2_with fail
      clear da db dp dq dsa
      obtain ⟨w24, hw⟩ : ∃ x, x = w23.alloc (.cells #[(.slice zsb SB.length ksb)] 26) := ⟨_, rfl⟩
      rw [← hw]
      have b : Below w23.heap.size w23 w24 := by rw [hw]; exact new1 _ _
      have x9 : Bx w24 w23.heap.size (.slice zsb SB.length ksb) := by rw [hw]; exact Bx.new _ _ _
      replace B0 : Hid (Below w.heap.size w w24) := B0.out.trans (b.mono B0.out.size)
      replace Ra : Hid (Ls w24 (.slice za A.length ka) A) := Ra.out.below b
      replace Rb : Hid (Ls w24 (.slice zb B.length kb) B) := Rb.out.below b
      replace Rp : Hid (Ls w24 (.slice (some ⟨bp, fp, none⟩) N kp) P) := Rp.out.below b
      replace Rq : Hid (Ls w24 (.slice (some ⟨bq, fq, none⟩) N kq) Pr) := Rq.out.below b
      replace Rsa : Hid (Ls w24 (.slice zsa SA.length ksa) SA) := Rsa.out.below b
      replace Rsb : Hid (Ls w24 (.slice zsb SB.length ksb) SB) := Rsb.out.below b
      replace Xa : Hid (Bx w24 w1.heap.size (.slice za A.length ka)) := Xa.out.kept b
      replace ca : w24.cell? ⟨w1.heap.size, 0, none⟩ = some (.slice za A.length ka) := Xa.out.cell
      replace Xb : Hid (Bx w24 w3.heap.size (.slice zb B.length kb)) := Xb.out.kept b
      replace cb : w24.cell? ⟨w3.heap.size, 0, none⟩ = some (.slice zb B.length kb) := Xb.out.cell
      replace Xp : Hid (Bx w24 w5.heap.size (.slice (some ⟨bp, fp, none⟩) N kp)) := Xp.out.kept b
      replace cp : w24.cell? ⟨w5.heap.size, 0, none⟩ = some (.slice (some ⟨bp, fp, none⟩) N kp) := Xp.out.cell
      replace Xq : Hid (Bx w24 w19.heap.size (.slice (some ⟨bq, fq, none⟩) N kq)) := Xq.out.kept b
      replace cq : w24.cell? ⟨w19.heap.size, 0, none⟩ = some (.slice (some ⟨bq, fq, none⟩) N kq) := Xq.out.cell
      replace Xsa : Hid (Bx w24 w21.heap.size (.slice zsa SA.length ksa)) := Xsa.out.kept b
      replace csa : w24.cell? ⟨w21.heap.size, 0, none⟩ = some (.slice zsa SA.length ksa) := Xsa.out.cell
      have Xsb : Hid (Bx w24 w23.heap.size (.slice zsb SB.length ksb)) := x9
      have csb : w24.cell? ⟨w23.heap.size, 0, none⟩ = some (.slice zsb SB.length ksb) := Xsb.out.cell
      clear b hw x9
      refine (HSlP.out _ _ Rp.out).mono ?_
      rintro e w25 ⟨_, rfl, ⟨s, rfl, o⟩, b⟩
      obtain ⟨zsp, ksp, rfl⟩ := o.shape
      replace B0 : Hid (Below w.heap.size w w25) := B0.out.trans (b.mono B0.out.size)
      replace Ra : Hid (Ls w25 (.slice za A.length ka) A) := Ra.out.below b
      replace Rb : Hid (Ls w25 (.slice zb B.length kb) B) := Rb.out.below b
      replace Rp : Hid (Ls w25 (.slice (some ⟨bp, fp, none⟩) N kp) P) := Rp.out.below b
      replace Rq : Hid (Ls w25 (.slice (some ⟨bq, fq, none⟩) N kq) Pr) := Rq.out.below b
      replace Rsa : Hid (Ls w25 (.slice zsa SA.length ksa) SA) := Rsa.out.below b
      replace Rsb : Hid (Ls w25 (.slice zsb SB.length ksb) SB) := Rsb.out.below b
      replace Xa : Hid (Bx w25 w1.heap.size (.slice za A.length ka)) := Xa.out.kept b
      replace ca : w25.cell? ⟨w1.heap.size, 0, none⟩ = some (.slice za A.length ka) := Xa.out.cell
      replace Xb : Hid (Bx w25 w3.heap.size (.slice zb B.length kb)) := Xb.out.kept b
      replace cb : w25.cell? ⟨w3.heap.size, 0, none⟩ = some (.slice zb B.length kb) := Xb.out.cell
      replace Xp : Hid (Bx w25 w5.heap.size (.slice (some ⟨bp, fp, none⟩) N kp)) := Xp.out.kept b
      replace cp : w25.cell? ⟨w5.heap.size, 0, none⟩ = some (.slice (some ⟨bp, fp, none⟩) N kp) := Xp.out.cell
      replace Xq : Hid (Bx w25 w19.heap.size (.slice (some ⟨bq, fq, none⟩) N kq)) := Xq.out.kept b
      replace cq : w25.cell? ⟨w19.heap.size, 0, none⟩ = some (.slice (some ⟨bq, fq, none⟩) N kq) := Xq.out.cell
      replace Xsa : Hid (Bx w25 w21.heap.size (.slice zsa SA.length ksa)) := Xsa.out.kept b
      replace csa : w25.cell? ⟨w21.heap.size, 0, none⟩ = some (.slice zsa SA.length ksa) := Xsa.out.cell
      replace Xsb : Hid (Bx w25 w23.heap.size (.slice zsb SB.length ksb)) := Xsb.out.kept b
      replace csb : w25.cell? ⟨w23.heap.size, 0, none⟩ = some (.slice zsb SB.length ksb) := Xsb.out.cell
      have Rsp : Hid (Ls w25 (.slice zsp SP.length ksp) SP) := o.ls (Nat.le_refl _)
      clear o b
      have da : (w25.alloc (.cells #[(.slice zsp SP.length ksp)] 26)).cell? ⟨w1.heap.size, 0, none⟩ = some (.slice za A.length ka) := (Xa.out.alloc _).cell
      have db : (w25.alloc (.cells #[(.slice zsp SP.length ksp)] 26)).cell? ⟨w3.heap.size, 0, none⟩ = some (.slice zb B.length kb) := (Xb.out.alloc _).cell
      have dp : (w25.alloc (.cells #[(.slice zsp SP.length ksp)] 26)).cell? ⟨w5.heap.size, 0, none⟩ = some (.slice (some ⟨bp, fp, none⟩) N kp) := (Xp.out.alloc _).cell
      have dq : (w25.alloc (.cells #[(.slice zsp SP.length ksp)] 26)).cell? ⟨w19.heap.size, 0, none⟩ = some (.slice (some ⟨bq, fq, none⟩) N kq) := (Xq.out.alloc _).cell
      have dsa : (w25.alloc (.cells #[(.slice zsp SP.length ksp)] 26)).cell? ⟨w21.heap.size, 0, none⟩ = some (.slice zsa SA.length ksa) := (Xsa.out.alloc _).cell
      have dsb : (w25.alloc (.cells #[(.slice zsp SP.length ksp)] 26)).cell? ⟨w23.heap.size, 0, none⟩ = some (.slice zsb SB.length ksb) := (Xsb.out.alloc _).cell
      go_wp2_with fail
      clear da db dp dq dsa dsb
      obtain ⟨w26, hw⟩ : ∃ x, x = w25.alloc (.cells #[(.slice zsp SP.length ksp)] 26) := ⟨_, rfl⟩
      rw [← hw]
      have b : Below w25.heap.size w25 w26 := by rw [hw]; exact new1 _ _
      have x9 : Bx w26 w25.heap.size (.slice zsp SP.length ksp) := by rw [hw]; exact Bx.new _ _ _
      replace B0 : Hid (Below w.heap.size w w26) := B0.out.trans (b.mono B0.out.size)
      replace Ra : Hid (Ls w26 (.slice za A.length ka) A) := Ra.out.below b
      replace Rb : Hid (Ls w26 (.slice zb B.length kb) B) := Rb.out.below b
      replace Rp : Hid (Ls w26 (.slice (some ⟨bp, fp, none⟩) N kp) P) := Rp.out.below b
      replace Rq : Hid (Ls w26 (.slice (some ⟨bq, fq, none⟩) N kq) Pr) := Rq.out.below b
      replace Rsa : Hid (Ls w26 (.slice zsa SA.length ksa) SA) := Rsa.out.below b
      replace Rsb : Hid (Ls w26 (.slice zsb SB.length ksb) SB) := Rsb.out.below b
      replace Rsp : Hid (Ls w26 (.slice zsp SP.length ksp) SP) := Rsp.out.below b
      replace Xa : Hid (Bx w26 w1.heap.size (.slice za A.length ka)) := Xa.out.kept b
      replace ca : w26.cell? ⟨w1.heap.size, 0, none⟩ = some (.slice za A.length ka) := Xa.out.cell
      replace Xb : Hid (Bx w26 w3.heap.size (.slice zb B.length kb)) := Xb.out.kept b
      replace cb : w26.cell? ⟨w3.heap.size, 0, none⟩ = some (.slice zb B.length kb) := Xb.out.cell
      replace Xp : Hid (Bx w26 w5.heap.size (.slice (some ⟨bp, fp, none⟩) N kp)) := Xp.out.kept b
      replace cp : w26.cell? ⟨w5.heap.size, 0, none⟩ = some (.slice (some ⟨bp, fp, none⟩) N kp) := Xp.out.cell
      replace Xq : Hid (Bx w26 w19.heap.size (.slice (some ⟨bq, fq, none⟩) N kq)) := Xq.out.kept b
      replace cq : w26.cell? ⟨w19.heap.size, 0, none⟩ = some (.slice (some ⟨bq, fq, none⟩) N kq) := Xq.out.cell
      replace Xsa : Hid (Bx w26 w21.heap.size (.slice zsa SA.length ksa)) := Xsa.out.kept b
      replace csa : w26.cell? ⟨w21.heap.size, 0, none⟩ = some (.slice zsa SA.length ksa) := Xsa.out.cell
      replace Xsb : Hid (Bx w26 w23.heap.size (.slice zsb SB.length ksb)) := Xsb.out.kept b
      replace csb : w26.cell? ⟨w23.heap.size, 0, none⟩ = some (.slice zsb SB.length ksb) := Xsb.out.cell
      have Xsp : Hid (Bx w26 w25.heap.size (.slice zsp SP.length ksp)) := x9
      have csp : w26.cell? ⟨w25.heap.size, 0, none⟩ = some (.slice zsp SP.length ksp) := Xsp.out.cell
      clear b hw x9
      refine (HAtSA.out _ _ Rsa.out).mono ?_
      rintro e w27 ⟨rfl, b⟩
      replace B0 : Hid (Below w.heap.size w w27) := B0.out.trans (b.mono B0.out.size)
      replace Ra : Hid (Ls w27 (.slice za A.length ka) A) := Ra.out.below b
      replace Rb : Hid (Ls w27 (.slice zb B.length kb) B) := Rb.out.below b
      replace Rp : Hid (Ls w27 (.slice (some ⟨bp, fp, none⟩) N kp) P) := Rp.out.below b
      replace Rq : Hid (Ls w27 (.slice (some ⟨bq, fq, none⟩) N kq) Pr) := Rq.out.below b
      replace Rsa : Hid (Ls w27 (.slice zsa SA.length ksa) SA) := Rsa.out.below b
      replace Rsb : Hid (Ls w27 (.slice zsb SB.length ksb) SB) := Rsb.out.below b
      replace Rsp : Hid (Ls w27 (.slice zsp SP.length ksp) SP) := Rsp.out.below b
      replace Xa : Hid (Bx w27 w1.heap.size (.slice za A.length ka)) := Xa.out.kept b
      replace ca : w27.cell? ⟨w1.heap.size, 0, none⟩ = some (.slice za A.length ka) := Xa.out.cell
      replace Xb : Hid (Bx w27 w3.heap.size (.slice zb B.length kb)) := Xb.out.kept b
      replace cb : w27.cell? ⟨w3.heap.size, 0, none⟩ = some (.slice zb B.length kb) := Xb.out.cell
      replace Xp : Hid (Bx w27 w5.heap.size (.slice (some ⟨bp, fp, none⟩) N kp)) := Xp.out.kept b
      replace cp : w27.cell? ⟨w5.heap.size, 0, none⟩ = some (.slice (some ⟨bp, fp, none⟩) N kp) := Xp.out.cell
      replace Xq : Hid (Bx w27 w19.heap.size (.slice (some ⟨bq, fq, none⟩) N kq)) := Xq.out.kept b
      replace cq : w27.cell? ⟨w19.heap.size, 0, none⟩ = some (.slice (some ⟨bq, fq, none⟩) N kq) := Xq.out.cell
      replace Xsa : Hid (Bx w27 w21.heap.size (.slice zsa SA.length ksa)) := Xsa.out.kept b
      replace csa : w27.cell? ⟨w21.heap.size, 0, none⟩ = some (.slice zsa SA.length ksa) := Xsa.out.cell
      replace Xsb : Hid (Bx w27 w23.heap.size (.slice zsb SB.length ksb)) := Xsb.out.kept b
      replace csb : w27.cell? ⟨w23.heap.size, 0, none⟩ = some (.slice zsb SB.length ksb) := Xsb.out.cell
      replace Xsp : Hid (Bx w27 w25.heap.size (.slice zsp SP.length ksp)) := Xsp.out.kept b
      replace csp : w27.cell? ⟨w25.heap.size, 0, none⟩ = some (.slice zsp SP.length ksp) := Xsp.out.cell
      clear b
      go_wp2_with fail
      refine (HAtSB.out _ _ Rsb.out).mono ?_
      rintro e w28 ⟨rfl, b⟩
      replace B0 : Hid (Below w.heap.size w w28) := B0.out.trans (b.mono B0.out.size)
      replace Ra : Hid (Ls w28 (.slice za A.length ka) A) := Ra.out.below b
      replace Rb : Hid (Ls w28 (.slice zb B.length kb) B) := Rb.out.below b
      replace Rp : Hid (Ls w28 (.slice (some ⟨bp, fp, none⟩) N kp) P) := Rp.out.below b
      replace Rq : Hid (Ls w28 (.slice (some ⟨bq, fq, none⟩) N kq) Pr) := Rq.out.below b
      replace Rsa : Hid (Ls w28 (.slice zsa SA.length ksa) SA) := Rsa.out.below b
      replace Rsb : Hid (Ls w28 (.slice zsb SB.length ksb) SB) := Rsb.out.below b
      replace Rsp : Hid (Ls w28 (.slice zsp SP.length ksp) SP) := Rsp.out.below b
      replace Xa : Hid (Bx w28 w1.heap.size (.slice za A.length ka)) := Xa.out.kept b
      replace ca : w28.cell? ⟨w1.heap.size, 0, none⟩ = some (.slice za A.length ka) := Xa.out.cell
      replace Xb : Hid (Bx w28 w3.heap.size (.slice zb B.length kb)) := Xb.out.kept b
      replace cb : w28.cell? ⟨w3.heap.size, 0, none⟩ = some (.slice zb B.length kb) := Xb.out.cell
      replace Xp : Hid (Bx w28 w5.heap.size (.slice (some ⟨bp, fp, none⟩) N kp)) := Xp.out.kept b
      replace cp : w28.cell? ⟨w5.heap.size, 0, none⟩ = some (.slice (some ⟨bp, fp, none⟩) N kp) := Xp.out.cell
      replace Xq : Hid (Bx w28 w19.heap.size (.slice (some ⟨bq, fq, none⟩) N kq)) := Xq.out.kept b
      replace cq : w28.cell? ⟨w19.heap.size, 0, none⟩ = some (.slice (some ⟨bq, fq, none⟩) N kq) := Xq.out.cell
      replace Xsa : Hid (Bx w28 w21.heap.size (.slice zsa SA.length ksa)) := Xsa.out.kept b
      replace csa : w28.cell? ⟨w21.heap.size, 0, none⟩ = some (.slice zsa SA.length ksa) := Xsa.out.cell
      replace Xsb : Hid (Bx w28 w23.heap.size (.slice zsb SB.length ksb)) := Xsb.out.kept b
      replace csb : w28.cell? ⟨w23.heap.size, 0, none⟩ = some (.slice zsb SB.length ksb) := Xsb.out.cell
      replace Xsp : Hid (Bx w28 w25.heap.size (.slice zsp SP.length ksp)) := Xsp.out.kept b
      replace csp : w28.cell? ⟨w25.heap.size, 0, none⟩ = some (.slice zsp SP.length ksp) := Xsp.out.cell
      clear b
      go_wp2_with fail
      refine (HAtSP.out _ _ Rsp.out).mono ?_
      rintro e w29 ⟨rfl, b⟩
      replace B0 : Hid (Below w.heap.size w w29) := B0.out.trans (b.mono B0.out.size)
      replace Ra : Hid (Ls w29 (.slice za A.length ka) A) := Ra.out.below b
      replace Rb : Hid (Ls w29 (.slice zb B.length kb) B) := Rb.out.below b
      replace Rp : Hid (Ls w29 (.slice (some ⟨bp, fp, none⟩) N kp) P) := Rp.out.below b
      replace Rq : Hid (Ls w29 (.slice (some ⟨bq, fq, none⟩) N kq) Pr) := Rq.out.below b
      replace Rsa : Hid (Ls w29 (.slice zsa SA.length ksa) SA) := Rsa.out.below b
      replace Rsb : Hid (Ls w29 (.slice zsb SB.length ksb) SB) := Rsb.out.below b
      replace Rsp : Hid (Ls w29 (.slice zsp SP.length ksp) SP) := Rsp.out.below b
      replace Xa : Hid (Bx w29 w1.heap.size (.slice za A.length ka)) := Xa.out.kept b
      replace ca : w29.cell? ⟨w1.heap.size, 0, none⟩ = some (.slice za A.length ka) := Xa.out.cell
      replace Xb : Hid (Bx w29 w3.heap.size (.slice zb B.length kb)) := Xb.out.kept b
      replace cb : w29.cell? ⟨w3.heap.size, 0, none⟩ = some (.slice zb B.length kb) := Xb.out.cell
      replace Xp : Hid (Bx w29 w5.heap.size (.slice (some ⟨bp, fp, none⟩) N kp)) := Xp.out.kept b
      replace cp : w29.cell? ⟨w5.heap.size, 0, none⟩ = some (.slice (some ⟨bp, fp, none⟩) N kp) := Xp.out.cell
      replace Xq : Hid (Bx w29 w19.heap.size (.slice (some ⟨bq, fq, none⟩) N kq)) := Xq.out.kept b
      replace cq : w29.cell? ⟨w19.heap.size, 0, none⟩ = some (.slice (some ⟨bq, fq, none⟩) N kq) := Xq.out.cell
      replace Xsa : Hid (Bx w29 w21.heap.size (.slice zsa SA.length ksa)) := Xsa.out.kept b
      replace csa : w29.cell? ⟨w21.heap.size, 0, none⟩ = some (.slice zsa SA.length ksa) := Xsa.out.cell
      replace Xsb : Hid (Bx w29 w23.heap.size (.slice zsb SB.length ksb)) := Xsb.out.kept b
      replace csb : w29.cell? ⟨w23.heap.size, 0, none⟩ = some (.slice zsb SB.length ksb) := Xsb.out.cell
      replace Xsp : Hid (Bx w29 w25.heap.size (.slice zsp SP.length ksp)) := Xsp.out.kept b
      replace csp : w29.cell? ⟨w25.heap.size, 0, none⟩ = some (.slice zsp SP.length ksp) := Xsp.out.cell
      clear b
      obtain ⟨_, _, he, _, _, hq⟩ := Ra.out
      simp only [Value.slice.injEq] at he
      obtain ⟨ba, fa, hqa, hqb, hqc⟩ := hq (by have := bA.out; omega)
      obtain rfl : za = some ⟨ba, fa, none⟩ := he.1.trans hqa
      obtain ⟨i0, hi, hz0, hz1, hz2⟩ := info_parts info_i
      have start : Hid ((w29.alloc (.cells #[] 2)).ownsRow w29.heap.size 2 1 (.slice (some ⟨w29.heap.size, 0, none⟩) 0 0) 0 []) :=
        ⟨rfl, .inr ⟨w29.heap.size, 0, #[], rfl, Nat.le_refl _, heap_alloc_new w29 _, by simp, by decide, rfl, rfl⟩⟩
      have news : Hid (∀ j u, (A.map (Value.int .i64))[j]? = some u → (w29.alloc (.cells #[] 2)).cell? ((⟨ba, fa, none⟩ : Addr).add j) = some u) := fun j u hu => by
        rw [List.getElem?_map] at hu
        cases hz : A[j]? with
        | none => rw [hz] at hu; cases hu
        | some z =>
          rw [hz] at hu
          rw [Addr.add_lit, (new1 w29 _).cell (p := ⟨ba, fa + j, none⟩) hqb, ← Option.some.inj hu]
          exact hqc j z hz
      have len : Hid ((A.map (Value.int .i64)).length = A.length * 1) := by show _ = _; rw [List.length_map]; omega
      have dA := (Xa.out.alloc (.cells #[] 2)).cell
      have bA1 := bA.out.1
      have bA2 := bA.out.2
      clear he hq hqa hqb hqc
      go_wp2_with (first
        | (at_builtin; refine wpList_append_own _ rfl (.tmp 251) (.tmp 253) 24 rfl w29.heap.size 2 i0 (.int .i64 0) 1 8 Try.underlying24 hi hz0 hz1 hz2 rfl (by decide) _ 0 [] rfl start.out ⟨ba, fa, none⟩ A.length ka _ rfl len.out news.out one_of_map (by unfold maxLen; omega) (by omega) (by simp) ?_; intro v1 wa hown1 hgrow1 _; rw [Nat.zero_add, List.nil_append] at hown1; obtain ⟨g1, c1, rfl⟩ := own_shape hown1 (by omega); have BA : Hid (Below w29.heap.size w29 wa) := (new1 w29 _).grown hgrow1 (by simp) (by intro j hj; have hj' : some w29.heap.size = some j := hj; injection hj' with hj'; omega); have HG1 : Hid (w29.heap.size ≤ g1) := row_ge hown1; have RO : Hid (wa.ownsRow w29.heap.size 2 1 (.slice (some ⟨g1, 0, none⟩) A.length c1) A.length (A.map (Value.int .i64))) := hown1; have SA9 : Hid (w29.heap.size ≤ wa.heap.size) := BA.out.size; clear hown1 hgrow1 start news len dA)
        | (at_builtin; refine wpList_append_own _ rfl (.tmp 254) (.tmp 255) 24 rfl w29.heap.size 2 i0 (.int .i64 0) 1 8 Try.underlying24 hi hz0 hz1 hz2 rfl (by decide) _ A.length _ rfl (RO.out.alloc _) ⟨wa.heap.size, 0, none⟩ 2 2 [.int .i64 0, .int .i64 0] rfl rfl (cell_two_new wa _ _ _) (by intro u hu; simp only [List.mem_cons, List.not_mem_nil, or_false, or_self] at hu; subst hu; rfl) (by unfold maxLen; omega) (by omega) (by have := SA9.out; simp; omega) ?_; intro v2 wb hown2 hgrow2 _))
      have b : Below w29.heap.size w29 wb := (BA.out.alloc SA9.out _).grown hgrow2 (by have := SA9.out; simp; omega) (by intro j hj; have hj' : some g1 = some j := hj; injection hj' with hj'; have := HG1.out; omega)
      have R2 : Hid (Ls wb v2 (A ++ [0, 0])) := by
        have h3 : wb.ownsRow w29.heap.size 2 1 v2 (A ++ [0, 0]).length ((A ++ [0, 0]).map (Value.int .i64)) := by
          have e1 : (A ++ [(0 : Int), 0]).length = A.length + 2 := by simp
          have e2 : (A ++ [(0 : Int), 0]).map (Value.int .i64) = A.map (Value.int .i64) ++ [.int .i64 0, .int .i64 0] := by simp
          rw [e1, e2]; exact hown2
        exact (wh.Own.of_row h3 (by simp; omega) (Nat.le_refl _)).ls (Nat.le_refl _)
      obtain ⟨v3, hv3⟩ : ∃ v3, v3 = v2 := ⟨_, rfl⟩
      replace B0 : Hid (Below w.heap.size w wb) := B0.out.trans (b.mono B0.out.size)
      replace Ra : Hid (Ls wb (.slice (some ⟨ba, fa, none⟩) A.length ka) A) := Ra.out.below b
      replace Rb : Hid (Ls wb (.slice zb B.length kb) B) := Rb.out.below b
      replace Rp : Hid (Ls wb (.slice (some ⟨bp, fp, none⟩) N kp) P) := Rp.out.below b
      replace Rq : Hid (Ls wb (.slice (some ⟨bq, fq, none⟩) N kq) Pr) := Rq.out.below b
      replace Rsa : Hid (Ls wb (.slice zsa SA.length ksa) SA) := Rsa.out.below b
      replace Rsb : Hid (Ls wb (.slice zsb SB.length ksb) SB) := Rsb.out.below b
      replace Rsp : Hid (Ls wb (.slice zsp SP.length ksp) SP) := Rsp.out.below b
      replace Xa : Hid (Bx wb w1.heap.size (.slice (some ⟨ba, fa, none⟩) A.length ka)) := Xa.out.kept b
      replace ca : wb.cell? ⟨w1.heap.size, 0, none⟩ = some (.slice (some ⟨ba, fa, none⟩) A.length ka) := Xa.out.cell
      replace Xb : Hid (Bx wb w3.heap.size (.slice zb B.length kb)) := Xb.out.kept b
      replace cb : wb.cell? ⟨w3.heap.size, 0, none⟩ = some (.slice zb B.length kb) := Xb.out.cell
      replace Xp : Hid (Bx wb w5.heap.size (.slice (some ⟨bp, fp, none⟩) N kp)) := Xp.out.kept b
      replace cp : wb.cell? ⟨w5.heap.size, 0, none⟩ = some (.slice (some ⟨bp, fp, none⟩) N kp) := Xp.out.cell
      replace Xq : Hid (Bx wb w19.heap.size (.slice (some ⟨bq, fq, none⟩) N kq)) := Xq.out.kept b
      replace cq : wb.cell? ⟨w19.heap.size, 0, none⟩ = some (.slice (some ⟨bq, fq, none⟩) N kq) := Xq.out.cell
      replace Xsa : Hid (Bx wb w21.heap.size (.slice zsa SA.length ksa)) := Xsa.out.kept b
      replace csa : wb.cell? ⟨w21.heap.size, 0, none⟩ = some (.slice zsa SA.length ksa) := Xsa.out.cell
      replace Xsb : Hid (Bx wb w23.heap.size (.slice zsb SB.length ksb)) := Xsb.out.kept b
      replace csb : wb.cell? ⟨w23.heap.size, 0, none⟩ = some (.slice zsb SB.length ksb) := Xsb.out.cell
      replace Xsp : Hid (Bx wb w25.heap.size (.slice zsp SP.length ksp)) := Xsp.out.kept b
      replace csp : wb.cell? ⟨w25.heap.size, 0, none⟩ = some (.slice zsp SP.length ksp) := Xsp.out.cell
      clear b hown2 hgrow2 hv3 BA RO HG1 SA9
      refine (HFrom.out _ _ R2.out).mono ?_
      rintro e w30 ⟨_, rfl, ⟨s, rfl, o⟩, b⟩
      obtain ⟨zd, kd, rfl⟩ := o.shape
      replace B0 : Hid (Below w.heap.size w w30) := B0.out.trans (b.mono B0.out.size)
      replace Ra : Hid (Ls w30 (.slice (some ⟨ba, fa, none⟩) A.length ka) A) := Ra.out.below b
      replace Rb : Hid (Ls w30 (.slice zb B.length kb) B) := Rb.out.below b
      replace Rp : Hid (Ls w30 (.slice (some ⟨bp, fp, none⟩) N kp) P) := Rp.out.below b
      replace Rq : Hid (Ls w30 (.slice (some ⟨bq, fq, none⟩) N kq) Pr) := Rq.out.below b
      replace Rsa : Hid (Ls w30 (.slice zsa SA.length ksa) SA) := Rsa.out.below b
      replace Rsb : Hid (Ls w30 (.slice zsb SB.length ksb) SB) := Rsb.out.below b
      replace Rsp : Hid (Ls w30 (.slice zsp SP.length ksp) SP) := Rsp.out.below b
      replace Xa : Hid (Bx w30 w1.heap.size (.slice (some ⟨ba, fa, none⟩) A.length ka)) := Xa.out.kept b
      replace ca : w30.cell? ⟨w1.heap.size, 0, none⟩ = some (.slice (some ⟨ba, fa, none⟩) A.length ka) := Xa.out.cell
      replace Xb : Hid (Bx w30 w3.heap.size (.slice zb B.length kb)) := Xb.out.kept b
      replace cb : w30.cell? ⟨w3.heap.size, 0, none⟩ = some (.slice zb B.length kb) := Xb.out.cell
      replace Xp : Hid (Bx w30 w5.heap.size (.slice (some ⟨bp, fp, none⟩) N kp)) := Xp.out.kept b
      replace cp : w30.cell? ⟨w5.heap.size, 0, none⟩ = some (.slice (some ⟨bp, fp, none⟩) N kp) := Xp.out.cell
      replace Xq : Hid (Bx w30 w19.heap.size (.slice (some ⟨bq, fq, none⟩) N kq)) := Xq.out.kept b
      replace cq : w30.cell? ⟨w19.heap.size, 0, none⟩ = some (.slice (some ⟨bq, fq, none⟩) N kq) := Xq.out.cell
      replace Xsa : Hid (Bx w30 w21.heap.size (.slice zsa SA.length ksa)) := Xsa.out.kept b
      replace csa : w30.cell? ⟨w21.heap.size, 0, none⟩ = some (.slice zsa SA.length ksa) := Xsa.out.cell
      replace Xsb : Hid (Bx w30 w23.heap.size (.slice zsb SB.length ksb)) := Xsb.out.kept b
      replace csb : w30.cell? ⟨w23.heap.size, 0, none⟩ = some (.slice zsb SB.length ksb) := Xsb.out.cell
      replace Xsp : Hid (Bx w30 w25.heap.size (.slice zsp SP.length ksp)) := Xsp.out.kept b
      replace csp : w30.cell? ⟨w25.heap.size, 0, none⟩ = some (.slice zsp SP.length ksp) := Xsp.out.cell
      have Rd : Hid (Ls w30 (.slice zd A.length kd) A) := o.ls (Nat.le_refl _)
      clear o b
      have da : (w30.alloc (.cells #[(.slice zd A.length kd)] 26)).cell? ⟨w1.heap.size, 0, none⟩ = some (.slice (some ⟨ba, fa, none⟩) A.length ka) := (Xa.out.alloc _).cell
      have db : (w30.alloc (.cells #[(.slice zd A.length kd)] 26)).cell? ⟨w3.heap.size, 0, none⟩ = some (.slice zb B.length kb) := (Xb.out.alloc _).cell
      have dp : (w30.alloc (.cells #[(.slice zd A.length kd)] 26)).cell? ⟨w5.heap.size, 0, none⟩ = some (.slice (some ⟨bp, fp, none⟩) N kp) := (Xp.out.alloc _).cell
      have dq : (w30.alloc (.cells #[(.slice zd A.length kd)] 26)).cell? ⟨w19.heap.size, 0, none⟩ = some (.slice (some ⟨bq, fq, none⟩) N kq) := (Xq.out.alloc _).cell
      have dsa : (w30.alloc (.cells #[(.slice zd A.length kd)] 26)).cell? ⟨w21.heap.size, 0, none⟩ = some (.slice zsa SA.length ksa) := (Xsa.out.alloc _).cell
      have dsb : (w30.alloc (.cells #[(.slice zd A.length kd)] 26)).cell? ⟨w23.heap.size, 0, none⟩ = some (.slice zsb SB.length ksb) := (Xsb.out.alloc _).cell
      have dsp : (w30.alloc (.cells #[(.slice zd A.length kd)] 26)).cell? ⟨w25.heap.size, 0, none⟩ = some (.slice zsp SP.length ksp) := (Xsp.out.alloc _).cell
      go_wp2_with fail
      clear da db dp dq dsa dsb dsp
      obtain ⟨w31, hw⟩ : ∃ x, x = w30.alloc (.cells #[(.slice zd A.length kd)] 26) := ⟨_, rfl⟩
      rw [← hw]
      have b : Below w30.heap.size w30 w31 := by rw [hw]; exact new1 _ _
      have x9 : Bx w31 w30.heap.size (.slice zd A.length kd) := by rw [hw]; exact Bx.new _ _ _
      replace B0 : Hid (Below w.heap.size w w31) := B0.out.trans (b.mono B0.out.size)
      replace Ra : Hid (Ls w31 (.slice (some ⟨ba, fa, none⟩) A.length ka) A) := Ra.out.below b
      replace Rb : Hid (Ls w31 (.slice zb B.length kb) B) := Rb.out.below b
      replace Rp : Hid (Ls w31 (.slice (some ⟨bp, fp, none⟩) N kp) P) := Rp.out.below b
      replace Rq : Hid (Ls w31 (.slice (some ⟨bq, fq, none⟩) N kq) Pr) := Rq.out.below b
      replace Rsa : Hid (Ls w31 (.slice zsa SA.length ksa) SA) := Rsa.out.below b
      replace Rsb : Hid (Ls w31 (.slice zsb SB.length ksb) SB) := Rsb.out.below b
      replace Rsp : Hid (Ls w31 (.slice zsp SP.length ksp) SP) := Rsp.out.below b
      replace Rd : Hid (Ls w31 (.slice zd A.length kd) A) := Rd.out.below b
      replace Xa : Hid (Bx w31 w1.heap.size (.slice (some ⟨ba, fa, none⟩) A.length ka)) := Xa.out.kept b
      replace ca : w31.cell? ⟨w1.heap.size, 0, none⟩ = some (.slice (some ⟨ba, fa, none⟩) A.length ka) := Xa.out.cell
      replace Xb : Hid (Bx w31 w3.heap.size (.slice zb B.length kb)) := Xb.out.kept b
      replace cb : w31.cell? ⟨w3.heap.size, 0, none⟩ = some (.slice zb B.length kb) := Xb.out.cell
      replace Xp : Hid (Bx w31 w5.heap.size (.slice (some ⟨bp, fp, none⟩) N kp)) := Xp.out.kept b
      replace cp : w31.cell? ⟨w5.heap.size, 0, none⟩ = some (.slice (some ⟨bp, fp, none⟩) N kp) := Xp.out.cell
      replace Xq : Hid (Bx w31 w19.heap.size (.slice (some ⟨bq, fq, none⟩) N kq)) := Xq.out.kept b
      replace cq : w31.cell? ⟨w19.heap.size, 0, none⟩ = some (.slice (some ⟨bq, fq, none⟩) N kq) := Xq.out.cell
      replace Xsa : Hid (Bx w31 w21.heap.size (.slice zsa SA.length ksa)) := Xsa.out.kept b
      replace csa : w31.cell? ⟨w21.heap.size, 0, none⟩ = some (.slice zsa SA.length ksa) := Xsa.out.cell
      replace Xsb : Hid (Bx w31 w23.heap.size (.slice zsb SB.length ksb)) := Xsb.out.kept b
      replace csb : w31.cell? ⟨w23.heap.size, 0, none⟩ = some (.slice zsb SB.length ksb) := Xsb.out.cell
      replace Xsp : Hid (Bx w31 w25.heap.size (.slice zsp SP.length ksp)) := Xsp.out.kept b
      replace csp : w31.cell? ⟨w25.heap.size, 0, none⟩ = some (.slice zsp SP.length ksp) := Xsp.out.cell
      have Xd : Hid (Bx w31 w30.heap.size (.slice zd A.length kd)) := x9
      have cd : w31.cell? ⟨w30.heap.size, 0, none⟩ = some (.slice zd A.length kd) := Xd.out.cell
      clear b hw x9
      refine (whole_any ⟨_, rfl, Rd.out⟩ ⟨_, rfl, Ra.out⟩ (by omega)).mono ?_
      rintro e w32 ⟨rfl, b⟩
      replace B0 : Hid (Below w.heap.size w w32) := B0.out.trans (b.mono B0.out.size)
      replace Ra : Hid (Ls w32 (.slice (some ⟨ba, fa, none⟩) A.length ka) A) := Ra.out.below b
      replace Rb : Hid (Ls w32 (.slice zb B.length kb) B) := Rb.out.below b
      replace Rp : Hid (Ls w32 (.slice (some ⟨bp, fp, none⟩) N kp) P) := Rp.out.below b
      replace Rq : Hid (Ls w32 (.slice (some ⟨bq, fq, none⟩) N kq) Pr) := Rq.out.below b
      replace Rsa : Hid (Ls w32 (.slice zsa SA.length ksa) SA) := Rsa.out.below b
      replace Rsb : Hid (Ls w32 (.slice zsb SB.length ksb) SB) := Rsb.out.below b
      replace Rsp : Hid (Ls w32 (.slice zsp SP.length ksp) SP) := Rsp.out.below b
      replace Rd : Hid (Ls w32 (.slice zd A.length kd) A) := Rd.out.below b
      replace Xa : Hid (Bx w32 w1.heap.size (.slice (some ⟨ba, fa, none⟩) A.length ka)) := Xa.out.kept b
      replace ca : w32.cell? ⟨w1.heap.size, 0, none⟩ = some (.slice (some ⟨ba, fa, none⟩) A.length ka) := Xa.out.cell
      replace Xb : Hid (Bx w32 w3.heap.size (.slice zb B.length kb)) := Xb.out.kept b
      replace cb : w32.cell? ⟨w3.heap.size, 0, none⟩ = some (.slice zb B.length kb) := Xb.out.cell
      replace Xp : Hid (Bx w32 w5.heap.size (.slice (some ⟨bp, fp, none⟩) N kp)) := Xp.out.kept b
      replace cp : w32.cell? ⟨w5.heap.size, 0, none⟩ = some (.slice (some ⟨bp, fp, none⟩) N kp) := Xp.out.cell
      replace Xq : Hid (Bx w32 w19.heap.size (.slice (some ⟨bq, fq, none⟩) N kq)) := Xq.out.kept b
      replace cq : w32.cell? ⟨w19.heap.size, 0, none⟩ = some (.slice (some ⟨bq, fq, none⟩) N kq) := Xq.out.cell
      replace Xsa : Hid (Bx w32 w21.heap.size (.slice zsa SA.length ksa)) := Xsa.out.kept b
      replace csa : w32.cell? ⟨w21.heap.size, 0, none⟩ = some (.slice zsa SA.length ksa) := Xsa.out.cell
      replace Xsb : Hid (Bx w32 w23.heap.size (.slice zsb SB.length ksb)) := Xsb.out.kept b
      replace csb : w32.cell? ⟨w23.heap.size, 0, none⟩ = some (.slice zsb SB.length ksb) := Xsb.out.cell
      replace Xsp : Hid (Bx w32 w25.heap.size (.slice zsp SP.length ksp)) := Xsp.out.kept b
      replace csp : w32.cell? ⟨w25.heap.size, 0, none⟩ = some (.slice zsp SP.length ksp) := Xsp.out.cell
      replace Xd : Hid (Bx w32 w30.heap.size (.slice zd A.length kd)) := Xd.out.kept b
      replace cd : w32.cell? ⟨w30.heap.size, 0, none⟩ = some (.slice zd A.length kd) := Xd.out.cell
      clear b
      go_wp2_with fail
      go_ret
      exact ⟨rfl, B0.out⟩
end Go.Proofs.Ytcocidlijdfmmaa.fnWholesW
