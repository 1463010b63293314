/- Greatest common wholes: the model's rest. -/
import Derived.Test.YtbbdhbamooaloaaCwJ
import Derived.Deep.RegionHeld3
namespace Go.Pl
/-- n items by their places -/
def lf (f : Nat → Int) (n : Nat) : List Int := (List.range n).map f
theorem lf_len (f : Nat → Int) (n : Nat) : (lf f n).length = n := by simp [lf]
theorem lf_get (f : Nat → Int) {n j : Nat} (h : j < n) : (lf f n)[j]? = some (f j) := by simp [lf, h]
theorem lf_ext {f g : Nat → Int} {n : Nat} (h : ∀ j, j < n → f j = g j) : lf f n = lf g n := by
  apply List.ext_getElem?
  intro j
  by_cases hj : j < n
  · rw [lf_get f hj, lf_get g hj, h j hj]
  · rw [List.getElem?_eq_none (by rw [lf_len]; omega), List.getElem?_eq_none (by rw [lf_len]; omega)]
theorem lf_set {f g : Nat → Int} {n k : Nat} {z : Int} (hk : k < n) (h1 : g k = z) (h2 : ∀ j, j < n → j ≠ k → g j = f j) : (lf f n).set k z = lf g n := by
  apply List.ext_getElem?
  intro j
  by_cases hj : j < n
  · by_cases e : j = k
    · subst e
      rw [List.getElem?_set_self (by rw [lf_len]; exact hk), lf_get g hj, h1]
    · rw [List.getElem?_set_ne (by omega), lf_get f hj, lf_get g hj, h2 j hj e]
  · rw [List.getElem?_eq_none (by rw [List.length_set, lf_len]; omega), List.getElem?_eq_none (by rw [lf_len]; omega)]
theorem lf_at (X : List Int) : lf (at' X) X.length = X := by
  apply List.ext_getElem?
  intro j
  by_cases hj : j < X.length
  · rw [lf_get _ hj, at_some X j hj]
  · rw [List.getElem?_eq_none (by rw [lf_len]; omega), List.getElem?_eq_none (by omega)]
def m1 (X : List Int) (y : Int) (k j : Nat) : Int := if j < k then at' X j * y else at' X j
def m2 (X B : List Int) (y p : Int) (d k j : Nat) : Int := at' X j * y - (if d ≤ j ∧ j < d + k then p * at' B (j - d) else 0)
theorem m1_zero (X : List Int) (y : Int) : lf (m1 X y 0) X.length = X := by
  rw [lf_ext (f := m1 X y 0) (g := at' X) (fun j _ => if_neg (by omega)), lf_at]
theorem m1_set (X : List Int) (y : Int) {n k : Nat} (hk : k < n) : (lf (m1 X y k) n).set k (at' X k * y) = lf (m1 X y (k + 1)) n :=
  lf_set hk (if_pos (by omega)) fun j _ hne => by
    unfold m1
    by_cases h : j < k
    · rw [if_pos h, if_pos (by omega)]
    · rw [if_neg h, if_neg (by omega)]
theorem m2_zero (X B : List Int) (y p : Int) (d n : Nat) : lf (m1 X y n) n = lf (m2 X B y p d 0) n :=
  lf_ext fun j hj => by
    unfold m1 m2
    rw [if_pos hj, if_neg (by omega)]
    omega
theorem m2_set (X B : List Int) (y p : Int) {d n k : Nat} (hk : d + k < n) : (lf (m2 X B y p d k) n).set (d + k) (at' X (d + k) * y - p * at' B k) = lf (m2 X B y p d (k + 1)) n :=
  lf_set hk (by unfold m2; rw [if_pos (by omega), show d + k - d = k by omega]) fun j _ hne => by
    unfold m2
    by_cases h : d ≤ j ∧ j < d + k
    · rw [if_pos h, if_pos (by omega)]
    · rw [if_neg h, if_neg (by omega)]
theorem m2_at (X B : List Int) (y p : Int) (d k : Nat) : m2 X B y p d k (d + k) = at' X (d + k) * y := by
  unfold m2
  rw [if_neg (by omega)]
  omega
theorem m2_end {X B : List Int} (h : B.length ≤ X.length) : lf (m2 X B (at' B (B.length - 1)) (at' X (X.length - 1)) (X.length - B.length) B.length) X.length = wlr X B :=
  lf_ext fun j hj => by
    unfold m2 wlt
    by_cases h1 : j < X.length - B.length
    · rw [if_neg (by omega), if_pos h1]
      omega
    · rw [if_pos (by omega), if_neg h1]
end Go.Pl
namespace Go.Proofs.Ytbbdhbamooaloaa.wh
open Go.RowKit Go.Pl

set_option maxRecDepth 100000 in
set_option maxHeartbeats 6400000 in
theorem srest_any {va vb : Value} {A B : List Int} {w : World} (ha : Ls w va A) (hb : Ls w vb B) (hA : Val A) (hB : Val B) :
    Calls Try.prog 119 #[va, vb] w fun e w' => (match prs B (mv A) A with | none => e = .returned (.tuple #[.slice none 0 0, .bool false]) | some R => ∃ v, e = .returned (.tuple #[v, .bool true]) ∧ Own w' w.heap.size w'.heap.size v R) ∧ Below w.heap.size w w' := by
  obtain ⟨RES, hRES⟩ : ∃ r, r = prs B (mv A) A := ⟨_, rfl⟩
  rw [← hRES]
  suffices H : ∀ P : Ending → World → Prop, (∀ w', RES = none → Below w.heap.size w w' → P (.returned (.tuple #[.slice none 0 0, .bool false])) w') →
      (∀ R v w', RES = some R → Own w' w.heap.size w'.heap.size v R → Below w.heap.size w w' → P (.returned (.tuple #[v, .bool true])) w') →
      Calls Try.prog 119 #[va, vb] w P by
    refine H _ (fun w' h hb => ⟨by rw [h], hb⟩) (fun R v w' h ho hb => ⟨?_, hb⟩)
    rw [h]
    exact ⟨v, rfl, ho⟩
  intro P hpn hps
  have HPN : Hid (∀ w', RES = none → Below w.heap.size w w' → P (.returned (.tuple #[.slice none 0 0, .bool false])) w') := hpn
  have HPS : Hid (∀ R v w', RES = some R → Own w' w.heap.size w'.heap.size v R → Below w.heap.size w w' → P (.returned (.tuple #[v, .bool true])) w') := hps
  obtain ⟨i0, hi, hz0, hz1, hz2⟩ := info_parts info_i
  have HVA : Hid (Val A) := hA
  have HVB : Hid (Val B) := hB
  have HR0 : Hid (prs B (mv A) A = RES) := hRES.symm
  obtain ⟨ao, cap, rfl, hn, hcap, hc⟩ := ha
  obtain ⟨bo, cap1, rfl, hn1, hcap1, hc1⟩ := hb
  have hA1 := hA.pos
  have hA2 := hA.le
  have hB1 := hB.pos
  have hB2 := hB.le
  obtain ⟨b, off, rfl, hbw, hcell⟩ := hc (by omega)
  obtain ⟨bb, ob, rfl, hbb, hcb⟩ := hc1 (by omega)
  have CB : Hid (∀ (k : Nat) (z : Int), B[k]? = some z → w.cell? ⟨bb, ob + k, none⟩ = some (.int .i64 z)) := hcb
  have LB : Hid (bb < w.heap.size) := hbb
  have start : Hid ((w.alloc (.cells #[] 2)).ownsRow w.heap.size 2 1 (.slice (some ⟨w.heap.size, 0, none⟩) 0 0) 0 []) :=
    ⟨rfl, .inr ⟨w.heap.size, 0, #[], rfl, Nat.le_refl _, heap_alloc_new w _, by simp, by decide, rfl, rfl⟩⟩
  have news : Hid (∀ j u, (A.map (Value.int .i64))[j]? = some u → (w.alloc (.cells #[] 2)).cell? ((⟨b, off, none⟩ : Addr).add j) = some u) := fun j u hu => by
    rw [List.getElem?_map] at hu
    cases hz : A[j]? with
    | none => rw [hz] at hu; cases hu
    | some z =>
      rw [hz] at hu
      rw [Addr.add_lit, (new1 w _).cell (p := ⟨b, off + j, none⟩) hbw, ← Option.some.inj hu]
      exact hcell j z hz
  obtain ⟨la, hla⟩ : ∃ n, n = A.length := ⟨_, rfl⟩
  obtain ⟨lb, hlb⟩ : ∃ n, n = B.length := ⟨_, rfl⟩
  have HNE : Hid (A ≠ []) := hA.ne
  have HN : Hid (la = A.length ∧ lb = B.length ∧ 1 ≤ lb ∧ lb ≤ 17) := ⟨hla, hlb, by omega, by omega⟩
  have len : Hid ((A.map (Value.int .i64)).length = la * 1) := by show _ = _; rw [List.length_map]; omega
  have done : Hid (∀ v' w1, w1.ownsRow w.heap.size 2 1 v' (0 + la) ([] ++ A.map (Value.int .i64)) → (w.alloc (.cells #[] 2)).grownBy w1 (some w.heap.size) → Own w1 w.heap.size w1.heap.size v' A ∧ Below w.heap.size w w1) := fun v' w1 ho hg => by
    rw [Nat.zero_add, List.nil_append, hla] at ho
    exact ⟨Own.of_row ho hn (Nat.le_refl _), (new1 w _).grown hg (by simp) (fun j hj => by injection hj with hj; omega)⟩
  obtain ⟨y, hy⟩ : ∃ y, y = at' B (B.length - 1) := ⟨_, rfl⟩
  have HY : Hid (y = at' B (B.length - 1)) := hy
  have ely : w.cell? ⟨bb, ob + (lb - 1), none⟩ = some (.int .i64 y) := by rw [hy, hlb]; exact hcb _ _ (at_some B _ (by omega))
  have HEL : Hid (w.cell? ⟨bb, ob + (lb - 1), none⟩ = some (.int .i64 y)) := ely
  have hlb1 : 1 ≤ lb := by omega
  have hlb2 : lb ≤ 17 := by omega
  have hla1 : 1 ≤ la := by omega
  have hla2 : la ≤ 17 := by omega
  rw [← hla] at hcap
  rw [← hla, ← hlb]
  clear hRES hpn hps hA hB hn hn1 hc hc1 hcap1 hA1 hA2 hB1 hB2 hcell hcb hbw hbb ely hy hla hlb
  go_enter Try.func119, Try.ntmps119
  go_wp2_with (first
    | (at_builtin; refine wpList_append_own _ rfl (.tmp 15) (.tmp 16) 22 rfl w.heap.size 2 i0 (.int .i64 0) 1 8 Try.underlying22 hi hz0 hz1 hz2 rfl (by decide) _ 0 [] rfl start.out ⟨b, off, none⟩ la cap _ rfl len.out news.out one_of_map (by unfold maxLen; omega) (by omega) (by simp) ?_; intro v' w1 hown' hgrow _; obtain ⟨o1, b1⟩ := done.out _ _ hown' hgrow; obtain ⟨g1, cp1, rfl, hg1, hg2, hcp, hg3⟩ := o1.block HNE.out; have O1 : Hid (Own w1 w.heap.size w1.heap.size (.slice (some ⟨g1, 0, none⟩) A.length cp1) A) := o1; have B1 : Hid (Below w.heap.size w w1) := b1; have HG1 : Hid (w.heap.size ≤ g1 ∧ g1 < w1.heap.size) := ⟨hg1, hg2⟩; clear o1 b1 hg1 hg2 hcp hg3 hown' hgrow))
  clear hi hz0 hz1 hz2 start news len done
  go_loopg [7] (mv A) (fun k x wr => ∃ (X : List Int) (g xc : Nat), x = .slice (some ⟨g, 0, none⟩) X.length xc ∧ mv X ≤ k ∧ Hid (prs B k X = RES) ∧ Hid (Val X) ∧ Hid (Own wr w.heap.size wr.heap.size (.slice (some ⟨g, 0, none⟩) X.length xc) X) ∧ Hid (Below w.heap.size w wr))
  case atStart => exact ⟨A, g1, cp1, rfl, Nat.le_refl _, HR0, HVA, O1, B1⟩
  case round =>
    obtain ⟨X, g, xc, rfl, hk, hrs, hv, hx, hb⟩ := hrel
    clear O1 B1 HG1
    by_cases hc : B.length ≤ X.length
    case neg =>
      have HRR : Hid (RES = some X) := by
        show _ = _
        rw [← hrs.out]
        exact prs_end (fun h => hc h.1)
      have hc' : (X.length : Int) < (lb : Int) := by have := HN.out; omega
      clear hc hrs
      go_wp2_with fail
      exact HPS.out _ _ _ HRR.out hx.out hb.out
    have hc' : (lb : Int) ≤ (X.length : Int) := by have := HN.out; omega
    by_cases h0 : X = [0]
    · have HZ : Hid (decide (X = [0]) = true) := decide_eq_true h0
      have HRR : Hid (RES = some X) := by
        show _ = _
        rw [← hrs.out]
        exact prs_end (fun h => h.2 h0)
      clear h0 hrs hc
      go_wp2_with fail
      refine (szero_any (hx.out.ls (Nat.le_refl _))).mono ?_
      rintro e w1 ⟨rfl, hw1⟩
      rw [hw1, HZ.out]
      clear hw1
      go_wp2_with fail
      exact HPS.out _ _ _ HRR.out hx.out hb.out
    have HZ : Hid (decide (X = [0]) = false) := decide_eq_false h0
    have hmx := mv_pos h0
    have hvp := hv.out.pos
    have hvl := hv.out.le
    obtain ⟨j, rfl⟩ : ∃ j, gk = j + 1 := ⟨gk - 1, by omega⟩
    have hwl := wl_len hvp HVB.out.pos hc
    have HC : Hid (B.length ≤ X.length ∧ X ≠ [0]) := ⟨hc, h0⟩
    have HM : Hid (mv (wl X B) ≤ j) := by show _ ≤ _; omega
    obtain ⟨n, hn⟩ : ∃ n, n = X.length := ⟨_, rfl⟩
    obtain ⟨d, hd⟩ : ∃ d, d = n - lb := ⟨_, rfl⟩
    obtain ⟨p, hp⟩ : ∃ p, p = at' X (X.length - 1) := ⟨_, rfl⟩
    have HXN : Hid (n = X.length ∧ d + lb = n) := ⟨hn, by have := HN.out; omega⟩
    have HP : Hid (p = at' X (X.length - 1)) := hp
    have e9 : wr.cell? ⟨g, n - 1, none⟩ = some (.int .i64 p) := hx.out.cell (by rw [hp, hn]; exact at_some X _ (by omega))
    have q1 : (n : Int) - 1 = ((n - 1 : Nat) : Int) := by omega
    have q2 : (n : Int) - (lb : Int) = (d : Int) := by omega
    have q3 : (lb : Int) - 1 = ((lb - 1 : Nat) : Int) := by omega
    have qn : 1 ≤ n ∧ n ≤ 17 ∧ d + lb = n := by omega
    rw [← hn] at hc' hx ⊢
    have HG : Hid (w.heap.size ≤ g) := by obtain ⟨_, _, _, _, h, _⟩ := hx.out.open; exact h
    have HBE : Hid (∀ k j, (-1000000000000 ≤ at' X k * at' B j ∧ at' X k * at' B j ≤ 1000000000000)) := fun k j => val_prod hv.out HVB.out k j
    clear h0 hmx hvp hvl hwl hc hn hd hp hk
    obtain ⟨n1, hn1⟩ : ∃ n1, n1 = n - 1 := ⟨_, rfl⟩
    obtain ⟨m1', hm1⟩ : ∃ m1', m1' = lb - 1 := ⟨_, rfl⟩
    have HEM : Hid (w.cell? ⟨bb, ob + m1', none⟩ = some (.int .i64 y)) := by rw [hm1]; exact HEL.out
    rw [← hn1] at q1 e9
    rw [← hm1] at q3
    have qm : n1 + 1 = n ∧ m1' + 1 = lb := by omega
    clear hn1 hm1
    have hyb : ∀ k : Nat, -1000000000000 ≤ at' X k * y ∧ at' X k * y ≤ 1000000000000 := fun k => by rw [HY.out]; exact HBE.out _ _
    have HYB : Hid (∀ k : Nat, -1000000000000 ≤ at' X k * y ∧ at' X k * y ≤ 1000000000000) := hyb
    have HPB : Hid (∀ k : Nat, -1000000000000 ≤ p * at' B k ∧ p * at' B k ≤ 1000000000000) := fun k => by rw [HP.out]; exact HBE.out _ _
    have start1 : Hid (Own wr w.heap.size wr.heap.size (.slice (some ⟨g, 0, none⟩) n xc) (lf (m1 X y 0) n)) := by rw [HXN.out.1, m1_zero, ← HXN.out.1]; exact hx.out
    clear hyb
    go_wp2_with fail
    refine (szero_any (L := X) (hx.out.ls (Nat.le_refl _))).mono ?_
    rintro e w1 ⟨rfl, hw1⟩
    rw [hw1, HZ.out]
    clear hw1
    go_wp2_with fail
    clear e9
    go_loopw [39] (fun t wr => ∃ k : Nat, k ≤ n ∧ t = .int .i64 k ∧ Hid (Own wr w.heap.size wr.heap.size (.slice (some ⟨g, 0, none⟩) n xc) (lf (m1 X y k) n)) ∧ Hid (Below w.heap.size w wr)) (fun t _ => n - (intOf t).toNat)
    case atStart => exact ⟨0, by omega, rfl, start1, hb⟩
    case round =>
      obtain ⟨k, hk, rfl, ho, hb⟩ := hrel
      clear start1 hx
      by_cases hlt : k < n
      · have e1 : wr.cell? ⟨g, k, none⟩ = some (.int .i64 (at' X k)) := by rw [ho.out.cell (lf_get _ hlt)]; unfold m1; rw [if_neg (by omega)]
        have e2 : wr.cell? ⟨bb, ob + m1', none⟩ = some (.int .i64 y) := (hb.out.cell (p := ⟨bb, ob + m1', none⟩) LB.out).trans HEM.out
        have e3 := ho.out.free k
        have ho' : Own wr.drew w.heap.size wr.drew.heap.size (.slice (some ⟨g, 0, none⟩) n xc) (lf (m1 X y k) n) := ho.out.stay fun _ _ _ _ => rfl
        have HO : Hid (Own (wr.drew.setCell ⟨g, k, none⟩ (.int .i64 (at' X k * y))) w.heap.size (wr.drew.setCell ⟨g, k, none⟩ (.int .i64 (at' X k * y))).heap.size (.slice (some ⟨g, 0, none⟩) n xc) (lf (m1 X y (k + 1)) n)) := by
          have h := ho'.put k (at' X k * y)
          rw [m1_set X y hlt] at h
          exact h.wide (Nat.le_refl _) (by simp [World.setCell])
        have HB : Hid (Below w.heap.size w (wr.drew.setCell ⟨g, k, none⟩ (.int .i64 (at' X k * y)))) := hb.out.drew.setCell HG.out _
        have hw := HYB.out k
        have hst := store_int (b := at' X k * y) (show wr.drew.cell? _ = _ from e1) (show wr.drew.frozen? _ = _ from e3)
        clear ho' ho hb
        generalize at' X k = a at *
        have w1' : IntKind.i64.wrap (a * y) = a * y := IntWalk.i64_in _ (by omega)
        have w2' : wrap64 (a * y) = a * y := IntWalk.wrap64_in _ (by omega)
        clear hw
        go_wp2_with fail
        go_region
        go_wp2
        go_roundw
        case rel => exact ⟨k + 1, by omega, by go_num, HO, HB⟩
        case measure => simp [intOf]; omega
      · obtain rfl : n = k := by omega
        have start2 : Hid (Own wr w.heap.size wr.heap.size (.slice (some ⟨g, 0, none⟩) n xc) (lf (m2 X B y p d 0) n)) := by rw [← m2_zero]; exact ho.out
        clear ho
        go_wp2_with fail
        go_loopw [56] (fun t wr => ∃ k : Nat, k ≤ lb ∧ t = .int .i64 k ∧ Hid (Own wr w.heap.size wr.heap.size (.slice (some ⟨g, 0, none⟩) n xc) (lf (m2 X B y p d k) n)) ∧ Hid (Below w.heap.size w wr)) (fun t _ => lb - (intOf t).toNat)
        case atStart => exact ⟨0, by omega, rfl, start2, hb⟩
        case round =>
          obtain ⟨k, hk2, rfl, ho, hb⟩ := hrel
          clear start2
          by_cases hltk : k < lb
          · have hdk : d + k < n := by omega
            have e1 : wr.cell? ⟨g, d + k, none⟩ = some (.int .i64 (at' X (d + k) * y)) := by rw [ho.out.cell (lf_get _ hdk), m2_at]
            have e2 : wr.cell? ⟨bb, ob + k, none⟩ = some (.int .i64 (at' B k)) := (hb.out.cell (p := ⟨bb, ob + k, none⟩) LB.out).trans (CB.out k _ (at_some B k (by have := HN.out; omega)))
            have e3 := ho.out.free (d + k)
            have ho' : Own wr.drew w.heap.size wr.drew.heap.size (.slice (some ⟨g, 0, none⟩) n xc) (lf (m2 X B y p d k) n) := ho.out.stay fun _ _ _ _ => rfl
            have h := ho'.put (d + k) (at' X (d + k) * y - p * at' B k)
            rw [m2_set X B y p hdk] at h
            obtain ⟨z, hz⟩ : ∃ z, z = at' X (d + k) * y - p * at' B k := ⟨_, rfl⟩
            rw [← hz] at h
            have HO : Hid (Own (wr.drew.setCell ⟨g, d + k, none⟩ (.int .i64 z)) w.heap.size (wr.drew.setCell ⟨g, d + k, none⟩ (.int .i64 z)).heap.size (.slice (some ⟨g, 0, none⟩) n xc) (lf (m2 X B y p d (k + 1)) n)) := h.wide (Nat.le_refl _) (by simp [World.setCell])
            have HB : Hid (Below w.heap.size w (wr.drew.setCell ⟨g, d + k, none⟩ (.int .i64 z))) := hb.out.drew.setCell HG.out _
            have hw1 := HYB.out (d + k)
            have hw2 := HPB.out k
            have hst := store_int (b := z) (show wr.drew.cell? _ = _ from e1) (show wr.drew.frozen? _ = _ from e3)
            clear ho' ho hb h
            generalize at' X (d + k) * y = a at *
            generalize at' B k = c at *
            have q4 : (0 : Int) ≤ (d : Int) + (k : Int) := by omega
            have q5 : (d : Int) + (k : Int) < (n : Int) := by omega
            have q6 : IntKind.i64.wrap ((d : Int) + (k : Int)) = (d : Int) + (k : Int) := IntWalk.i64_in _ (by omega)
            have q7 : wrap64 ((d : Int) + (k : Int)) = (d : Int) + (k : Int) := IntWalk.wrap64_in _ (by omega)
            have q8 : ((d : Int) + (k : Int)).toNat = d + k := by rw [show (d : Int) + (k : Int) = ((d + k : Nat) : Int) from (Int.natCast_add d k).symm, Int.toNat_natCast]
            have w1' : IntKind.i64.wrap (p * c) = p * c := IntWalk.i64_in _ (by omega)
            have w2' : wrap64 (p * c) = p * c := IntWalk.wrap64_in _ (by omega)
            have w3' : IntKind.i64.wrap (a - p * c) = z := by rw [hz]; exact IntWalk.i64_in _ (by omega)
            have w4' : wrap64 (a - p * c) = z := by rw [hz]; exact IntWalk.wrap64_in _ (by omega)
            clear hw1 hw2 hz
            go_wp2_with fail
            go_region
            go_wp2
            go_roundw
            case rel => exact ⟨k + 1, by omega, by go_num, HO, HB⟩
            case measure => simp [intOf]; omega
          · obtain rfl : lb = k := by omega
            have OW : Hid (Own wr w.heap.size wr.heap.size (.slice (some ⟨g, 0, none⟩) n xc) (wlr X B)) := by
              have h := m2_end HC.out.1
              rw [← HY.out, ← HP.out, ← HN.out.2.1, ← HXN.out.1, show n - lb = d by have := HXN.out; omega] at h
              rw [← h]
              exact ho.out
            have HWL : Hid ((wlr X B).length ≤ 2097152) := by show _ ≤ _; rw [wlr_len, ← HXN.out.1]; omega
            have HVW : Hid (wok (wl X B) = true → Val (wl X B)) := fun h => wl_val hv.out HVB.out HC.out.1 h
            have HRN : Hid (wok (wl X B) = false → RES = none) := fun h => by rw [← hrs.out]; exact prs_no HC.out h
            have HRG : Hid (wok (wl X B) = true → prs B j (wl X B) = RES) := fun h => by rw [← hrs.out]; exact (prs_go HC.out h).symm
            have HWD : Hid (wl X B ≠ [] ∧ wl X B = trim (wlr X B)) := ⟨ne_of_len (trim_pos _), rfl⟩
            have BB : Hid (Below w.heap.size w wr) := hb
            clear ho hb hrs hv HC HYB HPB HBE
            go_wp2_with fail
            refine (trim_any (OW.out.ls (Nat.le_refl _)) HWL.out).mono ?_
            rintro e w2 ⟨v2, rfl, o, b2⟩
            rw [← HWD.out.2] at o
            obtain ⟨g2, c2, rfl, hg2, hg3, hg4, hg5⟩ := o.block HWD.out.1
            have O2 : Hid (Own w2 w.heap.size w2.heap.size (.slice (some ⟨g2, 0, none⟩) (wl X B).length c2) (wl X B)) := o.wide BB.out.size (Nat.le_refl _)
            have B2 : Hid (Below w.heap.size w w2) := BB.out.trans (b2.mono BB.out.size)
            clear o b2 hg2 hg3 hg4 hg5 OW HWL HWD
            generalize wl X B = Y at *
            obtain ⟨ny, hny⟩ : ∃ ny, ny = Y.length := ⟨_, rfl⟩
            have HNY : Hid (ny = Y.length) := hny
            rw [← hny] at O2 ⊢
            have hcy : ny ≤ c2 := by obtain ⟨_, _, _, h, _⟩ := O2.out.open; rw [hny]; exact h
            have hny17 : ny ≤ 9223372036854775807 := by rw [hny]; exact O2.out.1
            clear hny
            go_wp2_with fail
            go_loop [78] (fun t => ∃ k : Nat, k ≤ ny ∧ t = .int .i64 k ∧ Hid (∀ j z, j < k → Y[j]? = some z → -1000000 ≤ z ∧ z ≤ 1000000)) (fun t => ny - (intOf t).toNat)
            case atStart => exact ⟨0, by omega, rfl, fun j z hj => by omega⟩
            case round =>
              obtain ⟨k, hk3, rfl, hr⟩ := hrel
              by_cases hlt3 : k < ny
              · obtain ⟨z, hz⟩ := get_some Y k (by have := HNY.out; omega)
                have e1 := O2.out.cell hz
                by_cases hin : -1000000 ≤ z ∧ z ≤ 1000000
                · have HR : Hid (∀ j z, j < k + 1 → Y[j]? = some z → -1000000 ≤ z ∧ z ≤ 1000000) := fun j y hj hy => by
                    by_cases e : j = k
                    · rw [e, hz] at hy; injection hy with hy; omega
                    · exact hr.out j y (by omega) hy
                  clear hr hz
                  go_wp2_with fail
                  refine (in_any z _ _ _).mono ?_
                  rintro e w1 ⟨rfl, hw1⟩
                  rw [hw1, decide_eq_true hin]
                  clear hw1
                  go_wp2_with fail
                  go_round
                  case rel => exact ⟨k + 1, by omega, by go_num, HR⟩
                  case measure => simp [intOf]; omega
                · have HNN : Hid (RES = none) := HRN.out (decide_eq_false fun h => hin (h.get hz))
                  clear hr hz
                  go_wp2_with fail
                  refine (in_any z _ _ _).mono ?_
                  rintro e w1 ⟨rfl, hw1⟩
                  rw [hw1, decide_eq_false hin]
                  clear hw1
                  go_wp2_with fail
                  exact HPN.out _ HNN.out B2.out
              · obtain rfl : ny = k := by omega
                have HIN : Hid (wok Y = true) := decide_eq_true (inR_of fun k z hk hz => hr.out k z (by have := HNY.out; omega) hz)
                have HVV : Hid (Val Y) := HVW.out HIN.out
                have HGG : Hid (prs B j Y = RES) := HRG.out HIN.out
                have O3 : Hid (Own w2 w.heap.size w2.heap.size (.slice (some ⟨g2, 0, none⟩) Y.length c2) Y) := by rw [← HNY.out]; exact O2.out
                clear hr O2
                go_wp2_with fail
                go_roundg j
                case rel => exact ⟨Y, g2, c2, by first | rfl | (rw [HNY.out]), HM.out, HGG, HVV, O3, B2⟩
                case measure => omega
end Go.Proofs.Ytbbdhbamooaloaa.wh
