/- FollowRule: what both sides answer. -/
import Derived.Test.YtfmdbgpalldjoaaGo
namespace Go.Proofs.Ytfmdbgpalldjoaa.fFollowRule
open Go.RowKit Go.Pl Go.Ru Go.Proofs.Ytfmdbgpalldjoaa.wh Go.Proofs.Ytfmdbgpalldjoaa.ru
def ok (A F : List Int) (p c : Int) : Bool := lo A p 0 && (lo F p 0 && (decide (A.length = F.length) && decide (0 ≤ c ∧ c ≤ 64)))
def R (A F : List Int) (p c : Int) : List Int := if ok A F p c = true then gq A F p c.toNat else []
theorem no0 {A F : List Int} {p c : Int} (h : lo A p 0 = false) : ok A F p c = false ∧ R A F p c = [] := by
  have : ok A F p c = false := by unfold ok; rw [h]; rfl
  exact ⟨this, by unfold R; rw [if_neg (by rw [this]; simp)]⟩
theorem no1 {A F : List Int} {p c : Int} (h : lo F p 0 = false) : ok A F p c = false ∧ R A F p c = [] := by
  have : ok A F p c = false := by unfold ok; rw [h]; simp
  exact ⟨this, by unfold R; rw [if_neg (by rw [this]; simp)]⟩
theorem no2 {A F : List Int} {p c : Int} (h : A.length ≠ F.length) : ok A F p c = false ∧ R A F p c = [] := by
  have : ok A F p c = false := by unfold ok; rw [decide_eq_false h]; simp
  exact ⟨this, by unfold R; rw [if_neg (by rw [this]; simp)]⟩
theorem no3 {A F : List Int} {p c : Int} (h : ¬ (0 ≤ c ∧ c ≤ 64)) : ok A F p c = false ∧ R A F p c = [] := by
  have : ok A F p c = false := by unfold ok; rw [decide_eq_false h]; simp
  exact ⟨this, by unfold R; rw [if_neg (by rw [this]; simp)]⟩
theorem yes {A F : List Int} {p : Int} {c : Nat} (h0 : lo A p 0 = true) (h1 : lo F p 0 = true) (h2 : A.length = F.length) (h3 : c ≤ 64) : ok A F p (c : Int) = true ∧ R A F p (c : Int) = gq A F p c := by
  have : ok A F p (c : Int) = true := by unfold ok; rw [h0, h1, decide_eq_true h2, decide_eq_true (by omega)]; rfl
  exact ⟨this, by unfold R; rw [if_pos this, Int.toNat_natCast]⟩
theorem len (A F : List Int) (p c : Int) : (R A F p c).length ≤ 64 := by
  unfold R
  split
  · rename_i h
    rw [gq_len]
    unfold ok at h
    simp only [Bool.and_eq_true, decide_eq_true_eq] at h
    omega
  · simp
theorem own_nil (w : World) (lo hi : Nat) : wh.Own w lo hi (.slice none 0 0) [] := ⟨by simp, .inl ⟨rfl, rfl⟩⟩

set_option maxRecDepth 100000 in
set_option maxHeartbeats 3200000 in
theorem impl_any {A0 A1 : List Int} {v0 v1 : Value} {w : World} (h0 : Ls w v0 A0) (_s0 : (A0.length : Int) ≤ 1048576) (h1 : Ls w v1 A1) (_s1 : (A1.length : Int) ≤ 1048576) (a2 : Int) (_b2 : (Lit.int .i64 a2).wf = true) (a3 : Int) (_b3 : (Lit.int .i64 a3).wf = true) :
    Calls Try.prog 14 #[v0, v1, .int .i64 a2, .int .i64 a3] w (AnsLI (R A0 A1 a2 a3) (ok A0 A1 a2 a3) w) := by
  obtain ⟨ao0, cap0, rfl⟩ := id h0.shape
  obtain ⟨ao1, cap1, rfl⟩ := id h1.shape
  obtain ⟨n0, hn0⟩ : ∃ n, n = A0.length := ⟨_, rfl⟩
  obtain ⟨n1, hn1⟩ : ∃ n, n = A1.length := ⟨_, rfl⟩
  have HN : Hid (n0 = A0.length ∧ n1 = A1.length) := ⟨hn0, hn1⟩
  rw [← hn0] at h0 ⊢
  rw [← hn1] at h1 ⊢
  have hz0 : n0 ≤ 1048576 := by omega
  have hz1 : n1 ≤ 1048576 := by omega
  clear _s0 _s1 hn0 hn1
  obtain ⟨w2, hw⟩ : ∃ x, x = (w.alloc (.cells #[.slice ao0 n0 cap0] 22)).alloc (.cells #[.int .i64 a2] 2) := ⟨_, rfl⟩
  have X0 : Hid (Bx w2 w.heap.size (.slice ao0 n0 cap0)) := by rw [hw]; exact Bx.alloc (Bx.new _ _ _) _
  have X2 : Hid (Bx w2 (w.heap.size + 1) (.int .i64 a2)) := by rw [hw]; exact Bx.new2 _ _ _ _
  have B1 : Hid (Below w.heap.size w w2) := by rw [hw]; exact new2 _ _ _
  have H0 : Hid (Ls w2 (.slice ao0 n0 cap0) A0) := h0.below B1.out
  have H1 : Hid (Ls w2 (.slice ao1 n1 cap1) A1) := h1.below B1.out
  have c0 := X0.out.cell
  have c2 := X2.out.cell
  clear h0 h1
  go_enter Try.func14, Try.ntmps14
  go_wp2_with fail
  rw [← hw]
  clear hw
  refine (iare_any H0.out a2 0).mono ?_
  rintro e w3 ⟨rfl, hw3⟩
  rw [hw3]
  clear hw3
  cases hv : lo A0 a2 0 with
  | false =>
    have HZ : Hid (ok A0 A1 a2 a3 = false ∧ R A0 A1 a2 a3 = []) := no0 hv
    clear hv
    go_wp2_with fail
    go_ret2
    exact ⟨_, by rw [HZ.out.1]; rfl, by rw [HZ.out.2]; exact own_nil _ _ _, B1.out⟩
  | true =>
  have HV0 : Hid (lo A0 a2 0 = true) := hv
  clear hv
  go_wp2_with fail
  refine (iare_any H1.out a2 0).mono ?_
  rintro e w3 ⟨rfl, hw3⟩
  rw [hw3]
  clear hw3
  cases hv : lo A1 a2 0 with
  | false =>
    have HZ : Hid (ok A0 A1 a2 a3 = false ∧ R A0 A1 a2 a3 = []) := no1 hv
    clear hv
    go_wp2_with fail
    go_ret2
    exact ⟨_, by rw [HZ.out.1]; rfl, by rw [HZ.out.2]; exact own_nil _ _ _, B1.out⟩
  | true =>
  have HV1 : Hid (lo A1 a2 0 = true) := hv
  clear hv
  by_cases hl : n1 = n0
  case neg =>
    have HZ : Hid (ok A0 A1 a2 a3 = false ∧ R A0 A1 a2 a3 = []) := no2 (by have := HN.out; omega)
    go_wp2_with fail
    go_ret2
    exact ⟨_, by rw [HZ.out.1]; rfl, by rw [HZ.out.2]; exact own_nil _ _ _, B1.out⟩
  have HL : Hid (n1 = n0) := hl
  have hne : (n1 != n0) = false := by rw [hl]; simp
  have hne2 : (((n1 : Nat) : Int) != ((n0 : Nat) : Int)) = false := by rw [hl]; simp
  clear hl
  go_wp2_with fail
  refine (from_any a3 _ _ _).mono ?_
  rintro e w3 ⟨rfl, hw3⟩
  rw [hw3]
  clear hw3 hne hne2
  by_cases hc : 0 ≤ a3 ∧ a3 ≤ 64
  case neg =>
    have HZ : Hid (ok A0 A1 a2 a3 = false ∧ R A0 A1 a2 a3 = []) := no3 hc
    rw [decide_eq_false hc]
    clear hc
    go_wp2_with fail
    go_ret2
    exact ⟨_, by rw [HZ.out.1]; rfl, by rw [HZ.out.2]; exact own_nil _ _ _, B1.out⟩
  rw [decide_eq_true hc]
  obtain ⟨c, rfl⟩ : ∃ c : Nat, a3 = (c : Int) := ⟨a3.toNat, by omega⟩
  have hc64 : c ≤ 64 := by omega
  have HZ : Hid (ok A0 A1 a2 (c : Int) = true ∧ R A0 A1 a2 (c : Int) = gq A0 A1 a2 c) := yes HV0.out HV1.out (by have := HN.out; have := HL.out; omega) hc64
  have L0 := Lib.hid (lo_val HV0.out)
  have L1 := Lib.hid (lo_val HV1.out)
  have HG := Lib.hid (igone_any (A := A0) (F := A1) X0.out.cell X2.out.cell X0.out.lt X2.out.lt L0.out.1 (by have := L1.out.2.1; omega) (by have := HN.out; have := HL.out; omega) L0.out.2.2 L1.out.2.2 H0.out H1.out c hc64)
  clear hc
  go_wp2_with fail
  refine HG.out.mono ?_
  rintro e w3 ⟨v, rfl, ho, hb⟩
  obtain ⟨va, vc, rfl⟩ := id ho.shape
  have HO : Hid (wh.Own w3 w.heap.size w3.heap.size (.slice va (gq A0 A1 a2 c).length vc) (gq A0 A1 a2 c)) := ho.wide B1.out.size (Nat.le_refl _)
  have HB : Hid (Below w.heap.size w w3) := B1.out.trans (hb.mono B1.out.size)
  clear ho hb HG
  generalize (gq A0 A1 a2 c).length = n at *
  go_wp2_with fail
  go_ret2
  exact ⟨_, by rw [HZ.out.1]; rfl, by rw [HZ.out.2]; exact HO.out, HB.out⟩

theorem ds_step {A G : List Int} {p : Int} (hp : 2 ≤ p ∧ p ≤ 13) (hA : inR 0 (p - 1) A) (hG : inR 0 (p - 1) G) {k i : Nat} (hk : G.length = k) (hi : i < k) (hk64 : k ≤ 64) :
    ∃ x y s t : Int, at' A i = x ∧ at' G (k - 1 - i) = y ∧ ds A G i = s ∧ ds A G (i + 1) = t ∧ x * y = t - s ∧ (0 ≤ s ∧ s ≤ 1000000) ∧ (0 ≤ t ∧ t ≤ 1000000) := by
  have h1 := ds_bd hp hA hG i
  have h2 := ds_bd hp hA hG (i + 1)
  refine ⟨_, _, _, _, rfl, rfl, rfl, rfl, ?_, by omega, by omega⟩
  rw [ds_succ, hk]
  omega

set_option maxRecDepth 100000 in
set_option maxHeartbeats 6400000 in
theorem spec_any {A0 A1 : List Int} {v0 v1 : Value} {w : World} (h0 : Ls w v0 A0) (_s0 : (A0.length : Int) ≤ 1048576) (h1 : Ls w v1 A1) (_s1 : (A1.length : Int) ≤ 1048576) (a2 : Int) (_b2 : (Lit.int .i64 a2).wf = true) (a3 : Int) (_b3 : (Lit.int .i64 a3).wf = true) :
    Calls Try.prog 13 #[v0, v1, .int .i64 a2, .int .i64 a3] w (AnsLS (R A0 A1 a2 a3) (ok A0 A1 a2 a3) w) := by
  obtain ⟨i0, hi, hz0, hz1, hz2⟩ := info_parts info_i
  obtain ⟨ao0, cap0, rfl⟩ := id h0.shape
  obtain ⟨ao1, cap1, rfl⟩ := id h1.shape
  obtain ⟨n0, hn0⟩ : ∃ n, n = A0.length := ⟨_, rfl⟩
  obtain ⟨n1, hn1⟩ : ∃ n, n = A1.length := ⟨_, rfl⟩
  have HN : Hid (n0 = A0.length ∧ n1 = A1.length) := ⟨hn0, hn1⟩
  rw [← hn0] at h0 ⊢
  rw [← hn1] at h1 ⊢
  have hl0 : n0 ≤ 1048576 := by omega
  have hl1 : n1 ≤ 1048576 := by omega
  clear _s0 _s1 hn0 hn1
  have H0 : Hid (Ls w (.slice ao0 n0 cap0) A0) := h0
  have H1 : Hid (Ls w (.slice ao1 n1 cap1) A1) := h1
  clear h0 h1
  have BR : Hid (Below w.heap.size w w) := Below.refl _ _
  go_enter Try.func13, Try.ntmps13
  go_wp2_with fail
  refine (slist_any H0.out a2 0).mono ?_
  rintro e w3 ⟨rfl, hw3⟩
  rw [hw3]
  clear hw3
  cases hv : lo A0 a2 0 with
  | false =>
    have HZ : Hid (ok A0 A1 a2 a3 = false ∧ R A0 A1 a2 a3 = []) := no0 hv
    clear hv
    go_wp2_with fail
    go_ret2
    exact ⟨_, by rw [HZ.out.1]; rfl, by rw [HZ.out.2]; exact ls_nil _ _ rfl, BR.out⟩
  | true =>
  have HV0 : Hid (lo A0 a2 0 = true) := hv
  clear hv
  go_wp2_with fail
  refine (slist_any H1.out a2 0).mono ?_
  rintro e w3 ⟨rfl, hw3⟩
  rw [hw3]
  clear hw3
  cases hv : lo A1 a2 0 with
  | false =>
    have HZ : Hid (ok A0 A1 a2 a3 = false ∧ R A0 A1 a2 a3 = []) := no1 hv
    clear hv
    go_wp2_with fail
    go_ret2
    exact ⟨_, by rw [HZ.out.1]; rfl, by rw [HZ.out.2]; exact ls_nil _ _ rfl, BR.out⟩
  | true =>
  have HV1 : Hid (lo A1 a2 0 = true) := hv
  clear hv
  by_cases hl : n0 = n1
  case neg =>
    have HZ : Hid (ok A0 A1 a2 a3 = false ∧ R A0 A1 a2 a3 = []) := no2 (by have := HN.out; omega)
    go_wp2_with fail
    go_ret2
    exact ⟨_, by rw [HZ.out.1]; rfl, by rw [HZ.out.2]; exact ls_nil _ _ rfl, BR.out⟩
  have HL : Hid (n0 = n1) := hl
  have hne : (n0 != n1) = false := by rw [hl]; simp
  have hne2 : (((n0 : Nat) : Int) != ((n1 : Nat) : Int)) = false := by rw [hl]; simp
  clear hl
  go_wp2_with fail
  refine (in_any a3 _ _ _).mono ?_
  rintro e w3 ⟨rfl, hw3⟩
  rw [hw3]
  clear hw3 hne hne2
  by_cases hc : 0 ≤ a3 ∧ a3 ≤ 64
  case neg =>
    have HZ : Hid (ok A0 A1 a2 a3 = false ∧ R A0 A1 a2 a3 = []) := no3 hc
    rw [decide_eq_false hc]
    clear hc
    go_wp2_with fail
    go_ret2
    exact ⟨_, by rw [HZ.out.1]; rfl, by rw [HZ.out.2]; exact ls_nil _ _ rfl, BR.out⟩
  rw [decide_eq_true hc]
  obtain ⟨c, rfl⟩ : ∃ c : Nat, a3 = (c : Int) := ⟨a3.toNat, by omega⟩
  have hc64 : c ≤ 64 := by omega
  have HZ : Hid (ok A0 A1 a2 (c : Int) = true ∧ R A0 A1 a2 (c : Int) = gq A0 A1 a2 c) := yes HV0.out HV1.out (by have := HN.out; have := HL.out; omega) hc64
  have L0 := Lib.hid (lo_val HV0.out)
  have L1 := Lib.hid (lo_val HV1.out)
  have HP := Lib.hid (isP_le L0.out.1)
  have hn64 : n1 ≤ 64 := by have := L1.out.2.1; have := HN.out; omega
  obtain ⟨_, _, hcc0⟩ := H0.out.use
  obtain ⟨_, _, hcc1⟩ := H1.out.use
  have HC0 : Hid (A0.length ≠ 0 → ∃ b off, ao0 = some ⟨b, off, none⟩ ∧ b < w.heap.size ∧ ∀ (k : Nat) (z : Int), A0[k]? = some z → w.cell? ⟨b, off + k, none⟩ = some (.int .i64 z)) := hcc0
  have HC1 : Hid (A1.length ≠ 0 → ∃ b off, ao1 = some ⟨b, off, none⟩ ∧ b < w.heap.size ∧ ∀ (k : Nat) (z : Int), A1[k]? = some z → w.cell? ⟨b, off + k, none⟩ = some (.int .i64 z)) := hcc1
  have HGL : Hid (∀ k, (gq A0 A1 a2 k).length = k) := gq_len A0 A1 a2
  have HGY : Hid (∀ k, k < n1 → gq A0 A1 a2 (k + 1) = gq A0 A1 a2 k ++ [at' A1 k]) := fun k h => gq_yes (by have := HN.out; omega)
  have HGO : Hid (∀ k, n1 ≤ k → gq A0 A1 a2 (k + 1) = gq A0 A1 a2 k ++ [md (ds A0 (gq A0 A1 a2 k) n0) a2]) := fun k h => by rw [HN.out.1]; exact gq_on (by have := HN.out; omega)
  have HGI : Hid (∀ k, inR 0 (a2 - 1) (gq A0 A1 a2 k)) := fun k => gq_in HP.out.1 L1.out.2.2 k
  have HG0 : Hid (gq A0 A1 a2 0 = []) := gq_zero _ _ _
  obtain ⟨f, hf⟩ : ∃ f, f = gq A0 A1 a2 := ⟨_, rfl⟩
  rw [← hf] at HGL HGY HGO HGI HG0 HZ
  clear hc hf hcc0 hcc1
  have start : Hid ((w.alloc (.cells #[] 2)).ownsRow w.heap.size 2 1 (.slice (some ⟨w.heap.size, 0, none⟩) 0 0) 0 ((f 0).map (Value.int .i64))) := by
    rw [HG0.out]
    exact ⟨rfl, .inr ⟨w.heap.size, 0, #[], rfl, Nat.le_refl _, heap_alloc_new w _, by simp, by decide, rfl, rfl⟩⟩
  have startB : Hid (Below w.heap.size w (w.alloc (.cells #[] 2))) := new1 _ _
  go_wp2_with fail
  go_loopw [10, 11] (fun o t wr => ∃ (k g cp : Nat), k ≤ c ∧ o = .slice (some ⟨g, 0, none⟩) k cp ∧ t = .int .i64 (k : Int) ∧ Hid (w.heap.size ≤ g) ∧ Hid (wr.ownsRow w.heap.size 2 1 (.slice (some ⟨g, 0, none⟩) k cp) k ((f k).map (Value.int .i64))) ∧ Hid (Below w.heap.size w wr)) (fun _ t _ => c - (intOf t).toNat)
  case atStart => exact ⟨0, _, _, by omega, rfl, rfl, Nat.le_refl _, start, startB⟩
  case round =>
    obtain ⟨k, g, cp, hk, rfl, rfl, hg, ho, hb⟩ := hrel
    clear start startB
    have HS : Hid (w.heap.size ≤ wr.heap.size) := hb.out.size
    by_cases hlt : k < c
    · by_cases hkn : k < n1
      · obtain ⟨b1, o1, rfl, hb1, hcell⟩ := HC1.out (by have := HN.out; omega)
        have e1 : wr.cell? ⟨b1, o1 + k, none⟩ = some (.int .i64 (at' A1 k)) := (hb.out.cell (p := ⟨b1, o1 + k, none⟩) hb1).trans (hcell k _ (at_some A1 k (by have := HN.out; omega)))
        have HSK : Hid (f (k + 1) = f k ++ [at' A1 k]) := HGY.out k hkn
        clear hcell
        generalize at' A1 k = z at *
        have hzz : Hid ((f k).map (Value.int .i64) ++ [Value.int .i64 z] = (f (k + 1)).map (Value.int .i64)) := by show _ = _; rw [HSK.out]; simp
        clear HSK
        go_wp2_with (first | (at_builtin; refine wpList_append_own _ rfl (.tmp 46) (.tmp 51) 22 rfl w.heap.size 2 i0 (.int .i64 0) 1 8 Try.underlying22 hi hz0 hz1 hz2 rfl (by decide) _ k _ rfl (ho.out.alloc _) ⟨wr.heap.size, 0, none⟩ 1 1 [.int .i64 _] rfl rfl (cell_one_new wr _ _) (by intro u hu; rw [List.mem_singleton] at hu; subst hu; rfl) (by unfold maxLen; omega) (by omega) (by have := HS.out; simp; omega) ?_; intro v' w4 hown' hgrow _))
        obtain ⟨g', cap', rfl⟩ := own_shape hown' (by omega)
        rw [hzz.out] at hown'
        have HG : Hid (w.heap.size ≤ g') := (hown'.lt g' rfl).1
        have HO : Hid (w4.ownsRow w.heap.size 2 1 (.slice (some ⟨g', 0, none⟩) (k + 1) cap') (k + 1) ((f (k + 1)).map (Value.int .i64))) := hown'
        have HB : Hid (Below w.heap.size w w4) := (hb.out.alloc HS.out _).grown hgrow (by have := HS.out; simp; omega) (by intro i hi'; have hi2 : some g = some i := hi'; injection hi2 with hi2; have := hg.out; omega)
        clear hown' hgrow
        go_roundw
        case rel => exact ⟨k + 1, g', cap', by omega, rfl, by go_num, HG, HO, HB⟩
        case measure => simp [RowKit.intOf]; omega
      · have hkn1 : n1 ≤ k := by omega
        obtain ⟨wq, hwq⟩ : ∃ q, q = wr := ⟨_, rfl⟩
        have HSK : Hid (f (k + 1) = f k ++ [md (ds A0 (f k) n0) a2]) := HGO.out k hkn1
        have HDS : Hid (∀ i, i < n0 → ∃ x y s t : Int, at' A0 i = x ∧ at' (f k) (k - 1 - i) = y ∧ ds A0 (f k) i = s ∧ ds A0 (f k) (i + 1) = t ∧ x * y = t - s ∧ (0 ≤ s ∧ s ≤ 1000000) ∧ (0 ≤ t ∧ t ≤ 1000000)) := fun i h => ds_step HP.out L0.out.2.2 (HGI.out k) (HGL.out k) (by have := HL.out; omega) (by omega)
        have HCK : Hid (∀ j, j < k → wr.cell? ⟨g, j, none⟩ = some (.int .i64 (at' (f k) j))) := fun j hj => by
          have hr : wr.ownsRow w.heap.size 2 1 (.slice (some ⟨g, 0, none⟩) k cp) k ((f k).map (Value.int .i64)) := ho.out
          exact hr.cellAt j (by omega) |>.trans (by rw [List.getElem?_map, at_some (f k) j (by rw [HGL.out]; exact hj)]; rfl)
        have HN0 : Hid (n0 ≤ k) := by show _ ≤ _; have := HL.out; omega
        have D0 : Hid (ds A0 (f k) 0 = 0) := rfl
        rw [← hwq] at ho hb HS HCK ⊢
        clear hwq
        go_wp2_with fail
        go_loopw [12, 55] (fun s t wr => ∃ (i : Nat), i ≤ n0 ∧ s = .int .i64 (ds A0 (f k) i) ∧ t = .int .i64 (i : Int) ∧ Hid (∃ m, wr = wq.drewN m)) (fun _ t _ => n0 - (intOf t).toNat)
        case atStart => exact ⟨0, by omega, by rw [D0.out], rfl, 0, rfl⟩
        case round =>
          obtain ⟨i, hi', rfl, rfl, hm⟩ := hrel
          by_cases hin : i < n0
          · obtain ⟨x, y, s, t, hx, hy, hs, ht, hxy, hsb, htb⟩ := HDS.out i hin
            obtain ⟨b0, o0, rfl, hb0, hcell⟩ := HC0.out (by have := HN.out; omega)
            have hik : i < k := by have := HN0.out; omega
            have e1 : wr.cell? ⟨b0, o0 + i, none⟩ = some (.int .i64 x) := by
              obtain ⟨m, rfl⟩ := hm.out
              exact (hb.out.cell (p := ⟨b0, o0 + i, none⟩) hb0).trans (hcell i x (by rw [at_some A0 i (by have := HN.out; omega), hx]))
            have e2 : wr.cell? ⟨g, k - 1 - i, none⟩ = some (.int .i64 y) := by
              obtain ⟨m, rfl⟩ := hm.out
              exact (HCK.out (k - 1 - i) (by omega)).trans (by rw [hy])
            have next : Hid (∀ q, ∃ m, wr.drewN q = wq.drewN m) := fun q => by obtain ⟨m, rfl⟩ := hm.out; exact ⟨m + q, World.drewN_drewN _ _ _⟩
            have HST : Hid (ds A0 (f k) (i + 1) = t) := ht
            rw [hs]
            have d1 : IntKind.i64.wrap ((k : Int) - 1) = (k : Int) - 1 := IntWalk.i64_in _ (by omega)
            have d2 : IntKind.i64.wrap ((k : Int) - 1 - (i : Int)) = (k : Int) - 1 - (i : Int) := IntWalk.i64_in _ (by omega)
            have d3 : (0 : Int) ≤ (k : Int) - 1 - (i : Int) := by omega
            have d4 : (k : Int) - 1 - (i : Int) < (k : Int) := by omega
            have d5 : ((k : Int) - 1 - (i : Int)).toNat = k - 1 - i := by omega
            have d6 : (i : Int) < (n0 : Int) := by omega
            have d7 : IntKind.i64.wrap (x * y) = t - s := by rw [hxy]; exact IntWalk.i64_in _ (by omega)
            have d8 : IntKind.i64.wrap (s + (t - s)) = t := by rw [show s + (t - s) = t by omega]; exact IntWalk.i64_in _ (by omega)
            clear hcell hx hy hs ht hxy hm HDS
            go_wp2_with fail
            go_region
            go_wp2
            go_roundw
            case rel => exact ⟨i + 1, by omega, by rw [HST.out], by go_num, next.out _⟩
            case measure => simp [RowKit.intOf]; omega
          · obtain rfl : i = n0 := by omega
            have HMD := Lib.hid (fun W => md_any (ds A0 (f k) i) a2 (by have := HP.out; omega) W)
            obtain ⟨m, hm⟩ := hm.out
            have HOr : Hid (wr.ownsRow w.heap.size 2 1 (.slice (some ⟨g, 0, none⟩) k cp) k ((f k).map (Value.int .i64))) := by
              show World.ownsRow _ _ _ _ _ _ _
              rw [hm]
              exact ho.out
            have HBr : Hid (Below w.heap.size w wr) := by rw [hm]; exact Go.Pst.below_drewN hb.out m
            have HSr : Hid (w.heap.size ≤ wr.heap.size) := HBr.out.size
            clear hm ho hb HDS HCK D0
            generalize ds A0 (f k) i = s at *
            go_wp2_with fail
            refine (HMD.out _).mono ?_
            rintro e w5 ⟨rfl, hw5⟩
            rw [hw5]
            clear hw5 HMD
            generalize md s a2 = z at *
            have hzz : Hid ((f k).map (Value.int .i64) ++ [Value.int .i64 z] = (f (k + 1)).map (Value.int .i64)) := by show _ = _; rw [HSK.out]; simp
            clear HSK
            go_wp2_with (first | (at_builtin; refine wpList_append_own _ rfl (.tmp 73) (.tmp 77) 22 rfl w.heap.size 2 i0 (.int .i64 0) 1 8 Try.underlying22 hi hz0 hz1 hz2 rfl (by decide) _ k _ rfl (HOr.out.alloc _) ⟨wr.heap.size, 0, none⟩ 1 1 [.int .i64 _] rfl rfl (cell_one_new wr _ _) (by intro u hu; rw [List.mem_singleton] at hu; subst hu; rfl) (by unfold maxLen; omega) (by omega) (by have := HSr.out; simp; omega) ?_; intro v' w4 hown' hgrow _))
            obtain ⟨g', cap', rfl⟩ := own_shape hown' (by omega)
            rw [hzz.out] at hown'
            have HG : Hid (w.heap.size ≤ g') := (hown'.lt g' rfl).1
            have HO : Hid (w4.ownsRow w.heap.size 2 1 (.slice (some ⟨g', 0, none⟩) (k + 1) cap') (k + 1) ((f (k + 1)).map (Value.int .i64))) := hown'
            have HB : Hid (Below w.heap.size w w4) := (HBr.out.alloc HSr.out _).grown hgrow (by have := HSr.out; simp; omega) (by intro i hi'; have hi2 : some g = some i := hi'; injection hi2 with hi2; have := hg.out; omega)
            clear hown' hgrow
            go_roundw
            case rel => exact ⟨k + 1, g', cap', by omega, rfl, by go_num, HG, HO, HB⟩
            case measure => simp [RowKit.intOf]; omega
    · obtain rfl : k = c := by omega
      have HO : Hid (Ls wr (.slice (some ⟨g, 0, none⟩) k cp) (f k)) := by
        have h2 : wr.ownsRow w.heap.size 2 1 (.slice (some ⟨g, 0, none⟩) k cp) (f k).length ((f k).map (Value.int .i64)) := by rw [HGL.out]; exact ho.out
        exact (Own.of_row (hi := wr.heap.size) (L := f k) h2 (by have := HGL.out k; omega) (Nat.le_refl _)).ls (Nat.le_refl _)
      clear ho
      go_wp2_with fail
      go_ret2
      exact ⟨_, by rw [HZ.out.1]; rfl, by rw [HZ.out.2]; exact HO.out, hb.out⟩
end Go.Proofs.Ytfmdbgpalldjoaa.fFollowRule
