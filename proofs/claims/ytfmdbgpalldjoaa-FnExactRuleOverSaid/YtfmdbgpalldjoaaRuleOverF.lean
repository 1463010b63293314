/- RuleOver: what both sides answer. -/
import Derived.Test.YtfmdbgpalldjoaaSho
namespace Go.Proofs.Ytfmdbgpalldjoaa.fRuleOver
open Go.RowKit Go.Pl Go.Ru Go.Proofs.Ytfmdbgpalldjoaa.wh Go.Proofs.Ytfmdbgpalldjoaa.ru
def ok (A : List Int) (p : Int) : Bool := lo A p 1
def R (A : List Int) (p : Int) : List Int := if lo A p 1 = true then rl p (sts p A A.length) else []
theorem no {A : List Int} {p : Int} (h : lo A p 1 = false) : ok A p = false ∧ R A p = [] := ⟨h, by unfold R; rw [if_neg (by rw [h]; simp)]⟩
theorem yes {A : List Int} {p : Int} (h : lo A p 1 = true) : ok A p = true ∧ R A p = rl p (sts p A A.length) := ⟨h, by unfold R; rw [if_pos h]⟩
theorem len (A : List Int) (p : Int) : (R A p).length ≤ 64 := by
  unfold R
  split
  · rename_i h
    have h1 := lo_val h
    have h2 := (sts_ok (isP_le h1.1).1 A A.length).l
    rw [rl_len]
    omega
  · simp
theorem own_nil (w : World) (lo hi : Nat) : wh.Own w lo hi (.slice none 0 0) [] := ⟨by simp, .inl ⟨rfl, rfl⟩⟩
theorem rl_get {p : Int} {s : St} {k : Nat} (h : k < s.l) : (rl p s)[k]? = some (md (-(s.c (k + 1))) p) := by simp [rl, h]

set_option maxRecDepth 100000 in
set_option maxHeartbeats 3200000 in
theorem impl_any {A0 : List Int} {v0 : Value} {w : World} (h0 : Ls w v0 A0) (_s0 : (A0.length : Int) ≤ 1048576) (a1 : Int) (_b1 : (Lit.int .i64 a1).wf = true) :
    Calls Try.prog 9 #[v0, .int .i64 a1] w (AnsLI (R A0 a1) (ok A0 a1) w) := by
  obtain ⟨i0, hi, hz0, hz1, hz2⟩ := info_parts info_i
  obtain ⟨ao0, cap0, rfl⟩ := id h0.shape
  obtain ⟨n0, hn0⟩ : ∃ n, n = A0.length := ⟨_, rfl⟩
  have HN : Hid (n0 = A0.length) := hn0
  rw [← hn0] at h0 ⊢
  have H0 : Hid (Ls w (.slice ao0 n0 cap0) A0) := h0
  have BR : Hid (Below w.heap.size w w) := Below.refl _ _
  clear _s0 hn0 h0
  go_enter Try.func9, Try.ntmps9
  go_wp2_with fail
  refine (iare_any H0.out a1 1).mono ?_
  rintro e w3 ⟨rfl, hw3⟩
  rw [hw3]
  clear hw3
  cases hv : lo A0 a1 1 with
  | false =>
    have HZ : Hid (ok A0 a1 = false ∧ R A0 a1 = []) := no hv
    clear hv
    go_wp2_with fail
    go_ret2
    exact ⟨_, by rw [HZ.out.1]; rfl, by rw [HZ.out.2]; exact own_nil _ _ _, BR.out⟩
  | true =>
  have HZ : Hid (ok A0 a1 = true ∧ R A0 a1 = rl a1 (sts a1 A0 A0.length)) := yes hv
  have L0 := Lib.hid (lo_val hv)
  have HS := Lib.hid (ishort_any L0.out.1 L0.out.2.1 L0.out.2.2 H0.out)
  have HOK := Lib.hid (sts_ok (isP_le L0.out.1).1 A0 A0.length)
  have HP := Lib.hid (isP_le L0.out.1)
  have hl64 : (sts a1 A0 A0.length).l ≤ 64 := by have := HOK.out.l; have := L0.out.2.1; omega
  obtain ⟨s, hs⟩ : ∃ s, s = sts a1 A0 A0.length := ⟨_, rfl⟩
  rw [← hs] at HZ HS HOK hl64
  clear hv hs
  go_wp2_with fail
  refine HS.out.mono ?_
  rintro e w1 ⟨rfl, b1⟩
  have B1 : Hid (Below w.heap.size w w1) := b1
  have HAr : Hid (Ar (w1.alloc (.cells Try.zeroCells51 51)) w1.heap.size zs) := by show Ar _ _ _; rw [zc_zs]; exact Ar.new w1 zs
  obtain ⟨C, hC⟩ : ∃ C, C = ca s.c 65 := ⟨_, rfl⟩
  have HCl : Hid (C.length = 65) := by show _ = _; rw [hC, ca_len]
  have HCg : Hid (∀ j, j < 65 → C[j]? = some (s.c j)) := fun j hj => by rw [hC]; exact ca_get _ _ _ hj
  rw [← hC]
  clear b1 hC HS
  obtain ⟨W2, hW⟩ : ∃ x, x = (w1.alloc (.cells Try.zeroCells51 51)).setRow w1.heap.size (va C) := ⟨_, rfl⟩
  have A2 : Hid (Ar W2 w1.heap.size C) := by show Ar _ _ _; rw [hW]; exact HAr.out.row
  have B2 : Hid (Below w.heap.size w W2) := by rw [hW]; exact below_row (B1.out.alloc B1.out.size _) B1.out.size _
  have ZL := Lib.hid zs_len
  obtain ⟨l, hl⟩ : ∃ l, l = s.l := ⟨_, rfl⟩
  have HL : Hid (l = s.l) := hl
  rw [← hl] at hl64 ⊢
  have hml : l ≤ maxLen := by unfold maxLen; omega
  clear hl
  go_upto_region 4 with (first | (refine wpl_store_ar rfl (.tmp 6) (.tmp 18) rfl w1.heap.size rfl (L := zs) (L' := C) (by rfl) ?_ ZL.out HCl.out ?_; exact HAr.out))
  rw [← hW]
  clear hW HAr
  obtain ⟨B, hB⟩ : ∃ B, B = W2.heap.size := ⟨_, rfl⟩
  go_wp2_with (first | (refine wpList_make_full _ rfl (.tmp 20) (.tmp 20) 22 rfl W2.heap.size 2 i0 (.int .i64 0) 1 Try.underlying22 hi hz0 hz1 .i64 .i64 _ _ l rfl rfl rfl rfl (by rw [hz2]; omega) hml (Nat.le_refl _) ?_; intro w4 hown hgrow))
  rw [← hB] at hown
  rw [← hB]
  have hbel : Below B W2 w4 := (Below.refl B W2).grown hgrow (by omega) (by intro k hk; cases hk)
  have HE : Hid (B = W2.heap.size) := hB
  have HG : Hid (w1.heap.size < B) := by show _ < B; rw [hB]; exact A2.out.lt
  clear hgrow hB hi hz0 hz1 hz2
  go_loopw [24] (fun i wr => ∃ (k : Nat) (xs : List Value), k ≤ l ∧ i = .int .i64 k ∧ Hid (wr.ownsRow B 2 1 (.slice (some ⟨B, 0, none⟩) l l) l xs) ∧ Hid (∀ j, j < k → xs[j]? = some (.int .i64 (md (-(s.c (j + 1))) a1))) ∧ Hid (Below B W2 wr)) (fun i _ => l - (intOf i).toNat)
  case atStart => exact ⟨0, _, by omega, rfl, hown, fun j hj => by omega, hbel⟩
  case round =>
    obtain ⟨k, xs, hk, rfl, ho, hx, hb⟩ := hrel
    by_cases hlt : k < l
    · have e1 : wr.cell? ⟨w1.heap.size, k + 1, none⟩ = some (.int .i64 (s.c (k + 1))) := (A2.out.below hb.out HG.out).cell (HCg.out (k + 1) (by omega))
      have e2 : wr.cell? ⟨B, k, none⟩ = xs[k]? := ho.out.cellAt k (by omega)
      have hxl : xs.length = l := by have := ho.out.1; simpa using this
      obtain ⟨u, hu⟩ : ∃ u, xs[k]? = some u := ⟨xs[k]'(by omega), List.getElem?_eq_getElem (by omega)⟩
      rw [hu] at e2
      have e3 : wr.frozen? ⟨B, k, none⟩ = false := ho.out.frozenAt k
      have HO : Hid ((wr.setCell ⟨B, k, none⟩ (.int .i64 (md (-(s.c (k + 1))) a1))).ownsRow B 2 1 (.slice (some ⟨B, 0, none⟩) l l) l (xs.set k (.int .i64 (md (-(s.c (k + 1))) a1)))) := (ho.out.stored k (.int .i64 (md (-(s.c (k + 1))) a1))).1
      have HX : Hid (∀ j, j < k + 1 → (xs.set k (.int .i64 (md (-(s.c (k + 1))) a1)))[j]? = some (.int .i64 (md (-(s.c (j + 1))) a1))) := by
        intro j hj
        by_cases hjk : j = k
        · subst hjk
          rw [List.getElem?_set_self (by omega)]
        · rw [List.getElem?_set_ne (by omega)]
          exact hx.out j (by omega)
      have HB : Hid (Below B W2 (wr.setCell ⟨B, k, none⟩ (.int .i64 (md (-(s.c (k + 1))) a1)))) := hb.out.setCell (p := ⟨B, k, none⟩) (Nat.le_refl B) _
      have hcb := HOK.out.c (k + 1)
      have hcall := rem_any (-(s.c (k + 1))) a1 (by have := HP.out; omega) wr
      have hst := store_int (b := md (-(s.c (k + 1))) a1) e2 e3
      clear hu hb ho hx hxl
      generalize md (-(s.c (k + 1))) a1 = y at *
      generalize s.c (k + 1) = z at *
      have n1 : IntKind.i64.wrap (-z) = -z := IntWalk.i64_in _ (by have := HP.out; omega)
      have n2 : wrap64 (-z) = -z := IntWalk.wrap64_in _ (by have := HP.out; omega)
      have d1 : (k : Int) + 1 < 65 := by omega
      have d2 : ((k : Int) + 1).toNat = k + 1 := by omega
      clear hcb
      go_wp2_with fail
      refine hcall.mono ?_
      rintro e w2 ⟨rfl, hw2⟩
      rw [hw2]
      clear hw2 hcall e1
      go_wp2_with fail
      go_roundw
      case rel => exact ⟨k + 1, _, by omega, by go_num, HO, HX, HB⟩
      case measure => simp [intOf]; omega
    · obtain rfl : k = l := by omega
      have HO : Hid (wh.Own wr w.heap.size wr.heap.size (.slice (some ⟨B, 0, none⟩) k k) (rl a1 s)) := by
        have hrl : (rl a1 s).length = k := by rw [rl_len]; exact HL.out.symm
        have hxs : xs = (rl a1 s).map (Value.int .i64) := by
          apply List.ext_getElem?
          intro j
          have hxl : xs.length = k := by have := ho.out.1; simpa using this
          by_cases hj : j < k
          · rw [hx.out j hj, List.getElem?_map, rl_get (by have := HL.out; omega)]; rfl
          · rw [List.getElem?_eq_none (by omega), List.getElem?_eq_none (by rw [List.length_map, hrl]; omega)]
        have ho' := ho.out
        rw [hxs] at ho'
        have h2 : wr.ownsRow B 2 1 (.slice (some ⟨B, 0, none⟩) k k) (rl a1 s).length ((rl a1 s).map (Value.int .i64)) := by rw [hrl]; exact ho'
        exact (Own.of_row h2 (by omega) (Nat.le_refl _)).wide (by have := HE.out; have := B2.out.size; omega) (Nat.le_refl _)
      have HB : Hid (Below w.heap.size w wr) := B2.out.trans (hb.out.mono (by have := HE.out; have := B2.out.size; omega))
      clear ho hx hb hown hbel
      go_wp2_with fail
      go_ret2
      exact ⟨_, by rw [HZ.out.1]; rfl, by rw [HZ.out.2]; exact HO.out, HB.out⟩

theorem own_row {w : World} {lo N : Nat} {v : Value} {L : List Int} (h : w.ownsRow lo 2 1 v N (L.map (Value.int .i64))) (hl : L.length = N) (hN : N ≤ 9223372036854775807) : wh.Own w lo w.heap.size v L := by
  subst hl
  exact Own.of_row h hN (Nat.le_refl _)
theorem own_narrow {w : World} {lo hi hi' g n cap : Nat} {L : List Int} (h : wh.Own w lo hi (.slice (some ⟨g, 0, none⟩) n cap) L) (hg : g < hi') : wh.Own w lo hi' (.slice (some ⟨g, 0, none⟩) n cap) L := by
  obtain ⟨hn, ⟨h', _⟩ | ⟨g', cap', cs, h', hcp, h1, h2, h3, h4⟩⟩ := h
  · simp at h'
  · simp only [Value.slice.injEq, Option.some.injEq, Addr.mk.injEq, and_true] at h'
    obtain ⟨rfl, rfl, rfl⟩ := h'
    exact ⟨hn, .inr ⟨g, cap, cs, rfl, hcp, h1, hg, h3, h4⟩⟩
theorem own_block {w : World} {lo hi g n cap : Nat} {L : List Int} (h : wh.Own w lo hi (.slice (some ⟨g, 0, none⟩) n cap) L) : lo ≤ g ∧ g < hi := by
  obtain ⟨_, _, _, _, h1, h2, _⟩ := h.open
  exact ⟨h1, h2⟩
theorem un_row (N : Nat) : ((List.replicate N (0 : Int)).set 0 1) = ca un N := by
  apply List.ext_getElem?
  intro j
  by_cases hj : j < N
  · by_cases e : j = 0
    · subst e
      rw [List.getElem?_set_self (by simpa using hj), ca_get _ _ _ hj]; rfl
    · rw [List.getElem?_set_ne (by omega), ca_get _ _ _ hj, List.getElem?_replicate, if_pos hj, un, if_neg e]
  · rw [List.getElem?_eq_none (by simp; omega), List.getElem?_eq_none (by rw [ca_len]; omega)]
theorem zeros_i (n : Nat) : (madeCells (Value.int .i64 0).cells (n * 1)).toList = (List.replicate n (0 : Int)).map (Value.int .i64) := by
  rw [Nat.mul_one, List.map_replicate]
  exact toList_madeCells_one _ _
theorem dc_at (c : Nat → Int) (A : List Int) (k : Nat) {i : Nat} (h : 1 ≤ i) : dc c A k i = dc c A k (i - 1) + c i * at' A (k - i) := by
  obtain ⟨j, rfl⟩ : ∃ j, i = j + 1 := ⟨i - 1, by omega⟩
  rw [dc_succ, show j + 1 - 1 = j by omega, show k - 1 - j = k - (j + 1) by omega]

def rk (c : Nat → Int) (p : Int) (j : Nat) : List Int := (List.range j).map fun i => md (-(c (i + 1))) p
theorem rk_succ (c : Nat → Int) (p : Int) (j : Nat) : rk c p (j + 1) = rk c p j ++ [md (-(c (j + 1))) p] := by simp [rk, List.range_succ]
theorem rk_len (c : Nat → Int) (p : Int) (j : Nat) : (rk c p j).length = j := by simp [rk]

set_option maxRecDepth 100000 in
set_option maxHeartbeats 12800000 in
theorem spec_any {A0 : List Int} {v0 : Value} {w : World} (h0 : Ls w v0 A0) (_s0 : (A0.length : Int) ≤ 1048576) (a1 : Int) (_b1 : (Lit.int .i64 a1).wf = true) :
    Calls Try.prog 7 #[v0, .int .i64 a1] w (AnsLS (R A0 a1) (ok A0 a1) w) := by
  obtain ⟨i0, hi, hz0, hz1, hz2⟩ := info_parts info_i
  obtain ⟨ao0, cap0, rfl⟩ := id h0.shape
  obtain ⟨n, hn0⟩ : ∃ n, n = A0.length := ⟨_, rfl⟩
  have HN : Hid (n = A0.length) := hn0
  rw [← hn0] at h0 ⊢
  have H0 : Hid (Ls w (.slice ao0 n cap0) A0) := h0
  have BR : Hid (Below w.heap.size w w) := Below.refl _ _
  clear _s0 hn0 h0
  go_enter Try.func7, Try.ntmps7
  go_wp2_with fail
  refine (slist_any H0.out a1 1).mono ?_
  rintro e w3 ⟨rfl, hw3⟩
  rw [hw3]
  clear hw3
  cases hv : lo A0 a1 1 with
  | false =>
    have HZ : Hid (ok A0 a1 = false ∧ R A0 a1 = []) := no hv
    clear hv
    go_wp2_with fail
    go_ret2
    exact ⟨_, by rw [HZ.out.1]; rfl, by rw [HZ.out.2]; exact (own_nil w 0 w.heap.size).ls (Nat.le_refl _), BR.out⟩
  | true =>
  have HZ : Hid (ok A0 a1 = true ∧ R A0 a1 = rl a1 (sts a1 A0 n)) := by show _ ∧ _; rw [HN.out]; exact yes hv
  have L0 := Lib.hid (lo_val hv)
  have HST : Hid (∀ k, Ok a1 k (sts a1 A0 k)) := sts_ok (isP_le L0.out.1).1 A0
  have HP := Lib.hid (isP_le L0.out.1)
  have hn1 : 1 ≤ n := by have := L0.out.2.1; have := HN.out; omega
  have hn64 : n ≤ 64 := by have := L0.out.2.1; have := HN.out; omega
  obtain ⟨hx1, hx2, hcc⟩ := H0.out.use
  obtain ⟨ab, aof, rfl, hab, hac⟩ := hcc (by have := HN.out; omega)
  have HAC : Hid (∀ k, k < n → w.cell? ⟨ab, aof + k, none⟩ = some (.int .i64 (at' A0 k))) := fun k hk => hac k _ (at_some A0 k (by have := HN.out; omega))
  have HAB : Hid (ab < w.heap.size) := hab
  obtain ⟨N, hNe⟩ : ∃ N, N = 2 * n + 2 := ⟨_, rfl⟩
  have hN1 : IntKind.i64.wrap (2 * (n : Int)) = 2 * (n : Int) := IntWalk.i64_in _ (by omega)
  have hN2 : 2 * (n : Int) + 2 = (N : Int) := by omega
  have HNE : Hid (N = 2 * n + 2) := hNe
  have hml : N ≤ maxLen := by unfold maxLen; omega
  have HML : Hid (N ≤ 9223372036854775807 ∧ 4 ≤ N ∧ N ≤ 130) := ⟨by omega, by omega, by omega⟩
  clear hv hcc hac hab hNe hx1 hx2
  go_upto_region 4 with (first | (refine wpList_make_full _ rfl (.tmp 26) (.tmp 26) 22 rfl w.heap.size 2 i0 (.int .i64 0) 1 Try.underlying22 hi hz0 hz1 .i64 .i64 _ _ N rfl rfl rfl rfl (by rw [hz2]; omega) hml (Nat.le_refl _) ?_; intro w1 hown hgrow))
  have O1 : Hid (wh.Own w1 w.heap.size (w.heap.size + 1) (.slice (some ⟨w.heap.size, 0, none⟩) N N) (List.replicate N 0)) := by
    have h := hown
    rw [zeros_i] at h
    exact own_narrow (own_row h (by simp) HML.out.1) (by omega)
  have b1 : Hid (Below w.heap.size w w1) := (Below.refl _ _).grown hgrow (Nat.le_refl _) (by intro k hk; cases hk)
  have HZ1 : Hid (w.heap.size < w1.heap.size) := by
    obtain ⟨_, _, _, _, _, _, h, _⟩ := O1.out.open
    exact (Array.getElem?_eq_some_iff.1 h).1
  clear hown hgrow
  go_upto_region 5 with (first | (refine wpList_make_full _ rfl (.tmp 31) (.tmp 31) 22 rfl w1.heap.size 2 i0 (.int .i64 0) 1 Try.underlying22 hi hz0 hz1 .i64 .i64 _ _ N rfl rfl rfl rfl (by rw [hz2]; omega) hml (Nat.le_refl _) ?_; intro w2 hown hgrow))
  have O2 : Hid (wh.Own w2 (w.heap.size + 1) w2.heap.size (.slice (some ⟨w1.heap.size, 0, none⟩) N N) (List.replicate N 0)) := by
    have h := hown
    rw [zeros_i] at h
    exact (own_row h (by simp) HML.out.1).wide (by have := HZ1.out; omega) (Nat.le_refl _)
  have b2 : Hid (Below w1.heap.size w1 w2) := (Below.refl _ _).grown hgrow (Nat.le_refl _) (by intro k hk; cases hk)
  have hb2g : Hid (w1.heap.size < w2.heap.size) := (own_block O2.out).2
  have O1b : Hid (wh.Own w2 w.heap.size (w.heap.size + 1) (.slice (some ⟨w.heap.size, 0, none⟩) N N) (List.replicate N 0)) := O1.out.below b2.out (by have := HZ1.out; omega)
  have B2 : Hid (Below w.heap.size w w2) := b1.out.trans (b2.out.mono b1.out.size)
  clear hown hgrow
  have hN0 : 0 < N := by have := HML.out; omega
  have f1 : w2.cell? ⟨w.heap.size, 0, none⟩ = some (.int .i64 0) := O1b.out.cell (by rw [List.getElem?_replicate, if_pos hN0])
  have f2 : w2.frozen? ⟨w.heap.size, 0, none⟩ = false := O1b.out.free 0
  have hs1 := store_int (b := 1) f1 f2
  have O1c : Hid (wh.Own (w2.setCell ⟨w.heap.size, 0, none⟩ (.int .i64 1)) w.heap.size (w.heap.size + 1) (.slice (some ⟨w.heap.size, 0, none⟩) N N) (ca un N)) := by rw [← un_row]; exact O1b.out.put 0 1
  have O2c : Hid (wh.Own (w2.setCell ⟨w.heap.size, 0, none⟩ (.int .i64 1)) (w.heap.size + 1) w2.heap.size (.slice (some ⟨w1.heap.size, 0, none⟩) N N) (List.replicate N 0)) := O2.out.other (.inl (Nat.lt_succ_self _)) _
  have f3 : (w2.setCell ⟨w.heap.size, 0, none⟩ (.int .i64 1)).cell? ⟨w1.heap.size, 0, none⟩ = some (.int .i64 0) := O2c.out.cell (by rw [List.getElem?_replicate, if_pos hN0])
  have f4 : (w2.setCell ⟨w.heap.size, 0, none⟩ (.int .i64 1)).frozen? ⟨w1.heap.size, 0, none⟩ = false := O2c.out.free 0
  have hs2 := store_int (b := 1) f3 f4
  obtain ⟨W3, hW3⟩ : ∃ x, x = (w2.setCell ⟨w.heap.size, 0, none⟩ (.int .i64 1)).setCell ⟨w1.heap.size, 0, none⟩ (.int .i64 1) := ⟨_, rfl⟩
  have C3 : Hid (wh.Own W3 w.heap.size (w.heap.size + 1) (.slice (some ⟨w.heap.size, 0, none⟩) N N) (ca (sts a1 A0 0).c N)) := by rw [hW3]; exact O1c.out.other (.inr (by have := HZ1.out; omega)) _
  have D3 : Hid (wh.Own W3 (w.heap.size + 1) W3.heap.size (.slice (some ⟨w1.heap.size, 0, none⟩) N N) (ca (sts a1 A0 0).b N)) := by
    rw [hW3]
    show wh.Own _ _ _ _ (ca un N)
    rw [← un_row]
    exact (O2c.out.put 0 1).wide (Nat.le_refl _) (by simp)
  have E3 : Hid (Below w.heap.size w W3) := by rw [hW3]; exact (B2.out.setCell (Nat.le_refl _) _).setCell (by have := HZ1.out; show w.heap.size ≤ w1.heap.size; omega) _
  have HGB : Hid (w.heap.size + 1 ≤ w1.heap.size) := by show _ ≤ _; have := HZ1.out; omega
  have hNi : (0 : Int) < (N : Int) := by omega
  clear O1 O2 O1b O1c O2c b1 b2 B2 hb2g HZ1
  go_upto_region 7 with fail
  rw [← hW3]
  clear hW3 f1 f2 f3 f4 hs1 hs2
  go_wp2_with fail
  go_loopw [7, 8, 9, 10, 39] (fun tb tl tm tx tk wr => ∃ (k gb cpb : Nat), k ≤ n ∧ tb = .slice (some ⟨gb, 0, none⟩) N cpb ∧ tl = .int .i64 ((sts a1 A0 k).l : Int) ∧ tm = .int .i64 ((sts a1 A0 k).m : Int) ∧ tx = .int .i64 (sts a1 A0 k).x ∧ tk = .int .i64 (k : Int) ∧ Hid (wh.Own wr w.heap.size (w.heap.size + 1) (.slice (some ⟨w.heap.size, 0, none⟩) N N) (ca (sts a1 A0 k).c N)) ∧ Hid (wh.Own wr (w.heap.size + 1) wr.heap.size (.slice (some ⟨gb, 0, none⟩) N cpb) (ca (sts a1 A0 k).b N)) ∧ Hid (Below w.heap.size w wr)) (fun _ _ _ _ t _ => n - (intOf t).toNat)
  case atStart => exact ⟨0, _, _, by omega, rfl, rfl, rfl, rfl, rfl, C3, D3, E3⟩
  case round =>
    obtain ⟨k, gb, cpb, hk, rfl, rfl, rfl, rfl, rfl, oc, ob, hb⟩ := hrel
    clear C3 D3 E3 HGB
    obtain ⟨⟨c, b, l, m, x⟩, hs⟩ : ∃ s, s = sts a1 A0 k := ⟨_, rfl⟩
    have HO : Hid (Ok a1 k ⟨c, b, l, m, x⟩) := by rw [hs]; exact HST.out k
    have HSS : Hid (sts a1 A0 (k + 1) = st a1 A0 k ⟨c, b, l, m, x⟩) := by rw [hs]; exact sts_succ a1 A0 k
    rw [← hs] at oc ob ⊢
    have HSK : Hid (sts a1 A0 k = ⟨c, b, l, m, x⟩) := hs.symm
    dsimp only at oc ob ⊢
    have hlk : l ≤ k := HO.out.l
    have hm1 : 1 ≤ m := HO.out.m1
    have hm2 : m ≤ k + 1 := HO.out.m2
    have hx1 : 0 < x ∧ x < a1 := HO.out.x
    have hp13 := HP.out.2
    clear hs
    by_cases hlt : k < n
    · have e1 : wr.cell? ⟨ab, aof + k, none⟩ = some (.int .i64 (at' A0 k)) := (hb.out.cell (p := ⟨ab, aof + k, none⟩) HAB.out).trans (HAC.out k hlt)
      obtain ⟨wq, hwq⟩ : ∃ q, q = wr := ⟨_, rfl⟩
      have D0 : Hid (at' A0 k + dc c A0 k (1 - 1) = at' A0 k) := by show at' A0 k + 0 = _; omega
      have hz := L0.out.2.2.at (by have := HP.out; omega) (by have := HP.out; omega) k
      have HDB : Hid (∀ i, 0 ≤ dc c A0 k i ∧ dc c A0 k i ≤ 144 * (i : Int)) := dc_bd HP.out HO.out.c L0.out.2.2 k
      have HCC : Hid (∀ j, j < N → wr.cell? ⟨w.heap.size, j, none⟩ = some (.int .i64 (c j))) := fun j hj => oc.out.cell (ca_get _ _ _ hj)
      have HAW : Hid (∀ j, j < n → wr.cell? ⟨ab, aof + j, none⟩ = some (.int .i64 (at' A0 j))) := fun j hj => (hb.out.cell (p := ⟨ab, aof + j, none⟩) HAB.out).trans (HAC.out j hj)
      rw [← hwq] at oc ob hb e1 HCC HAW ⊢
      clear hwq
      go_wp2_with fail
      clear e1
      go_loopw [12, 13] (fun sd si wr => ∃ i : Nat, 1 ≤ i ∧ i ≤ l + 1 ∧ sd = .int .i64 (at' A0 k + dc c A0 k (i - 1)) ∧ si = .int .i64 (i : Int) ∧ Hid (∃ q, wr = wq.drewN q)) (fun _ t _ => l + 1 - (intOf t).toNat)
      case atStart => exact ⟨1, by omega, by omega, by rw [D0.out], rfl, 0, rfl⟩
      case round =>
        obtain ⟨i, hi1, hi2, rfl, rfl, hq⟩ := hrel
        by_cases hil : i ≤ l
        · have e1 : wr.cell? ⟨w.heap.size, i, none⟩ = some (.int .i64 (c i)) := by obtain ⟨q, rfl⟩ := hq.out; exact HCC.out i (by have := HNE.out; omega)
          have e2 : wr.cell? ⟨ab, aof + (k - i), none⟩ = some (.int .i64 (at' A0 (k - i))) := by obtain ⟨q, rfl⟩ := hq.out; exact HAW.out (k - i) (by omega)
          have next : Hid (∀ q, ∃ m, wr.drewN q = wq.drewN m) := fun q => by obtain ⟨m, rfl⟩ := hq.out; exact ⟨m + q, World.drewN_drewN _ _ _⟩
          have hd1 := HDB.out (i - 1)
          have hd2 := HDB.out i
          have hdc := dc_at c A0 k hi1
          obtain ⟨s, hse⟩ : ∃ s, s = at' A0 k + dc c A0 k (i - 1) := ⟨_, rfl⟩
          obtain ⟨t, hte⟩ : ∃ t, t = at' A0 k + dc c A0 k i := ⟨_, rfl⟩
          have HT : Hid (t = at' A0 k + dc c A0 k (i + 1 - 1)) := by show _ = _; rw [hte, show i + 1 - 1 = i by omega]
          have hxy : c i * at' A0 (k - i) = t - s := by rw [hse, hte, hdc]; omega
          have hsb : 0 ≤ s ∧ s ≤ 100000 := by rw [hse]; omega
          have htb : 0 ≤ t ∧ t ≤ 100000 := by rw [hte]; omega
          rw [← hse]
          generalize c i = y1 at *
          generalize at' A0 (k - i) = y2 at *
          have d1 : IntKind.i64.wrap ((k : Int) - (i : Int)) = (k : Int) - (i : Int) := IntWalk.i64_in _ (by omega)
          have d2 : (0 : Int) ≤ (k : Int) - (i : Int) := by omega
          have d3 : (k : Int) - (i : Int) < (n : Int) := by omega
          have d4 : ((k : Int) - (i : Int)).toNat = k - i := by omega
          have d5 : (i : Int) < (N : Int) := by have := HNE.out; omega
          have d6 : IntKind.i64.wrap (y1 * y2) = t - s := by rw [hxy]; exact IntWalk.i64_in _ (by omega)
          have d7 : IntKind.i64.wrap (s + (t - s)) = t := by rw [show s + (t - s) = t by omega]; exact IntWalk.i64_in _ (by omega)
          clear hd1 hd2 hdc hse hte hxy hq hz
          go_wp2_with fail
          go_region
          go_wp2
          go_roundw
          case rel => exact ⟨i + 1, by omega, by omega, by rw [← HT.out], by go_num, next.out _⟩
          case measure => simp [RowKit.intOf]; omega
        · obtain rfl : i = l + 1 := by omega
          have HMS : Hid (md (at' A0 k + dc c A0 k (l + 1 - 1)) a1 = ms a1 A0 k ⟨c, b, l, m, x⟩) := rfl
          have OC : Hid (wh.Own wr w.heap.size (w.heap.size + 1) (.slice (some ⟨w.heap.size, 0, none⟩) N N) (ca c N)) := by obtain ⟨q, rfl⟩ := hq.out; exact oc.out.stay fun _ _ _ _ => rfl
          have OB : Hid (wh.Own wr (w.heap.size + 1) wr.heap.size (.slice (some ⟨gb, 0, none⟩) N cpb) (ca b N)) := by obtain ⟨q, rfl⟩ := hq.out; exact ob.out.stay fun _ _ _ _ => rfl
          have HB : Hid (Below w.heap.size w wr) := by obtain ⟨q, rfl⟩ := hq.out; exact Go.Pst.below_drewN hb.out q
          obtain ⟨d, hd⟩ : ∃ d, d = ms a1 A0 k ⟨c, b, l, m, x⟩ := ⟨_, rfl⟩
          have HD : Hid (d = ms a1 A0 k ⟨c, b, l, m, x⟩) := hd
          have HMI := Lib.hid (ms_in HP.out.1 A0 k ⟨c, b, l, m, x⟩)
          rw [← hd] at HMS HMI
          have HMD : Hid (∀ W, Calls Try.prog 28 #[.int .i64 (at' A0 k + dc c A0 k (l + 1 - 1)), .int .i64 a1] W fun e w' => e = .returned (.int .i64 d) ∧ w' = W) := fun W => by rw [← HMS.out]; exact md_any _ a1 ⟨by omega, by omega⟩ W
          clear hd hq oc ob hb HDB HCC HAW D0 hz
          generalize at' A0 k + dc c A0 k (l + 1 - 1) = S at *
          go_wp2_with fail
          refine (HMD.out _).mono ?_
          rintro e w5 ⟨rfl, hw5⟩
          rw [hw5]
          clear hw5 HMD HMS
          by_cases hd0 : d = 0
          · have HNX : Hid (sts a1 A0 (k + 1) = ⟨c, b, l, m + 1, x⟩) := by show _ = _; rw [HSS.out, st_zero (by rw [← HD.out]; exact hd0)]
            subst hd0
            go_wp2_with fail
            go_roundw
            case rel => exact ⟨k + 1, gb, cpb, by omega, rfl, by rw [HNX.out], by rw [HNX.out]; go_num, by rw [HNX.out], by go_num, by rw [HNX.out]; exact OC, by rw [HNX.out]; exact OB, HB⟩
            case measure => simp [RowKit.intOf]; omega
          · have hdz : (d == 0) = false := by rw [beq_eq_false_iff_ne]; exact hd0
            have HD0 : Hid (ms a1 A0 k ⟨c, b, l, m, x⟩ ≠ 0) := by show _ ≠ _; rw [← HD.out]; exact hd0
            have HIV := Lib.hid (inv_bd L0.out.1 hx1)
            have HINV : Hid (∀ W, Calls Try.prog 29 #[.int .i64 x, .int .i64 a1] W fun e w' => e = .returned (.int .i64 (inv x a1)) ∧ w' = W) := fun W => sinv_any x a1 L0.out.1 hx1 W
            obtain ⟨f, hf⟩ : ∃ f, f = d * inv x a1 := ⟨_, rfl⟩
            have hfb := mul_ab (A := 12) (B := 12) (a := d) (b := inv x a1) (by have := HMI.out; omega) (by have := HIV.out; omega)
            have hf0 : 0 ≤ d * inv x a1 := Int.mul_nonneg HMI.out.1 (by have := HIV.out; omega)
            rw [← hf] at hfb hf0
            have HF : Hid (f = ms a1 A0 k ⟨c, b, l, m, x⟩ * inv x a1) := by show _ = _; rw [hf, HD.out]
            have g1 : IntKind.i64.wrap (d * inv x a1) = f := by rw [← hf]; exact IntWalk.i64_in _ (by omega)
            have hpb : (a1 == 0) = false := by rw [beq_eq_false_iff_ne]; omega
            have htr := tm_range f (p := a1) (by omega)
            have htn : 0 ≤ Int.tmod f a1 := Int.tmod_nonneg _ hf0
            obtain ⟨r, hr⟩ : ∃ r, r = Int.tmod f a1 := ⟨_, rfl⟩
            have HRF : Hid (r = Int.tmod f a1 ∧ 0 ≤ f ∧ 0 ≤ r ∧ r ≤ 12) := ⟨hr, hf0, by omega, by omega⟩
            have g2 : IntKind.i64.wrap (Int.tmod f a1) = r := by rw [← hr]; exact IntWalk.i64_in _ (by omega)
            have g3 : Int.tmod f a1 = r := hr.symm
            have g4 : f % a1 = r := by rw [hr, Int.tmod_eq_emod_of_nonneg hf0]
            have g5 : wrap64 (Int.tmod f a1) = r := by rw [← hr]; exact IntWalk.wrap64_in _ (by omega)
            have startO : Hid ((wr.alloc (.cells #[] 2)).ownsRow wr.heap.size 2 1 (.slice (some ⟨wr.heap.size, 0, none⟩) 0 0) 0 []) := ⟨rfl, .inr ⟨wr.heap.size, 0, #[], rfl, Nat.le_refl _, heap_alloc_new wr _, by simp, by decide, rfl, rfl⟩⟩
            have news : Hid (∀ j u, ((ca c N).map (Value.int .i64))[j]? = some u → (wr.alloc (.cells #[] 2)).cell? ((⟨w.heap.size, 0, none⟩ : Addr).add j) = some u) := fun j u hu => by
              have hj : j < N := by have := (List.getElem?_eq_some_iff.1 hu).1; rw [List.length_map, ca_len] at this; exact this
              rw [List.getElem?_map, ca_get _ _ _ hj] at hu
              rw [Addr.add_lit, Nat.zero_add, ← Option.some.inj hu]
              exact ((OC.out.kept (new1 wr _)).cell (ca_get _ _ _ hj))
            have hlen : Hid (((ca c N).map (Value.int .i64)).length = N * 1) := by show _ = _; rw [List.length_map, ca_len]; omega
            have HSW : Hid (w.heap.size + 1 ≤ wr.heap.size) := by show _ ≤ _; have := (own_block OB.out); omega
            clear hf hfb hf0 htr htn hr hd0
            go_wp2_with fail
            refine (HINV.out _).mono ?_
            rintro e w5 ⟨rfl, hw5⟩
            rw [hw5]
            clear hw5 HINV
            go_upto_region 23 with (first | (at_builtin; refine wpList_append_own _ rfl (.tmp 78) (.tmp 79) 22 rfl wr.heap.size 2 i0 (.int .i64 0) 1 8 Try.underlying22 hi hz0 hz1 hz2 rfl (by decide) _ 0 [] rfl startO.out ⟨w.heap.size, 0, none⟩ N N _ rfl hlen.out news.out one_of_map (by unfold maxLen; have := HML.out; omega) (by have := HML.out; omega) (by simp) ?_; intro v' w4 hown' hgrow _))
            rw [Nat.zero_add, List.nil_append] at hown'
            obtain ⟨gt, cpt, rfl⟩ := own_shape hown' (by have := HML.out; omega)
            have b4 : Hid (Below wr.heap.size wr w4) := (new1 wr _).grown hgrow (by simp) (fun j hj => by have hj' : some wr.heap.size = some j := hj; injection hj' with hj'; omega)
            have OT : Hid (wh.Own w4 wr.heap.size w4.heap.size (.slice (some ⟨gt, 0, none⟩) N cpt) (ca c N)) := own_row hown' (ca_len _ _) HML.out.1
            have OC4 : Hid (wh.Own w4 w.heap.size (w.heap.size + 1) (.slice (some ⟨w.heap.size, 0, none⟩) N N) (ca (lj a1 c b m f (0 + m)) N)) := by show wh.Own _ _ _ _ _; rw [Nat.zero_add, lj_start]; exact OC.out.below b4.out HSW.out
            have OB4 : Hid (wh.Own w4 (w.heap.size + 1) wr.heap.size (.slice (some ⟨gb, 0, none⟩) N cpb) (ca b N)) := OB.out.below b4.out (Nat.le_refl _)
            have HB4 : Hid (Below w.heap.size w w4) := HB.out.trans (b4.out.mono HB.out.size)
            have HZ4 : Hid (wr.heap.size ≤ w4.heap.size) := b4.out.size
            clear hown' hgrow b4 startO news hlen OC OB HB g1 g2 g3 g4 g5 HIV
            obtain ⟨wv, hwv⟩ : ∃ v, v = wr := ⟨_, rfl⟩
            rw [← hwv] at OT OB4 HZ4 HSW
            clear hwv
            go_wp2_with fail
            go_loopw [16] (fun si wz => ∃ i : Nat, i + m ≤ N ∧ si = .int .i64 (i : Int) ∧ Hid (wh.Own wz w.heap.size (w.heap.size + 1) (.slice (some ⟨w.heap.size, 0, none⟩) N N) (ca (lj a1 c b m f (i + m)) N)) ∧ Hid (wh.Own wz (w.heap.size + 1) wv.heap.size (.slice (some ⟨gb, 0, none⟩) N cpb) (ca b N)) ∧ Hid (wh.Own wz wv.heap.size w4.heap.size (.slice (some ⟨gt, 0, none⟩) N cpt) (ca c N)) ∧ Hid (w4.heap.size ≤ wz.heap.size) ∧ Hid (Below w.heap.size w wz)) (fun t _ => N - (intOf t).toNat)
            case atStart => exact ⟨0, by have := HNE.out; omega, rfl, OC4, OB4, OT, Nat.le_refl _, HB4⟩
            case round =>
              obtain ⟨i, hiN, rfl, o1, o2, o3, hsz, hb⟩ := hrel
              clear OC4 OB4 OT HB4
              have hN130 := HML.out.2.2
              by_cases hil : i + m < N
              · have e1 : wr.cell? ⟨w.heap.size, i + m, none⟩ = some (.int .i64 (c (i + m))) := o1.out.cell (by rw [ca_get _ _ _ hil, lj_at])
                have e2 : wr.cell? ⟨gb, i, none⟩ = some (.int .i64 (b i)) := o2.out.cell (ca_get _ _ _ (by omega))
                have e3 : wr.frozen? ⟨w.heap.size, i + m, none⟩ = false := o1.out.free (i + m)
                have h1 := HO.out.c (i + m)
                have h2 := HO.out.b i
                dsimp only at h1 h2
                have h3 := mul_ab (A := 12) (B := 12) (a := r) (b := b i) (by have := HRF.out; omega) (by omega)
                have PUT : Hid (∀ v, v = md (c (i + m) - r * b i) a1 → wh.Own (wr.drew.setCell ⟨w.heap.size, i + m, none⟩ (.int .i64 v)) w.heap.size (w.heap.size + 1) (.slice (some ⟨w.heap.size, 0, none⟩) N N) (ca (lj a1 c b m f (i + 1 + m)) N)) := fun v hv => by
                  have hst := lj_step a1 c b m f (i + m) (by omega) N
                  rw [show i + m - m = i by omega, ← md_times _ f _ (by omega) HRF.out.2.1, ← HRF.out.1, ← hv, show i + m + 1 = i + 1 + m by omega] at hst
                  rw [← hst]
                  exact (show wh.Own wr.drew _ _ _ _ from o1.out.stay fun _ _ _ _ => rfl).put (i + m) v
                obtain ⟨a, ha⟩ : ∃ a, a = c (i + m) := ⟨_, rfl⟩
                obtain ⟨y, hy⟩ : ∃ y, y = b i := ⟨_, rfl⟩
                rw [← ha] at e1 h1 PUT
                rw [← hy] at e2 h2 h3 PUT
                obtain ⟨q, hq⟩ : ∃ q, q = r * y := ⟨_, rfl⟩
                rw [← hq] at h3 PUT
                have w1' : IntKind.i64.wrap (r * y) = q := by rw [← hq]; exact IntWalk.i64_in _ (by omega)
                have w1'' : wrap64 (r * y) = q := by rw [← hq]; exact IntWalk.wrap64_in _ (by omega)
                obtain ⟨dd, hdd⟩ : ∃ dd, dd = a - q := ⟨_, rfl⟩
                rw [← hdd] at PUT
                have w2' : IntKind.i64.wrap (a - q) = dd := by rw [← hdd]; exact IntWalk.i64_in _ (by omega)
                have w2'' : wrap64 (a - q) = dd := by rw [← hdd]; exact IntWalk.wrap64_in _ (by omega)
                obtain ⟨v, hv⟩ : ∃ v, v = md dd a1 := ⟨_, rfl⟩
                have P1 : Hid (wh.Own (wr.drew.setCell ⟨w.heap.size, i + m, none⟩ (.int .i64 v)) w.heap.size (w.heap.size + 1) (.slice (some ⟨w.heap.size, 0, none⟩) N N) (ca (lj a1 c b m f (i + 1 + m)) N)) := PUT.out v hv
                have P2 : Hid (wh.Own (wr.drew.setCell ⟨w.heap.size, i + m, none⟩ (.int .i64 v)) (w.heap.size + 1) wv.heap.size (.slice (some ⟨gb, 0, none⟩) N cpb) (ca b N)) := (show wh.Own wr.drew _ _ _ _ from o2.out.stay fun _ _ _ _ => rfl).other (.inl (Nat.lt_succ_self _)) _
                have P3 : Hid (wh.Own (wr.drew.setCell ⟨w.heap.size, i + m, none⟩ (.int .i64 v)) wv.heap.size w4.heap.size (.slice (some ⟨gt, 0, none⟩) N cpt) (ca c N)) := (show wh.Own wr.drew _ _ _ _ from o3.out.stay fun _ _ _ _ => rfl).other (.inl (by have := HSW.out; omega)) _
                have PS : Hid (w4.heap.size ≤ (wr.drew.setCell ⟨w.heap.size, i + m, none⟩ (.int .i64 v)).heap.size) := by show _ ≤ _; have := hsz.out; simpa using this
                have PB : Hid (Below w.heap.size w (wr.drew.setCell ⟨w.heap.size, i + m, none⟩ (.int .i64 v))) := (Below.drew hb.out).setCell (Nat.le_refl _) _
                have hst := store_int (b := v) (show wr.drew.cell? _ = _ from e1) (show wr.drew.frozen? _ = _ from e3)
                have HMD : Hid (∀ w, Calls Try.prog 28 #[.int .i64 dd, .int .i64 a1] w fun e w' => e = .returned (.int .i64 v) ∧ w' = w) := fun w => by rw [hv]; exact md_any dd a1 (by omega) w
                have d1 : IntKind.i64.wrap ((i : Int) + (m : Int)) = (i : Int) + (m : Int) := IntWalk.i64_in _ (by omega)
                have d2 : (0 : Int) ≤ (i : Int) + (m : Int) := by omega
                have d3 : ((i : Int) + (m : Int)).toNat = i + m := by omega
                have d4 : (i : Int) + (m : Int) < (N : Int) := by omega
                have d5 : (i : Int) < (N : Int) := by omega
                clear ha hy hq hdd hv h1 h2 h3 PUT o1 o2 o3 hsz hb hdz
                go_wp2_with fail
                go_region_law (first | (go_simp; go_at_call 28; refine (HMD.out _).mono ?_; rintro e w0 ⟨rfl, hw0⟩; rw [hw0]; clear hw0))
                all_goals (go_wp2; go_roundw; (case rel => exact ⟨i + 1, by omega, by go_num, P1, P2, P3, PS, PB⟩); (case measure => simp [RowKit.intOf]; omega))
              · have hij : i + m = N := by omega
                have O1 : Hid (wh.Own wr w.heap.size (w.heap.size + 1) (.slice (some ⟨w.heap.size, 0, none⟩) N N) (ca (ls a1 c b m (ms a1 A0 k ⟨c, b, l, m, x⟩ * inv x a1)) N)) := by have := o1.out; rw [hij, lj_end, HF.out] at this; exact this
                have OBw : Hid (wh.Own wr (w.heap.size + 1) wr.heap.size (.slice (some ⟨gb, 0, none⟩) N cpb) (ca b N)) := o2.out.wide (Nat.le_refl _) (by have := HZ4.out; have := hsz.out; omega)
                have OTw : Hid (wh.Own wr (w.heap.size + 1) wr.heap.size (.slice (some ⟨gt, 0, none⟩) N cpt) (ca c N)) := o3.out.wide HSW.out hsz.out
                clear o1 o2 o3 hij
                by_cases h2 : 2 * l ≤ k
                · have HNX : Hid (sts a1 A0 (k + 1) = { c := ls a1 c b m (ms a1 A0 k ⟨c, b, l, m, x⟩ * inv x a1), b := c, l := k + 1 - l, m := 1, x := d }) := by show _ = _; rw [HSS.out, st_long HD0.out h2, HD.out]
                  have HKL : Hid ((k : Int) + 1 - (l : Int) = ((k + 1 - l : Nat) : Int)) := by show _ = _; omega
                  go_wp2_with fail
                  go_roundw
                  case rel => exact ⟨k + 1, gt, cpt, by omega, rfl, by rw [HNX.out]; exact congrArg (Value.int .i64) HKL.out, by rw [HNX.out]; rfl, by rw [HNX.out], by go_num, by rw [HNX.out]; exact O1, by rw [HNX.out]; exact OTw, hb⟩
                  case measure => simp [RowKit.intOf]; omega
                · have HNX : Hid (sts a1 A0 (k + 1) = { c := ls a1 c b m (ms a1 A0 k ⟨c, b, l, m, x⟩ * inv x a1), b := b, l := l, m := m + 1, x := x }) := by show _ = _; rw [HSS.out, st_same HD0.out h2]
                  go_wp2_with fail
                  go_roundw
                  case rel => exact ⟨k + 1, gb, cpb, by omega, rfl, by rw [HNX.out], by rw [HNX.out]; go_num, by rw [HNX.out], by go_num, by rw [HNX.out]; exact O1, by rw [HNX.out]; exact OBw, hb⟩
                  case measure => simp [RowKit.intOf]; omega
    · obtain rfl : k = n := by omega
      have HRL : Hid (rk c a1 l = rl a1 (sts a1 A0 k)) := by show _ = _; rw [HSK.out]; rfl
      have HCC : Hid (∀ j, j < N → wr.cell? ⟨w.heap.size, j, none⟩ = some (.int .i64 (c j))) := fun j hj => oc.out.cell (ca_get _ _ _ hj)
      have HLN : Hid (l + 1 < N) := by show _ < _; have := HNE.out; omega
      have start : Hid ((wr.alloc (.cells #[] 2)).ownsRow wr.heap.size 2 1 (.slice (some ⟨wr.heap.size, 0, none⟩) 0 0) 0 ((rk c a1 0).map (Value.int .i64))) := ⟨rfl, .inr ⟨wr.heap.size, 0, #[], rfl, Nat.le_refl _, heap_alloc_new wr _, by simp, by decide, rfl, rfl⟩⟩
      have startB : Hid (Below wr.heap.size wr (wr.alloc (.cells #[] 2))) := new1 _ _
      have HWG : Hid (w.heap.size < wr.heap.size) := by show _ < _; have := own_block ob.out; omega
      obtain ⟨wq, hwq⟩ : ∃ q, q = wr := ⟨_, rfl⟩
      rw [← hwq] at start startB HCC HWG hb ⊢
      clear hwq oc ob
      go_wp2_with fail
      go_loopw [17, 18] (fun o t wr => ∃ (j i g cp : Nat), i = j + 1 ∧ j ≤ l ∧ o = .slice (some ⟨g, 0, none⟩) j cp ∧ t = .int .i64 (i : Int) ∧ Hid (wq.heap.size ≤ g) ∧ Hid (wr.ownsRow wq.heap.size 2 1 (.slice (some ⟨g, 0, none⟩) j cp) j ((rk c a1 j).map (Value.int .i64))) ∧ Hid (Below wq.heap.size wq wr)) (fun _ t _ => l + 1 - (intOf t).toNat)
      case atStart => exact ⟨0, 1, _, _, rfl, by omega, rfl, rfl, Nat.le_refl _, start, startB⟩
      case round =>
        obtain ⟨j, i, g, cp, hij, hj, rfl, rfl, hg, ho, hbq⟩ := hrel
        clear start startB
        have HIJ : Hid (i = j + 1) := hij
        by_cases hil : i ≤ l
        · have e1 : wr.cell? ⟨w.heap.size, i, none⟩ = some (.int .i64 (c i)) := (hbq.out.cell (p := ⟨w.heap.size, i, none⟩) HWG.out).trans (HCC.out i (by have := HLN.out; omega))
          have HSJ : Hid (rk c a1 (j + 1) = rk c a1 j ++ [md (-(c i)) a1]) := by show _ = _; rw [rk_succ, HIJ.out]
          have hcb := HO.out.c i
          dsimp only at hcb
          have HMD : Hid (∀ W, Calls Try.prog 28 #[.int .i64 (-(c i)), .int .i64 a1] W fun e w' => e = .returned (.int .i64 (md (-(c i)) a1)) ∧ w' = W) := fun W => md_any _ a1 (by omega) W
          have HS : Hid (wq.heap.size ≤ wr.heap.size) := hbq.out.size
          generalize md (-(c i)) a1 = y at *
          generalize c i = z at *
          have n1 : IntKind.i64.wrap (-z) = -z := IntWalk.i64_in _ (by omega)
          have n2 : wrap64 (-z) = -z := IntWalk.wrap64_in _ (by omega)
          have d1 : (i : Int) < (N : Int) := by have := HLN.out; omega
          have hzz : Hid ((rk c a1 j).map (Value.int .i64) ++ [Value.int .i64 y] = (rk c a1 (j + 1)).map (Value.int .i64)) := by show _ = _; rw [HSJ.out]; simp
          clear hcb hij HSJ
          go_wp2_with fail
          refine (HMD.out _).mono ?_
          rintro e w5 ⟨rfl, hw5⟩
          rw [hw5]
          clear hw5 HMD e1
          go_wp2_with (first | (at_builtin; refine wpList_append_own _ rfl (.tmp 128) (.tmp 136) 22 rfl wq.heap.size 2 i0 (.int .i64 0) 1 8 Try.underlying22 hi hz0 hz1 hz2 rfl (by decide) _ j _ rfl (ho.out.alloc _) ⟨wr.heap.size, 0, none⟩ 1 1 [.int .i64 _] rfl rfl (cell_one_new wr _ _) (by intro u hu; rw [List.mem_singleton] at hu; subst hu; rfl) (by unfold maxLen; omega) (by omega) (by have := HS.out; simp; omega) ?_; intro v' w4 hown' hgrow _))
          obtain ⟨g', cap', rfl⟩ := own_shape hown' (by omega)
          rw [hzz.out] at hown'
          have HG : Hid (wq.heap.size ≤ g') := (hown'.lt g' rfl).1
          have HO' : Hid (w4.ownsRow wq.heap.size 2 1 (.slice (some ⟨g', 0, none⟩) (j + 1) cap') (j + 1) ((rk c a1 (j + 1)).map (Value.int .i64))) := hown'
          have HB' : Hid (Below wq.heap.size wq w4) := (hbq.out.alloc HS.out _).grown hgrow (by have := HS.out; simp; omega) (by intro i hi'; have hi2 : some g = some i := hi'; injection hi2 with hi2; have := hg.out; omega)
          clear hown' hgrow
          go_roundw
          case rel => exact ⟨j + 1, i + 1, g', cap', by have := HIJ.out; omega, by have := HIJ.out; omega, rfl, by go_num, HG, HO', HB'⟩
          case measure => simp [RowKit.intOf]; omega
        · obtain rfl : j = l := by omega
          have HOo : Hid (Ls wr (.slice (some ⟨g, 0, none⟩) j cp) (rk c a1 j)) := (own_row ho.out (rk_len _ _ _) (by omega)).ls (Nat.le_refl _)
          have HBo : Hid (Below w.heap.size w wr) := hb.out.trans (hbq.out.mono hb.out.size)
          clear ho hij
          go_wp2_with fail
          go_ret2
          exact ⟨_, by rw [HZ.out.1]; rfl, by rw [HZ.out.2, ← HRL.out]; exact HOo.out, HBo.out⟩
end Go.Proofs.Ytfmdbgpalldjoaa.fRuleOver
