/- Resultants: what the model's determinant answers. -/
import Derived.Test.YtbbdhbamooaloabDtA
namespace Go.Proofs.Ytbbdhbamooaloab.res
open Go.RowKit Go.Pl Go.Proofs.Ytbbdhbamooaloab.wh

theorem info_n : (Try.prog.info? 3).map (fun i => (i.zero, i.size, i.bytes)) = some (some (.int .i64 0), 1, 8) := by kernel_rfl
/-- a list of indexes, as integers -/
def ix (cs : List Nat) : List Int := cs.map fun (c : Nat) => (c : Int)
theorem ix_len (cs : List Nat) : (ix cs).length = cs.length := by simp [ix]
theorem ix_get {cs : List Nat} {k c : Nat} (h : cs[k]? = some c) : (ix cs)[k]? = some (c : Int) := by unfold ix; rw [List.getElem?_map, h]; rfl
theorem ix_er (cs : List Nat) (k : Nat) : (ix (cs.take k)) ++ ix (cs.drop (k + 1)) = ix (cs.eraseIdx k) := by
  unfold ix
  rw [List.eraseIdx_eq_take_drop_succ, List.map_append]
/-- a row of integers of any type of them, read -/
theorem ls_of_row {w : World} {base e : Nat} {v : Value} {L : List Int} (h : w.ownsRow base e 1 v L.length (L.map (Value.int .i64))) (hn : L.length ≤ 9223372036854775807) : Ls w v L := by
  rcases h.2 with ⟨rfl, h0⟩ | ⟨g, cap, cur, rfl, hB, hg, hc, hm, hs, hr⟩
  · obtain rfl := List.eq_nil_of_length_eq_zero h0
    exact ⟨none, 0, rfl, by simp, by simp, fun h => absurd rfl h⟩
  · refine ⟨_, _, rfl, hn, by omega, fun _ => ⟨g, 0, rfl, (Array.getElem?_eq_some_iff.1 hg).1, fun k z hk => ?_⟩⟩
    have hkl : k < L.length := (List.getElem?_eq_some_iff.1 hk).1
    have h1 : (L.map (Value.int .i64))[k]? = some (.int .i64 z) := by rw [List.getElem?_map, hk]; rfl
    rw [← hr, List.getElem?_take, if_pos (by omega)] at h1
    rw [Nat.zero_add, cell_of_row w g k cur _ _ hg]
    simpa using h1
/-- the rows behind the first one -/
theorem rows_tail {w : World} {hi b f n cap : Nat} {r : List Int} {rs : List (List Int)} (h : RdWs w hi (.slice (some ⟨b, f, none⟩) n cap) (r :: rs)) : RdWs w hi (.slice (some ⟨b, f + 1, none⟩) (n - 1) (cap - 1)) rs := by
  obtain ⟨ao, cap', he, hn, hcp, hc⟩ := h
  simp only [Value.slice.injEq] at he
  obtain ⟨rfl, rfl, rfl⟩ := he
  have hl : (r :: rs).length = rs.length + 1 := rfl
  obtain ⟨b', f', hq, hb, hk⟩ := hc (by omega)
  simp only [Option.some.injEq, Addr.mk.injEq, and_true] at hq
  obtain ⟨rfl, rfl⟩ := hq
  refine ⟨_, _, by rw [hl]; rfl, by omega, by omega, fun _ => ⟨b, f + 1, rfl, hb, fun k L hL => ?_⟩⟩
  obtain ⟨s, h1, h2⟩ := hk (k + 1) L (by simpa using hL)
  exact ⟨s, by rw [show f + 1 + k = f + (k + 1) by omega]; exact h1, h2⟩

theorem rest_ls {w : World} {base e k n : Nat} {v : Value} {cs : List Nat} (h : w.ownsRow base e 1 v (k + (n - (k + 1))) ((ix (cs.take k)).map (Value.int .i64) ++ (ix (cs.drop (k + 1))).map (Value.int .i64))) (hk : k < cs.length ∧ n = cs.length) (h8 : n ≤ 8) : Ls w v (ix (cs.eraseIdx k)) := by
  have hl : (ix (cs.eraseIdx k)).length = k + (n - (k + 1)) := by rw [ix_len, er_len hk.1]; omega
  refine ls_of_row (base := base) (e := e) ?_ (by rw [hl]; omega)
  rw [hl, ← ix_er, List.map_append]
  exact h
theorem rows_zero {w : World} {hi n cap : Nat} {ao : Option Addr} {rs : List (List Int)} (h : n = rs.length) (h0 : n = 0) : RdWs w hi (.slice ao n cap) rs := by
  subst h
  exact ⟨ao, cap, rfl, by omega, by omega, fun h1 => absurd h0 h1⟩
theorem own_some {w : World} {base e size m : Nat} {v : Value} {xs : List Value} (h : w.ownsRow base e size v m xs) (hne : v ≠ .slice none 0 0) : ∃ g cap, v = .slice (some ⟨g, 0, none⟩) m cap ∧ base ≤ g := by
  rcases h.2 with ⟨h', _⟩ | ⟨g, cap, cur, h', hB, _⟩
  · exact absurd h' hne
  · exact ⟨g, cap, h', hB⟩
set_option maxRecDepth 100000 in
set_option maxHeartbeats 4000000 in
theorem minor_any : ∀ (rs : List (List Int)) (cs : List Nat) {vr vc : Value} {w : World}, RdWs w w.heap.size vr rs → Ls w vc (ix cs) → cs.length = rs.length → rs.length ≤ 8 → Rb 20 rs → (∀ r ∈ rs, ∀ c ∈ cs, c < r.length) →
    Calls Try.prog 64 #[vr, vc] w fun e w' => e = .returned (.int .i64 (dt rs cs)) ∧ Below w.heap.size w w'
  | [], cs, vr, vc, w, hr, hc, _, _, _, _ => by
    obtain ⟨ao, cap, rfl⟩ := hr.shape
    clear hr hc
    go_enter Try.func64, Try.ntmps64
    go_wp2_with fail
    go_ret
    exact ⟨rfl, Below.refl _ _⟩
  | r :: rs, cs, vr, vc, w, hr, hc, hl, h8, hb, hin => by
    obtain ⟨i0, hi, hz0, hz1, hz2⟩ := info_parts info_n
    have IH : Hid (∀ (k : Nat) {vr vc : Value} {w : World}, k < cs.length → RdWs w w.heap.size vr rs → Ls w vc (ix (cs.eraseIdx k)) → Calls Try.prog 64 #[vr, vc] w fun e w' => e = .returned (.int .i64 (dt rs (cs.eraseIdx k))) ∧ Below w.heap.size w w') :=
      fun k vr vc w hk h1 h2 => minor_any rs (cs.eraseIdx k) h1 h2 (by rw [er_len hk]; simp at hl; omega) (by simp at h8; omega) (fun q hq => hb q (by simp [hq])) (fun q hq c hc => hin q (by simp [hq]) c (List.mem_of_mem_eraseIdx hc))
    have BD : Hid (∀ k, k < cs.length → -2684354560000000 ≤ dt rs (cs.eraseIdx k) ∧ dt rs (cs.eraseIdx k) ≤ 2684354560000000) := fun k hk => by
      have h1 := dt_bd rs (cs.eraseIdx k) (fun q hq => hb q (by simp [hq])) (by rw [er_len hk]; simp at hl h8; omega)
      have h2 : 160 ^ rs.length ≤ 160 ^ 7 := Nat.pow_le_pow_right (by omega) (by simp at h8; omega)
      have h3 : 160 ^ 7 = 2684354560000000 := by decide
      rw [h3] at h2
      omega
    obtain ⟨n, hn⟩ : ∃ n, n = cs.length := ⟨_, rfl⟩
    have HN : Hid (n = cs.length) := hn
    have HR : Hid (n = (r :: rs).length) := hn.trans hl
    have hn8 : n ≤ 8 := by rw [hn, hl]; exact h8
    have hn1 : 1 ≤ n := by rw [hn, hl]; simp
    have HRX : Hid (∀ c ∈ cs, c < r.length ∧ -20 ≤ at' r c ∧ at' r c ≤ 20) := fun c hc => ⟨hin r (by simp) c hc, hb r (by simp) c⟩
    obtain ⟨ao, cap, rfl⟩ := hr.shape
    obtain ⟨co, cap2, rfl⟩ := hc.shape
    rw [← HR.out] at hr ⊢
    rw [ix_len, ← hn] at hc ⊢
    have H0 : Hid (RdWs w w.heap.size (.slice ao n cap) (r :: rs)) := hr
    have H1 : Hid (Ls w (.slice co n cap2) (ix cs)) := hc
    have TL : Hid (∀ wx, Below w.heap.size w wx → ∀ b f, ao = some ⟨b, f, none⟩ → RdWs wx wx.heap.size (.slice (some ⟨b, f + 1, none⟩) (n - 1) (cap - 1)) rs) := fun wx bx b f e => by
      have t := H0.out
      rw [e] at t
      exact ((rows_tail t).below bx (Nat.le_refl _)).up bx.size
    obtain ⟨_, _, he, hnm, hnc, hq⟩ := hr
    simp only [Value.slice.injEq] at he
    obtain ⟨b0, f0, ha, hb0, hrow⟩ := hq (by simp)
    obtain rfl : ao = some ⟨b0, f0, none⟩ := he.1.trans ha
    obtain ⟨s0, e0, r0⟩ := hrow 0 r rfl
    obtain ⟨ro, cap3, hs0⟩ := r0.shape
    subst hs0
    have hcap : n ≤ cap := by rw [he.2.1, he.2.2]; exact hnc
    obtain ⟨_, _, he2, hnm2, hnc2, hq2⟩ := hc
    simp only [Value.slice.injEq] at he2
    obtain ⟨bc, fc, ha2, hbc, hcol⟩ := hq2 (by rw [ix_len]; omega)
    obtain rfl : co = some ⟨bc, fc, none⟩ := he2.1.trans ha2
    have hcap2 : n ≤ cap2 := by rw [he2.2.1, he2.2.2]; exact hnc2
    obtain ⟨fq, hfq, TLQ⟩ : ∃ fq, (if cap = 1 then some (⟨b0, f0, none⟩ : Addr) else some ⟨b0, f0 + 1, none⟩) = some ⟨b0, fq, none⟩ ∧ Hid (∀ wx, Below w.heap.size w wx → RdWs wx wx.heap.size (.slice (some ⟨b0, fq, none⟩) (n - 1) (cap - 1)) rs) := by
      by_cases h : cap = 1
      · refine ⟨f0, by rw [if_pos h], fun wx _ => rows_zero ?_ (by omega)⟩
        have := HR.out
        simp at this
        omega
      · exact ⟨f0 + 1, by rw [if_neg h], fun wx bx => TL.out wx bx _ _ rfl⟩
    have E0 : Hid (∀ wr, Below w.heap.size w wr → wr.cell? ⟨b0, f0, none⟩ = some (.slice ro r.length cap3)) := fun wr b => (b.cell (p := ⟨b0, f0, none⟩) hb0).trans e0
    have EC : Hid (∀ wr, Below w.heap.size w wr → ∀ (k c : Nat), cs[k]? = some c → wr.cell? ⟨bc, fc + k, none⟩ = some (.int .i64 (c : Int))) := fun wr b k c hk => (b.cell (p := ⟨bc, fc + k, none⟩) hbc).trans (hcol k _ (ix_get hk))
    have hrpos : ∃ b1 f1, ro = some ⟨b1, f1, none⟩ ∧ b1 < w.heap.size ∧ ∀ (k : Nat) (z : Int), r[k]? = some z → w.cell? ⟨b1, f1 + k, none⟩ = some (.int .i64 z) := by
      obtain ⟨_, _, he3, _, _, hq3⟩ := r0
      simp only [Value.slice.injEq] at he3
      obtain ⟨c0, hc0⟩ : ∃ c, cs[0]? = some c := ⟨cs[0]'(by omega), List.getElem?_eq_getElem _⟩
      have := (HRX.out c0 (List.mem_of_getElem? hc0)).1
      obtain ⟨b1, f1, q1, q2, q3⟩ := hq3 (by omega)
      exact ⟨b1, f1, he3.1.trans q1, q2, q3⟩
    obtain ⟨b1, f1, rfl, hb1, hel⟩ := hrpos
    have ER : Hid (∀ wr, Below w.heap.size w wr → ∀ c : Nat, c ∈ cs → wr.cell? ⟨b1, f1 + c, none⟩ = some (.int .i64 (at' r c))) := fun wr b c hc => (b.cell (p := ⟨b1, f1 + c, none⟩) hb1).trans (hel c _ (at_some r c (HRX.out c hc).1))
    have hrm : r.length ≤ 9223372036854775807 := by obtain ⟨_, _, _, h, _⟩ := r0; exact h
    obtain ⟨f, hf⟩ : ∃ f : Nat → Int, f = fun i => sg i * at' r (cl cs i) * dt rs (cs.eraseIdx i) := ⟨_, rfl⟩
    have HF : Hid (∀ i, f i = sg i * at' r (cl cs i) * dt rs (cs.eraseIdx i)) := fun i => by rw [hf]
    have HD : Hid (dt (r :: rs) cs = sm f n) := by show sm _ cs.length = _; rw [hf, hn]
    obtain ⟨m, hm⟩ : ∃ m, m = r.length := ⟨_, rfl⟩
    have HM : Hid (m = r.length) := hm
    rw [← hm] at E0 hrm
    clear TL hrow e0 r0 he ha hq hnc hnm hnm2 he2 ha2 hq2 hnc2 hcol hel hb hin hl h8 hn hf hm
    have SB : Hid (∀ k, k ≤ n → -429496729600000000 ≤ sm f k ∧ sm f k ≤ 429496729600000000) := fun k hk => by
      have := sm_bd (f := f) (M := 53687091200000000) k fun i hi => by
        rw [HF.out i]
        have hc : ∃ c, cs[i]? = some c := ⟨cs[i]'(by have := HN.out; omega), List.getElem?_eq_getElem _⟩
        obtain ⟨c, hc⟩ := hc
        have e : cl cs i = c := by unfold cl; rw [hc]; rfl
        rw [e]
        have := term_bd (k := i) (d := dt rs (cs.eraseIdx i)) (M := 2684354560000000) (HRX.out c (List.mem_of_getElem? hc)).2 (by have := BD.out i (by have := HN.out; omega); omega)
        omega
      have h8 : (k : Int) * 53687091200000000 ≤ 8 * 53687091200000000 := Int.mul_le_mul_of_nonneg_right (by omega) (by decide)
      omega
    have hn0 : ((n : Int) == 0) = false := by rw [beq_eq_false_iff_ne]; omega
    go_enter Try.func64, Try.ntmps64
    go_wp2_with fail
    go_loopw [5, 6, 15] (fun s g i wr => ∃ (k : Nat), k ≤ n ∧ s = .int .i64 (sm f k) ∧ g = .int .i64 (sg k) ∧ i = .int .i64 (k : Int) ∧ Hid (Below w.heap.size w wr)) (fun _ _ i _ => n - (intOf i).toNat)
    case atStart => exact ⟨0, by omega, rfl, rfl, rfl, Below.refl _ _⟩
    case round =>
      obtain ⟨k, hk, rfl, rfl, rfl, hb⟩ := hrel
      by_cases hlt : k < n
      · obtain ⟨c, hc⟩ : ∃ c, cs[k]? = some c := ⟨cs[k]'(by have := HN.out; omega), List.getElem?_eq_getElem _⟩
        have hcm : c ∈ cs := List.mem_of_getElem? hc
        have e0 := E0.out _ hb.out
        have ec := EC.out _ hb.out k c hc
        have er := ER.out _ hb.out c hcm
        obtain ⟨x, hx⟩ : ∃ x, at' r c = x := ⟨_, rfl⟩
        have HX : Hid (f k = sg k * x * dt rs (cs.eraseIdx k)) := by
          show _ = _
          rw [HF.out k]
          have e : cl cs k = c := by unfold cl; rw [hc]; rfl
          rw [e, hx]
        have hxb : -20 ≤ x ∧ x ≤ 20 := by rw [← hx]; exact (HRX.out c hcm).2
        have hcr : c < m := by rw [HM.out]; exact (HRX.out c hcm).1
        rw [hx] at er
        have hbd : Hid (Below w.heap.size w wr.drew) := hb.out.drew
        have sb := SB.out k hk
        have sb1 := SB.out (k + 1) hlt
        have ss : sm f (k + 1) = sm f k + f k := rfl
        clear hc hcm hx
        obtain ⟨S, hS⟩ : ∃ S, sm f k = S := ⟨_, rfl⟩
        obtain ⟨g, hg⟩ : ∃ S, sg k = S := ⟨_, rfl⟩
        have hgc : g = 1 ∨ g = -1 := by rw [← hg]; exact sg_cases k
        have hg1 : sg (k + 1) = -g := by rw [← hg]; rw [sg_add, show sg 1 = -1 from rfl]; omega
        rw [hS] at sb ss ⊢
        rw [hg] at HX ⊢
        go_wp2_with fail
        go_region
        by_cases hx0 : x = 0
        · have s1 : sm f (k + 1) = S := by rw [ss, HX.out, hx0, Int.mul_zero, Int.zero_mul, Int.add_zero]
          go_wp2_with fail
          go_roundw
          case rel => exact ⟨k + 1, by omega, by rw [s1], by rw [hg1], by go_num, hbd⟩
          case measure => simp [intOf]; omega
        · have hxd : (x != 0) = true := by rw [bne_iff_ne]; exact hx0
          have hxe : (x == 0) = false := by rw [beq_eq_false_iff_ne]; exact hx0
          have start : Hid (((wr.alloc (.cells #[] 3)).drew).ownsRow wr.heap.size 3 1 (.slice (some ⟨wr.heap.size, 0, none⟩) 0 0) 0 []) :=
            ⟨rfl, .inr ⟨wr.heap.size, 0, #[], rfl, Nat.le_refl _, heap_alloc_new wr _, by simp, by decide, rfl, rfl⟩⟩
          have BW : Hid (Below wr.heap.size wr (wr.alloc (.cells #[] 3)).drew) := (new1 _ _).drew
          have newsA : Hid (∀ j u, ((ix (cs.take k)).map (Value.int .i64))[j]? = some u → ((wr.alloc (.cells #[] 3)).drew).cell? ((⟨bc, fc, none⟩ : Addr).add j) = some u) := fun j u hu => by
            obtain ⟨c', h1, h2⟩ : ∃ c' : Nat, (cs.take k)[j]? = some c' ∧ Value.int .i64 (c' : Int) = u := by
              unfold ix at hu
              rw [List.getElem?_map, List.getElem?_map] at hu
              cases hz : (cs.take k)[j]? with
              | none => rw [hz] at hu; cases hu
              | some z => rw [hz] at hu; exact ⟨z, rfl, Option.some.inj hu⟩
            rw [Addr.add_lit, ← h2]
            have h3 : cs[j]? = some c' := by
              rw [List.getElem?_take] at h1
              split at h1
              · exact h1
              · cases h1
            exact EC.out _ (hb.out.trans (BW.out.mono hb.out.size)) j c' h3
          obtain ⟨fo, hfo, hfo2⟩ : ∃ fo, (if cap2 = k + 1 then some (⟨bc, fc, none⟩ : Addr) else some ⟨bc, fc + (k + 1), none⟩) = some ⟨bc, fo, none⟩ ∧ (cap2 ≠ k + 1 → fo = fc + (k + 1)) := by
            by_cases h : cap2 = k + 1
            · exact ⟨fc, by rw [if_pos h], fun h' => absurd h h'⟩
            · exact ⟨fc + (k + 1), by rw [if_neg h], fun _ => rfl⟩
          have newsB : Hid (∀ wx, Below wr.heap.size wr wx → ∀ j u, ((ix (cs.drop (k + 1))).map (Value.int .i64))[j]? = some u → wx.cell? ((⟨bc, fo, none⟩ : Addr).add j) = some u) := fun wx bx j u hu => by
            obtain ⟨c', h1, h2⟩ : ∃ c' : Nat, (cs.drop (k + 1))[j]? = some c' ∧ Value.int .i64 (c' : Int) = u := by
              unfold ix at hu
              rw [List.getElem?_map, List.getElem?_map] at hu
              cases hz : (cs.drop (k + 1))[j]? with
              | none => rw [hz] at hu; cases hu
              | some z => rw [hz] at hu; exact ⟨z, rfl, Option.some.inj hu⟩
            have h3 : cs[k + 1 + j]? = some c' := by rw [List.getElem?_drop] at h1; exact h1
            have h4 := (List.getElem?_eq_some_iff.1 h3).1
            rw [hfo2 (by have := HN.out; omega), Addr.add_lit, ← h2, show fc + (k + 1) + j = fc + (k + 1 + j) by omega]
            exact EC.out _ (hb.out.trans (bx.mono hb.out.size)) (k + 1 + j) c' h3
          have lenA : Hid (((ix (cs.take k)).map (Value.int .i64)).length = k * 1) := by show _ = _; rw [List.length_map, ix_len, List.length_take]; have := HN.out; omega
          have lenB : Hid (((ix (cs.drop (k + 1))).map (Value.int .i64)).length = (n - (k + 1)) * 1) := by show _ = _; rw [List.length_map, ix_len, List.length_drop]; have := HN.out; omega
          have HS9 : Hid (w.heap.size ≤ wr.heap.size) := hb.out.size
          have HC9 : Hid (n - (k + 1) ≤ cap2 - (k + 1)) := by show _ ≤ _; omega
          go_wp2_with (first
            | (at_builtin; refine wpList_append_own _ rfl (.tmp 29) (.tmp 32) 92 rfl wr.heap.size 3 i0 (.int .i64 0) 1 8 Try.underlying92 hi hz0 hz1 hz2 rfl (by decide) _ 0 [] rfl start.out ⟨bc, fc, none⟩ k _ _ rfl lenA.out newsA.out one_of_map (by unfold maxLen; omega) (by omega) (by simp) ?_; intro v1 wa hown1 hgrow1 hiff; rw [Nat.zero_add, List.nil_append] at hown1; obtain ⟨g1, c1, rfl, hg1'⟩ := own_some hown1 (fun e => by have t : Value.slice (some ⟨wr.heap.size, 0, none⟩) 0 0 = Value.slice none 0 0 := (hiff.1 e).1; simp at t); have BA : Hid (Below wr.heap.size wr wa) := BW.out.grown hgrow1 (by simp) (by intro j hj; have hj' : some wr.heap.size = some j := hj; injection hj' with hj'; omega); have HG1 : Hid (wr.heap.size ≤ g1) := hg1'; have RO : Hid (wa.ownsRow wr.heap.size 3 1 (.slice (some ⟨g1, 0, none⟩) k c1) k ((ix (cs.take k)).map (Value.int .i64))) := hown1; have SA9 : Hid (wr.heap.size ≤ wa.heap.size) := BA.out.size; have NB : Hid _ := newsB.out wa BA.out; clear hown1 hgrow1 hiff hg1' start newsA lenA newsB)
            | (at_builtin; refine wpList_append_own _ rfl (.tmp 34) (.tmp 38) 92 rfl wr.heap.size 3 i0 (.int .i64 0) 1 8 Try.underlying92 hi hz0 hz1 hz2 rfl (by decide) _ k _ rfl RO.out ⟨bc, fo, none⟩ (n - (k + 1)) _ _ rfl lenB.out NB.out one_of_map (by unfold maxLen; omega) (by omega) SA9.out ?_; intro v2 wb hown2 hgrow2 hiff; obtain ⟨g2, c2, rfl, _⟩ := own_some hown2 (fun e => by have t : Value.slice (some ⟨g1, 0, none⟩) k c1 = Value.slice none 0 0 := (hiff.1 e).1; simp at t); have BB : Hid (Below wr.heap.size wr wb) := BA.out.grown hgrow2 SA9.out (by intro j hj; have hj' : some g1 = some j := hj; injection hj' with hj'; have := HG1.out; omega); have R2 : Hid (Ls wb (.slice (some ⟨g2, 0, none⟩) (k + (n - (k + 1))) c2) (ix (cs.eraseIdx k))) := rest_ls hown2 ⟨by have := HN.out; omega, HN.out⟩ hn8; clear hown2 hgrow2 hiff RO HG1 SA9 NB BA lenB))
          (have t := TLQ.out _ (hb.out.trans (BB.out.mono hb.out.size)); have hC := IH.out k (by have := HN.out; omega) t R2.out; (with_reducible refine hC.mono ?_); clear hC t)
          rintro e wc ⟨rfl, b⟩
          have BC : Hid (Below w.heap.size w wc) := hb.out.trans ((BB.out.trans (b.mono BB.out.size)).mono hb.out.size)
          clear b R2 BB
          have bdk := BD.out k (by have := HN.out; omega)
          obtain ⟨D, hD⟩ : ∃ D, dt rs (cs.eraseIdx k) = D := ⟨_, rfl⟩
          have fk := HX.out
          rw [hD] at bdk fk ⊢
          rw [fk] at ss
          rw [ss] at sb1
          have gx : -20 ≤ g * x ∧ g * x ≤ 20 := by
            rcases hgc with h | h <;> rw [h] <;> omega
          have gxd := mul_le gx (B := 2684354560000000) bdk
          have SS : Hid (sm f (k + 1) = S + g * x * D) := ss
          have SN : Hid (sg (k + 1) = -g) := hg1
          have gb : -1 ≤ g ∧ g ≤ 1 := by omega
          have q1 : wrap64 (g * x) = g * x := IntWalk.wrap64_in _ (by omega)
          have q2 : wrap64 (g * x * D) = g * x * D := IntWalk.wrap64_in _ (by omega)
          have q3 : wrap64 (S + g * x * D) = S + g * x * D := IntWalk.wrap64_in _ (by omega)
          clear fk ss hg1 hgc hD hS hg SB sb
          go_wp2_with fail
          go_roundw
          case rel => exact ⟨k + 1, by omega, by rw [SS.out], by rw [SN.out], by go_num, BC⟩
          case measure => simp [intOf]; omega
      · obtain rfl : n = k := by omega
        go_wp2_with fail
        go_ret
        exact ⟨by rw [HD.out]; rfl, hb.out⟩
end Go.Proofs.Ytbbdhbamooaloab.res
