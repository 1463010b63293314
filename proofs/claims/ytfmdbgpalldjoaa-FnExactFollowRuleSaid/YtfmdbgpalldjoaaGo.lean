/- A list that goes on by a rule: the program's side. -/
import Derived.Test.YtfmdbgpalldjoaaSmO
import Derived.Lib.Hide
namespace Go.Proofs.Ytfmdbgpalldjoaa.ru
open Go.RowKit Go.Pl Go.Ru Go.Proofs.Ytfmdbgpalldjoaa.wh

set_option maxRecDepth 100000 in
theorem cloneR_any {v : Value} {L : List Int} {w : World} (h : Ls w v L) (hL : L.length ≤ 2097152) :
    Calls Try.prog 69 #[v] w fun e w' => ∃ v', e = .returned v' ∧ w'.ownsRow w.heap.size 2 1 v' L.length (L.map (Value.int .i64)) ∧ Below w.heap.size w w' := by
  obtain ⟨i0, hi, hz0, hz1, hz2⟩ := info_parts info_i
  obtain ⟨ao, cap, rfl, hn, hcap, hc⟩ := h
  have startR : Hid ((w.alloc (.cells #[] 2)).ownsRow w.heap.size 2 1 (.slice (some ⟨w.heap.size, 0, none⟩) 0 0) 0 []) :=
    ⟨rfl, .inr ⟨w.heap.size, 0, #[], rfl, Nat.le_refl _, heap_alloc_new w _, by simp, by decide, rfl, rfl⟩⟩
  cases ao with
  | none =>
    obtain rfl : L = [] := by
      by_cases e : L.length = 0
      · exact List.eq_nil_of_length_eq_zero e
      · obtain ⟨_, _, h, _⟩ := hc e
        cases h
    have q : (binOp .eql 22 (.slice none 0 cap) (.slice none 0 0)).run Try.prog w = .ok (.bool true) w := by
      first | exact Lib.run_eql_slice_nil w _ _ _ 0 cap 0 0 Try.underlying22 | (simp [go_sem])
    go_enter Try.func69, Try.ntmps69
    go_wp2_with fail
    go_ret
    exact ⟨_, rfl, World.ownsRow_nil _ _ _ _, Below.refl _ _⟩
  | some ad =>
    have news : Hid (∀ j u, (L.map (Value.int .i64))[j]? = some u → (w.alloc (.cells #[] 2)).cell? (ad.add j) = some u) := fun j u hu => by
      rw [List.getElem?_map] at hu
      cases hz : L[j]? with
      | none => rw [hz] at hu; cases hu
      | some z =>
        rw [hz] at hu
        have hj := (List.getElem?_eq_some_iff.1 hz).1
        obtain ⟨b, off, he, hbw, hcell⟩ := hc (by omega)
        obtain rfl := Option.some.inj he
        rw [Addr.add_lit, (new1 w _).cell (p := ⟨b, off + j, none⟩) hbw, ← Option.some.inj hu]
        exact hcell j z hz
    obtain ⟨n, hnn⟩ : ∃ n, n = L.length := ⟨_, rfl⟩
    have len : Hid ((L.map (Value.int .i64)).length = n * 1) := by show _ = _; rw [List.length_map]; omega
    have done : Hid (∀ v' w1, w1.ownsRow w.heap.size 2 1 v' (0 + n) ([] ++ L.map (Value.int .i64)) → (w.alloc (.cells #[] 2)).grownBy w1 (some w.heap.size) → w1.ownsRow w.heap.size 2 1 v' n (L.map (Value.int .i64)) ∧ Below w.heap.size w w1) := fun v' w1 ho hg => by
      rw [Nat.zero_add, List.nil_append] at ho
      exact ⟨ho, (new1 w _).grown hg (by simp) (fun j hj => by injection hj with hj; omega)⟩
    rw [← hnn] at hn hcap hL
    simp only [← hnn]
    clear hnn hc
    have q : (binOp .eql 22 (.slice (some ad) n cap) (.slice none 0 0)).run Try.prog w = .ok (.bool false) w := Lib.run_eql_slice_nil w _ _ _ n cap 0 0 Try.underlying22
    go_enter Try.func69, Try.ntmps69
    go_wp2_with (first | (at_builtin; refine wpList_append_own _ rfl (.tmp 5) (.tmp 6) 22 rfl w.heap.size 2 i0 (.int .i64 0) 1 8 Try.underlying22 hi hz0 hz1 hz2 rfl (by decide) _ 0 [] rfl startR.out ad n cap _ rfl len.out news.out one_of_map (by unfold maxLen; omega) (by omega) (by simp) ?_; intro v' w1 hown' hgrow _))
    go_ret
    exact ⟨_, rfl, done.out _ _ hown' hgrow⟩

theorem own_take {w : World} {lo hi g n cap : Nat} {L : List Int} (h : wh.Own w lo hi (.slice (some ⟨g, 0, none⟩) n cap) L) {c : Nat} (hc : c ≤ n) : wh.Own w lo hi (.slice (some ⟨g, 0, none⟩) c cap) (L.take c) := by
  obtain ⟨hn, ⟨h', _⟩ | ⟨g', cap', cs, h', hcp, h1, h2, h3, h4, h5, h6⟩⟩ := h
  · simp at h'
  · simp only [Value.slice.injEq, Option.some.injEq, Addr.mk.injEq, and_true] at h'
    obtain ⟨rfl, rfl, rfl⟩ := h'
    have hl : (L.take c).length = c := by rw [List.length_take]; omega
    exact ⟨by omega, .inr ⟨g, cap, cs, by rw [hl], by omega, h1, h2, h3, h4, by omega, fun k z hk => h6 k z (by rw [List.getElem?_take] at hk; split at hk; exact hk; cases hk)⟩⟩

theorem row_kept {w w' : World} {base e size n : Nat} {v : Value} {xs : List Value} (h : w.ownsRow base e size v n xs) (hb : Below w.heap.size w w') : w'.ownsRow base e size v n xs := by
  rcases h with ⟨h1, h2 | ⟨g, cap, cur, hv, hB, hg, h3⟩⟩
  · exact ⟨h1, .inl h2⟩
  · exact ⟨h1, .inr ⟨g, cap, cur, hv, hB, by rw [hb.block g (Array.getElem?_eq_some_iff.1 hg).1]; exact hg, h3⟩⟩
theorem row_cap {w : World} {base e size g k cp n : Nat} {xs : List Value} (h : w.ownsRow base e size (.slice (some ⟨g, 0, none⟩) k cp) n xs) : k ≤ cp := by
  rcases h with ⟨h1, ⟨h2, _⟩ | ⟨g', cap, cur, hv, hB, hg, h3, _⟩⟩
  · simp at h2
  · simp only [Value.slice.injEq, Option.some.injEq, Addr.mk.injEq, and_true] at hv
    obtain ⟨rfl, rfl, rfl⟩ := hv
    exact h3
theorem ls_nil {w : World} (ao : Option Addr) (cap : Nat) {L : List Int} (h : L = []) : Ls w (.slice ao 0 cap) L := by
  subst h
  exact ⟨ao, cap, rfl, by simp, by simp, fun e => absurd rfl e⟩
theorem ls_drop {w : World} {B g k cp : Nat} {L : List Int} (h : w.ownsRow B 2 1 (.slice (some ⟨g, 0, none⟩) k cp) k (L.map (Value.int .i64))) {j : Nat} (hj : j ≤ k) (hk : k ≤ 9223372036854775807) : Ls w (.slice (some ⟨g, j, none⟩) (k - j) (cp - j)) (L.drop j) := by
  have hl : L.length = k := by have := h.1; rw [List.length_map] at this; omega
  have hc := row_cap h
  have ho : wh.Own w B w.heap.size (.slice (some ⟨g, 0, none⟩) k cp) L := by
    have h' := h
    rw [show k = L.length from hl.symm] at h' ⊢
    exact Own.of_row (by rw [hl] at h' ⊢; exact h) (by omega) (Nat.le_refl _)
  refine ⟨_, _, by rw [List.length_drop, hl], by rw [List.length_drop]; omega, by rw [List.length_drop]; omega, fun e => ?_⟩
  refine ⟨g, j, rfl, own_lt h, fun i z hz => ?_⟩
  rw [List.getElem?_drop] at hz
  exact ho.cell hz
set_option maxRecDepth 100000 in
/-- the next number by a rule -/
theorem inext_any {A B : List Int} {va vb : Value} {w : World} {p : Int} {bR bP : Nat} (hR : w.cell? ⟨bR, 0, none⟩ = some va) (hP : w.cell? ⟨bP, 0, none⟩ = some (.int .i64 p)) (hp : isP p = true) (hn : A.length ≤ 64) (hAB : A.length = B.length) (hA : inR 0 (p - 1) A) (hB : inR 0 (p - 1) B) (h0 : Ls w va A) (h1 : Ls w vb B) :
    Calls Try.prog 36 #[vb, .pointer (some ⟨bR, 0, none⟩), .pointer (some ⟨bP, 0, none⟩)] w fun e w' => e = .returned (.int .i64 (md (ds A B A.length) p)) ∧ Below w.heap.size w w' := by
  have HC := Lib.hid (isum_any hp hn hAB hA hB h0 h1)
  obtain ⟨aa, ca, rfl⟩ := id h0.shape
  obtain ⟨ab, cb, rfl⟩ := id h1.shape
  clear h0 h1 hA hB hAB hn
  go_enter Try.func36, Try.ntmps36
  go_wp2_with fail
  refine HC.out.mono ?_
  rintro e w1 ⟨rfl, hb⟩
  go_wp2_with fail
  go_ret
  exact ⟨rfl, hb⟩

set_option maxRecDepth 100000 in
set_option maxHeartbeats 6400000 in
theorem igone_any {A F : List Int} {va vf : Value} {w : World} {p : Int} {bR bP : Nat} (hR : w.cell? ⟨bR, 0, none⟩ = some va) (hP : w.cell? ⟨bP, 0, none⟩ = some (.int .i64 p)) (hRl : bR < w.heap.size) (hPl : bP < w.heap.size) (hp : isP p = true) (hn : F.length ≤ 64) (hAF : A.length = F.length) (hA : inR 0 (p - 1) A) (hF : inR 0 (p - 1) F)
    (h0 : Ls w va A) (h1 : Ls w vf F) (c : Nat) (hc : c ≤ 64) :
    Calls Try.prog 35 #[vf, .int .i64 (c : Int), .func (.func 36) #[] #[.pointer (some ⟨bR, 0, none⟩), .pointer (some ⟨bP, 0, none⟩)]] w fun e w' => ∃ v, e = .returned v ∧ wh.Own w' w.heap.size w'.heap.size v (gq A F p c) ∧ Below w.heap.size w w' := by
  obtain ⟨i0, hi, hz0, hz1, hz2⟩ := info_parts info_i
  have hp2 := isP_le hp
  obtain ⟨af, cf, rfl⟩ := id h1.shape
  have HCl := Lib.hid (cloneR_any h1 (by omega))
  have HNX : Hid (∀ (k : Nat) (W : World) (vb : Value) (B : List Int), Below w.heap.size w W → B = (fo A F p k).drop k → Ls W vb B → Calls Try.prog 36 #[vb, .pointer (some ⟨bR, 0, none⟩), .pointer (some ⟨bP, 0, none⟩)] W fun e w' => e = .returned (.int .i64 (md (ds A (fo A F p k) A.length) p)) ∧ Below W.heap.size W w') := by
    intro k W vb B hb he hB
    have hl := fo_len A F p k
    have hd := ds_drop A (fo A F p k) (n := A.length) (by omega) A.length (Nat.le_refl _)
    rw [show (fo A F p k).length - A.length = k by omega, ← he] at hd
    rw [← hd]
    have hBl : A.length = B.length := by rw [he, List.length_drop]; omega
    exact inext_any ((hb.cell (p := ⟨bR, 0, none⟩) hRl).trans hR) ((hb.cell (p := ⟨bP, 0, none⟩) hPl).trans hP) hp (by omega) hBl hA (fun z hz => fo_in hp2.1 hF k z (by rw [he] at hz; exact List.mem_of_mem_drop hz)) (h0.below hb) hB
  have HFL : Hid (∀ k, (fo A F p k).length = F.length + k) := fo_len A F p
  have HRES : Hid (gq A F p c = (fo A F p (c - F.length)).take c) := rfl
  obtain ⟨R, hRe⟩ : ∃ R, R = gq A F p c := ⟨_, rfl⟩
  rw [← hRe] at HRES ⊢
  have HF0 : Hid (fo A F p 0 = F) := rfl
  obtain ⟨f, hf⟩ : ∃ f, f = fo A F p := ⟨_, rfl⟩
  have HSN : Hid (∀ k, f (k + 1) = f k ++ [md (ds A (f k) A.length) p]) := fun k => by rw [hf]; exact fo_succ A F p k
  rw [← hf] at HNX HFL HRES HF0
  obtain ⟨n, hnn⟩ : ∃ n, n = F.length := ⟨_, rfl⟩
  rw [← hnn] at hn HFL HRES HCl ⊢
  clear hR hP hRl hPl hp hA hF h0 h1 hRe hf hnn hAF hp2
  go_enter Try.func35, Try.ntmps35
  go_wp2_with fail
  refine HCl.out.mono ?_
  rintro e w1 ⟨v1, rfl, ho1, hb1⟩
  have startO : Hid (w1.ownsRow w.heap.size 2 1 v1 n ((f 0).map (Value.int .i64))) := by rw [HF0.out]; exact ho1
  have startB : Hid (Below w.heap.size w w1) := hb1
  have startV : (n = 0 ∧ v1 = .slice none 0 0) ∨ ∃ g cp, v1 = .slice (some ⟨g, 0, none⟩) n cp := by
    rcases ho1.2 with ⟨h, h'⟩ | ⟨g, cp, _, h, _⟩
    · exact .inl ⟨h', h⟩
    · exact .inr ⟨g, cp, h⟩
  clear ho1 hb1 HCl
  obtain ⟨w1', hw1⟩ : ∃ x, x = w1 := ⟨_, rfl⟩
  rw [← hw1] at startO startB ⊢
  clear hw1
  have startG : (n = 0 ∧ v1 = .slice none 0 0) ∨ ∃ g cp, v1 = .slice (some ⟨g, 0, none⟩) n cp ∧ w.heap.size ≤ g := by
    rcases startV with h | ⟨g, cp, rfl⟩
    · exact .inl h
    · refine .inr ⟨g, cp, rfl, ?_⟩
      have := (startO.out.lt g rfl).1
      exact this
  clear startV
  go_wp2_with fail
  go_loopw [7, 8] (fun v t wr => ∃ (j k : Nat), k = n + j ∧ (j = 0 ∨ k ≤ c) ∧ t = .int .i64 (k : Int) ∧ ((k = 0 ∧ v = .slice none 0 0) ∨ ∃ g cp, v = .slice (some ⟨g, 0, none⟩) k cp ∧ w.heap.size ≤ g) ∧ Hid (wr.ownsRow w.heap.size 2 1 v k ((f j).map (Value.int .i64))) ∧ Hid (Below w.heap.size w wr)) (fun _ t _ => c - (intOf t).toNat)
  case atStart => exact ⟨0, n, rfl, .inl rfl, rfl, startG, startO, startB⟩
  case round =>
    obtain ⟨j, k, hk, hkc, rfl, hv, ho, hb⟩ := hrel
    clear startO startB startG
    have HK : Hid (k = n + j) := hk
    have e1 : (k : Int) - (n : Int) = (j : Int) := by omega
    have e2 : (j : Int) ≤ (k : Int) := by omega
    have e3 : k - j = n := by omega
    have HS : Hid (w.heap.size ≤ wr.heap.size) := hb.out.size
    by_cases hlt : k < c
    · clear hk
      rcases hv with ⟨hk0, rfl⟩ | ⟨g, cp, rfl, hg⟩
      · have hj0 : j = 0 := by omega
        have HN0 : Hid (n = 0) := by show n = 0; omega
        subst hj0
        subst hk0
        have LB : Hid (Ls wr (.slice none n n) ((f 0).drop 0)) := by
          show Ls _ _ _
          rw [HN0.out]
          exact ls_nil _ _ (by rw [List.drop_eq_nil_of_le]; have := HFL.out 0; have := HK.out; omega)
        go_wp2_with fail
        refine (HNX.out 0 wr _ _ hb.out rfl LB.out).mono ?_
        rintro e w3 ⟨rfl, b3⟩
        have HSJ : Hid (f (0 + 1) = f 0 ++ [md (ds A (f 0) A.length) p]) := HSN.out 0
        generalize md (ds A (f 0) A.length) p = z at *
        have hzz : Hid ((f 0).map (Value.int .i64) ++ [Value.int .i64 z] = (f (0 + 1)).map (Value.int .i64)) := by show _ = _; rw [HSJ.out]; simp
        have ho3 : Hid (w3.ownsRow w.heap.size 2 1 (.slice none 0 0) 0 ((f 0).map (Value.int .i64))) := row_kept ho.out b3
        have hb3 : Hid (Below w.heap.size w w3) := hb.out.trans (b3.mono HS.out)
        have HS3 : Hid (w.heap.size ≤ w3.heap.size) := hb3.out.size
        clear b3 LB ho hb HSJ
        go_wp2_with (first | (at_builtin; refine wpList_append_own _ rfl (.tmp 18) (.tmp 27) 22 rfl w.heap.size 2 i0 (.int .i64 0) 1 8 Try.underlying22 hi hz0 hz1 hz2 rfl (by decide) _ 0 _ rfl (ho3.out.alloc _) ⟨w3.heap.size, 0, none⟩ 1 1 [.int .i64 _] rfl rfl (cell_one_new w3 _ _) (by intro u hu; rw [List.mem_singleton] at hu; subst hu; rfl) (by unfold maxLen; omega) (by omega) (by have := HS3.out; simp; omega) ?_; intro v' w4 hown' hgrow _))
        obtain ⟨g', cap', rfl⟩ := own_shape hown' (by omega)
        rw [hzz.out] at hown'
        have HG : Hid (w.heap.size ≤ g') := (hown'.lt g' rfl).1
        have HO : Hid (w4.ownsRow w.heap.size 2 1 (.slice (some ⟨g', 0, none⟩) (0 + 1) cap') (0 + 1) ((f (0 + 1)).map (Value.int .i64))) := hown'
        have HB : Hid (Below w.heap.size w w4) := (hb3.out.alloc HS3.out _).grown hgrow (by have := HS3.out; simp; omega) (by intro i hi'; cases hi')
        clear hown' hgrow
        go_roundw
        case rel => exact ⟨0 + 1, 0 + 1, by have := HK.out; omega, .inr (by omega), by go_num, .inr ⟨g', cap', rfl, HG.out⟩, HO, HB⟩
        case measure => simp [RowKit.intOf]; omega
      · have HJ : Hid (j ≤ k) := by show j ≤ k; omega
        have hkcp : Hid (k ≤ cp) := row_cap ho.out
        by_cases hcp : cp = j
        · obtain rfl : j = cp := hcp.symm
          have HN0 : Hid (n = 0) := by show n = 0; have := HK.out; have := hkcp.out; omega
          have LB : Hid (∀ (ao : Option Addr) (m cap : Nat), (m = n ∨ m = 0) → Ls wr (.slice ao m cap) ((f j).drop j)) := fun ao m cap hm => by
            obtain rfl : m = 0 := by have := HN0.out; omega
            exact ls_nil _ _ (by rw [List.drop_eq_nil_of_le]; have := HFL.out j; have := HK.out; have := hkcp.out; omega)
          go_wp2_with fail
          refine (HNX.out j wr _ _ hb.out rfl (LB.out _ _ _ (by first | exact .inl rfl | exact .inr rfl))).mono ?_
          rintro e w3 ⟨rfl, b3⟩
          have HSJ : Hid (f (j + 1) = f j ++ [md (ds A (f j) A.length) p]) := HSN.out j
          generalize md (ds A (f j) A.length) p = z at *
          have hzz : Hid ((f j).map (Value.int .i64) ++ [Value.int .i64 z] = (f (j + 1)).map (Value.int .i64)) := by show _ = _; rw [HSJ.out]; simp
          have ho3 : Hid (w3.ownsRow w.heap.size 2 1 (.slice (some ⟨g, 0, none⟩) k j) k ((f j).map (Value.int .i64))) := row_kept ho.out b3
          have hb3 : Hid (Below w.heap.size w w3) := hb.out.trans (b3.mono HS.out)
          have HS3 : Hid (w.heap.size ≤ w3.heap.size) := hb3.out.size
          clear b3 LB ho hb HSJ
          go_wp2_with (first | (at_builtin; refine wpList_append_own _ rfl (.tmp 18) (.tmp 27) 22 rfl w.heap.size 2 i0 (.int .i64 0) 1 8 Try.underlying22 hi hz0 hz1 hz2 rfl (by decide) _ k _ rfl (ho3.out.alloc _) ⟨w3.heap.size, 0, none⟩ 1 1 [.int .i64 _] rfl rfl (cell_one_new w3 _ _) (by intro u hu; rw [List.mem_singleton] at hu; subst hu; rfl) (by unfold maxLen; omega) (by omega) (by have := HS3.out; simp; omega) ?_; intro v' w4 hown' hgrow _))
          obtain ⟨g', cap', rfl⟩ := own_shape hown' (by omega)
          rw [hzz.out] at hown'
          have HG : Hid (w.heap.size ≤ g') := (hown'.lt g' rfl).1
          have HO : Hid (w4.ownsRow w.heap.size 2 1 (.slice (some ⟨g', 0, none⟩) (k + 1) cap') (k + 1) ((f (j + 1)).map (Value.int .i64))) := hown'
          have HB : Hid (Below w.heap.size w w4) := (hb3.out.alloc HS3.out _).grown hgrow (by have := HS3.out; simp; omega) (by intro i hi'; have hi2 : some g = some i := hi'; injection hi2 with hi2; omega)
          clear hown' hgrow
          go_roundw
          case rel => exact ⟨j + 1, k + 1, by have := HK.out; omega, .inr (by omega), by go_num, .inr ⟨g', cap', rfl, HG.out⟩, HO, HB⟩
          case measure => simp [RowKit.intOf]; omega
        · have e4 : j < cp := by have := hkcp.out; omega
          have LB : Hid (Ls wr (.slice (some ⟨g, j, none⟩) n (cp - j)) ((f j).drop j)) := by have h := ls_drop ho.out HJ.out (by omega); rw [e3] at h; exact h
          go_wp2_with fail
          refine (HNX.out j wr _ _ hb.out rfl LB.out).mono ?_
          rintro e w3 ⟨rfl, b3⟩
          have HSJ : Hid (f (j + 1) = f j ++ [md (ds A (f j) A.length) p]) := HSN.out j
          generalize md (ds A (f j) A.length) p = z at *
          have hzz : Hid ((f j).map (Value.int .i64) ++ [Value.int .i64 z] = (f (j + 1)).map (Value.int .i64)) := by show _ = _; rw [HSJ.out]; simp
          have ho3 : Hid (w3.ownsRow w.heap.size 2 1 (.slice (some ⟨g, 0, none⟩) k cp) k ((f j).map (Value.int .i64))) := row_kept ho.out b3
          have hb3 : Hid (Below w.heap.size w w3) := hb.out.trans (b3.mono HS.out)
          have HS3 : Hid (w.heap.size ≤ w3.heap.size) := hb3.out.size
          clear b3 LB ho hb HSJ
          go_wp2_with (first | (at_builtin; refine wpList_append_own _ rfl (.tmp 18) (.tmp 27) 22 rfl w.heap.size 2 i0 (.int .i64 0) 1 8 Try.underlying22 hi hz0 hz1 hz2 rfl (by decide) _ k _ rfl (ho3.out.alloc _) ⟨w3.heap.size, 0, none⟩ 1 1 [.int .i64 _] rfl rfl (cell_one_new w3 _ _) (by intro u hu; rw [List.mem_singleton] at hu; subst hu; rfl) (by unfold maxLen; omega) (by omega) (by have := HS3.out; simp; omega) ?_; intro v' w4 hown' hgrow _))
          obtain ⟨g', cap', rfl⟩ := own_shape hown' (by omega)
          rw [hzz.out] at hown'
          have HG : Hid (w.heap.size ≤ g') := (hown'.lt g' rfl).1
          have HO : Hid (w4.ownsRow w.heap.size 2 1 (.slice (some ⟨g', 0, none⟩) (k + 1) cap') (k + 1) ((f (j + 1)).map (Value.int .i64))) := hown'
          have HB : Hid (Below w.heap.size w w4) := (hb3.out.alloc HS3.out _).grown hgrow (by have := HS3.out; simp; omega) (by intro i hi'; have hi2 : some g = some i := hi'; injection hi2 with hi2; omega)
          clear hown' hgrow
          go_roundw
          case rel => exact ⟨j + 1, k + 1, by have := HK.out; omega, .inr (by omega), by go_num, .inr ⟨g', cap', rfl, HG.out⟩, HO, HB⟩
          case measure => simp [RowKit.intOf]; omega
    · have HT : Hid (R = (f j).take c ∧ c ≤ k) := by
        rcases hkc with h | h
        · have : c - n = j := by omega
          exact ⟨by rw [HRES.out, this], by omega⟩
        · have : c - n = j := by omega
          exact ⟨by rw [HRES.out, this], by omega⟩
      have HFJ : Hid ((f j).length = k) := by show _ = _; rw [HFL.out]; omega
      have hck : c ≤ k := HT.out.2
      have hk64 : k ≤ 64 := by omega
      clear hk hkc
      rcases hv with ⟨hk0, rfl⟩ | ⟨g, cp, rfl, hg⟩
      · have HO : Hid (wh.Own wr w.heap.size wr.heap.size (.slice none 0 0) R) := ⟨by rw [HT.out.1, List.length_take]; omega, .inl ⟨rfl, by rw [HT.out.1]; exact List.eq_nil_of_length_eq_zero (by rw [List.length_take]; omega)⟩⟩
        have hc0 : c = 0 := by omega
        subst hc0
        subst hk0
        go_wp2_with fail
        go_ret
        exact ⟨_, rfl, HO.out, hb.out⟩
      · have hkcp : k ≤ cp := row_cap ho.out
        have HO : Hid (wh.Own wr w.heap.size wr.heap.size (.slice (some ⟨g, 0, none⟩) c cp) R) := by
          have h2 : wr.ownsRow w.heap.size 2 1 (.slice (some ⟨g, 0, none⟩) k cp) (f j).length ((f j).map (Value.int .i64)) := by rw [HFJ.out]; exact ho.out
          have h3 := Own.of_row (hi := wr.heap.size) (L := f j) h2 (by have := HFJ.out; omega) (Nat.le_refl _)
          rw [HT.out.1]
          exact own_take h3 hck
        go_wp2_with fail
        go_ret
        exact ⟨_, rfl, HO.out, hb.out⟩
end Go.Proofs.Ytfmdbgpalldjoaa.ru
