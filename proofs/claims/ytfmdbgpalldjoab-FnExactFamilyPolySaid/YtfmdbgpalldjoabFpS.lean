/- The terms of families' polynomials: the model makes them. -/
import Derived.Test.YtfmdbgpalldjoabFpP
import Derived.Test.YtfmdbgpalldjoabFaW
namespace Go.Proofs.Ytfmdbgpalldjoab.fp
open Go.RowKit Go.Fl Go.Fa Go.Fp Go.Proofs.Ytfmdbgpalldjoab.fls Go.Proofs.Ytfmdbgpalldjoab.fa

theorem at_any {v : Value} {n : Nat} {f : Nat → Nat} {w : World} (h : Fls w v n f) (k : Int) (hk : -1000 ≤ k ∧ k ≤ 1000) : Calls Try.prog 39 #[v, .int .i64 k] w fun e w' => e = .returned (.float .f32 (tm f n k)) ∧ w' = w := by
  obtain ⟨ao, cap, rfl, hn, hc⟩ := h
  by_cases h0 : k < 0
  · have HT : Hid (tm f n k = 0) := if_neg (by omega)
    clear hc
    go_enter Try.func39, Try.ntmps39
    go_wp2
    go_ret
    exact ⟨by rw [HT.out]; rfl, rfl⟩
  · by_cases h1 : (n : Int) ≤ k
    · have HT : Hid (tm f n k = 0) := if_neg (by omega)
      clear hc
      go_enter Try.func39, Try.ntmps39
      go_wp2
      go_ret
      exact ⟨by rw [HT.out]; rfl, rfl⟩
    · obtain ⟨j, rfl⟩ : ∃ j : Nat, k = j := ⟨k.toNat, by omega⟩
      have HT : Hid (tm f n j = f j) := by show _ = _; unfold tm; rw [if_pos (by omega), Int.toNat_natCast]
      obtain ⟨b, off, rfl, _, hcell⟩ := hc (by omega)
      have e1 : w.cell? ⟨b, off + j, none⟩ = some (.float .f32 (f j)) := hcell j (by omega)
      clear hc hcell
      generalize f j = z at *
      go_enter Try.func39, Try.ntmps39
      go_wp2
      go_ret
      exact ⟨by rw [HT.out]; rfl, rfl⟩

/-- a number of a list that is F up to the bits of not-a-numbers -/
theorem tm_sm {f F : Nat → Nat} {n : Nat} {l : List Nat} (hl : l.length = n) (hF : ∀ k, k < n → F k = at0 l k) (h : ∀ k, k < n → Sm .f32 (f k) (F k)) (k : Nat) : Sm .f32 (tm f n (k : Int)) (at0 l k) := by
  unfold tm
  by_cases hk : k < n
  · rw [if_pos (by omega), Int.toNat_natCast, ← hF k hk]
    exact h k hk
  · rw [if_neg (by omega)]
    unfold at0
    rw [List.getElem?_eq_none (by omega)]
    exact Sm.refl _ _
theorem tm_before {f F : Nat → Nat} {n : Nat} {l : List Nat} (hl : l.length = n) (hF : ∀ k, k < n → F k = at0 l k) (h : ∀ k, k < n → Sm .f32 (f k) (F k)) (k : Nat) : Sm .f32 (tm f n ((k : Int) - 1)) (if k = 0 then 0 else at0 l (k - 1)) := by
  by_cases hk : k = 0
  · subst hk
    rw [if_pos rfl]
    unfold tm
    rw [if_neg (by omega)]
    exact Sm.refl _ _
  · rw [if_neg hk]
    have h2 := tm_sm hl hF h (k - 1)
    rw [show ((k - 1 : Nat) : Int) = (k : Int) - 1 by omega] at h2
    exact h2

theorem own_ge2 {w : World} {B e g n cap : Nat} {xs : List Value} (h : w.ownsRow B e 1 (.slice (some ⟨g, 0, none⟩) n cap) n xs) : B ≤ g := by
  rcases h.2 with ⟨h', h0⟩ | ⟨g', cap', cur, h', hB, hg', hr⟩
  · simp at h'
  · simp only [Value.slice.injEq, Option.some.injEq, Addr.mk.injEq] at h'
    omega
/-- a list of the terms, to read or in memory of its own -/
def Tms (w : World) (B : Nat) (v : Value) (l : List Nat) : Prop := ∃ g cap L, v = .slice (some ⟨g, 0, none⟩) l.length cap ∧ w.ownsRow B 31 1 (.slice (some ⟨g, 0, none⟩) l.length cap) l.length L ∧ FL L l.length (at0 l)

set_option maxRecDepth 100000 in
set_option maxHeartbeats 3200000 in
theorem sterms_any (kd n : Nat) (hk : kd ≤ 4) (hn : n ≤ 16) (w : World) : Calls Try.prog 18 #[.int .i64 kd, .int .i64 n] w (VAns (n + 1) (at0 (tl kd n).1) w) := by
  obtain ⟨i0, hi, hz0, hz1, hz2⟩ := info_parts info_f
  have startL : Hid (FL [.float .f32 1065353216] 1 (at0 (tl kd 0).1)) := FL.one _ rfl
  have OA : Hid (((w.alloc (.cells #[] 31)).alloc (.cells #[.float .f32 1065353216] 31)).ownsRow w.heap.size 31 1 (.slice (some ⟨w.heap.size, 0, none⟩) 0 0) 0 []) :=
    World.ownsRow.alloc (w := w.alloc (.cells #[] 31)) ⟨rfl, .inr ⟨w.heap.size, 0, #[], rfl, Nat.le_refl _, heap_alloc_new w _, by simp, by decide, rfl, rfl⟩⟩ _
  have OB : Hid (((w.alloc (.cells #[] 31)).alloc (.cells #[.float .f32 1065353216] 31)).ownsRow w.heap.size 31 1 (.slice (some ⟨w.heap.size + 1, 0, none⟩) 1 1) 1 [.float .f32 1065353216]) :=
    ⟨rfl, .inr ⟨w.heap.size + 1, 1, #[.float .f32 1065353216], rfl, by omega, (by have := heap_alloc_new (w.alloc (.cells #[] 31)) (.cells #[.float .f32 1065353216] 31 (0, 0)); simpa using this), by simp, by decide, rfl, rfl⟩⟩
  have BS : Hid (Below w.heap.size w ((w.alloc (.cells #[] 31)).alloc (.cells #[.float .f32 1065353216] 31))) := ((Below.refl _ w).alloc (Nat.le_refl _) _).alloc (by simp) _
  go_enter Try.func18, Try.ntmps18
  go_wp2_with fail
  go_loopw [5, 6, 7] (fun u v i wr => ∃ (j g0 c0 g1 c1 : Nat) (L0 L1 : List Value), j ≤ n ∧ u = .slice (some ⟨g0, 0, none⟩) j c0 ∧ v = .slice (some ⟨g1, 0, none⟩) (j + 1) c1 ∧ i = .int .i64 j ∧ Hid (wr.ownsRow w.heap.size 31 1 (.slice (some ⟨g0, 0, none⟩) j c0) j L0) ∧ Hid (wr.ownsRow w.heap.size 31 1 (.slice (some ⟨g1, 0, none⟩) (j + 1) c1) (j + 1) L1) ∧ Hid (FL L0 j (at0 (tl kd j).2)) ∧ Hid (FL L1 (j + 1) (at0 (tl kd j).1)) ∧ Hid (Below w.heap.size w wr)) (fun _ _ i _ => n - (RowKit.intOf i).toNat)
  case atStart => exact ⟨0, _, _, _, _, _, _, by omega, rfl, rfl, rfl, OA, OB, FL.nil _, startL, BS⟩
  case round =>
    obtain ⟨j, g0, c0, g1, c1, L0, L1, hj, rfl, rfl, rfl, o0, o1, l0, l1, hbl⟩ := hrel
    by_cases hlt : j < n
    · have HR := Lib.hid (fun w => srule_any kd j hk (by omega) w)
      obtain ⟨f0, a0, s0⟩ := fls_own (by omega) o0.out l0.out
      obtain ⟨f1, a1, s1⟩ := fls_own (by omega) o1.out l1.out
      have HA0 : Hid (∀ k : Nat, k ≤ 100 → ∀ W, Below wr.heap.size wr W → Calls Try.prog 39 #[.slice (some ⟨g0, 0, none⟩) j c0, .int .i64 k] W fun e w' => e = .returned (.float .f32 (tm f0 j k)) ∧ w' = W) := fun k hk W hb => at_any (a0.below hb) k (by omega)
      have HA1 : Hid (∀ k : Nat, k ≤ 100 → ∀ W, Below wr.heap.size wr W → Calls Try.prog 39 #[.slice (some ⟨g1, 0, none⟩) (j + 1) c1, .int .i64 k] W fun e w' => e = .returned (.float .f32 (tm f1 (j + 1) k)) ∧ w' = W) := fun k hk W hb => at_any (a1.below hb) k (by omega)
      have HA2 : Hid (∀ k : Nat, k ≤ 100 → ∀ W, Below wr.heap.size wr W → Calls Try.prog 39 #[.slice (some ⟨g1, 0, none⟩) (j + 1) c1, .int .i64 ((k : Int) - 1)] W fun e w' => e = .returned (.float .f32 (tm f1 (j + 1) ((k : Int) - 1))) ∧ w' = W) := fun k hk W hb => at_any (a1.below hb) _ (by omega)
      have HT : Hid (∀ k x1 x2 x3 r1 r2 r3 r4 r5, k < j + 2 → x1 = tm f1 (j + 1) ((k : Int) - 1) → x2 = tm f1 (j + 1) (k : Int) → x3 = tm f0 j (k : Int) → Sm .f32 r1 (ar .mul .f32 (ra kd j) x1) → Sm .f32 r2 (ar .mul .f32 (rb kd j) x2) → Sm .f32 r3 (ar .add .f32 r1 r2) → Sm .f32 r4 (ar .mul .f32 (rc kd j) x3) → Sm .f32 r5 (ar .sub .f32 r3 r4) → Sm .f32 r5 (at0 (tl kd (j + 1)).1 k)) := by
        intro k x1 x2 x3 r1 r2 r3 r4 r5 hk e1 e2 e3 h1 h2 h3 h4 h5
        rw [tl_at kd j k hk]
        unfold nt
        subst e1 e2 e3
        rw [ar_congr (Sm.refl _ _) (tm_before (tl_len kd j).1 (fun _ _ => rfl) s1 k)] at h1
        rw [ar_congr (Sm.refl _ _) (tm_sm (tl_len kd j).1 (fun _ _ => rfl) s1 k)] at h2
        rw [ar_congr (Sm.refl _ _) (tm_sm (tl_len kd j).2 (fun _ _ => rfl) s0 k)] at h4
        rw [ar_congr h1 h2] at h3
        rw [ar_congr h3 h4] at h5
        exact h5
      clear a0 a1 s0 s1
      have start2 : Hid ((wr.alloc (.cells #[] 31)).ownsRow wr.heap.size 31 1 (.slice (some ⟨wr.heap.size, 0, none⟩) 0 0) 0 []) :=
        ⟨rfl, .inr ⟨wr.heap.size, 0, #[], rfl, Nat.le_refl _, heap_alloc_new wr _, by simp, by decide, rfl, rfl⟩⟩
      have startB2 : Hid (Below wr.heap.size wr (wr.alloc (.cells #[] 31))) := (Below.refl _ _).alloc (Nat.le_refl _) _
      have hwz : Hid (w.heap.size ≤ wr.heap.size) := hbl.out.size
      have FIN : Hid (∀ (W : World) (g c : Nat) (L : List Value), Below wr.heap.size wr W → W.ownsRow wr.heap.size 31 1 (.slice (some ⟨g, 0, none⟩) (j + 1 + 1) c) (j + 1 + 1) L → FL L (j + 1 + 1) (at0 (tl kd (j + 1)).1) →
          W.ownsRow w.heap.size 31 1 (.slice (some ⟨g1, 0, none⟩) (j + 1) c1) (j + 1) L1 ∧ W.ownsRow w.heap.size 31 1 (.slice (some ⟨g, 0, none⟩) (j + 1 + 1) c) (j + 1 + 1) L ∧ FL L1 (j + 1) (at0 (tl kd (j + 1)).2) ∧ Below w.heap.size w W) := fun W g c L hb ho hl =>
        ⟨own_below o1.out hb, ⟨ho.1, by rcases ho.2 with h' | ⟨g', cap', cur, h', hB, hg', hr⟩; exact .inl h'; exact .inr ⟨g', cap', cur, h', Nat.le_trans hwz.out hB, hg', hr⟩⟩, by rw [tl_two]; exact l1.out, hbl.out.trans (hb.mono hwz.out)⟩
      go_wp2_with fail
      refine (HR.out _).mono ?_
      rintro e w1 ⟨rfl, hw1⟩
      rw [hw1]
      clear hw1 HR o0 o1 l0 l1 hbl
      go_wp2_with fail
      go_loopw [11, 12] (fun u t wq => ∃ (k g c : Nat) (L : List Value), k ≤ j + 1 + 1 ∧ u = .slice (some ⟨g, 0, none⟩) k c ∧ t = .int .i64 k ∧ Hid (wr.heap.size ≤ g) ∧ Hid (wq.ownsRow wr.heap.size 31 1 (.slice (some ⟨g, 0, none⟩) k c) k L) ∧ Hid (FL L k (at0 (tl kd (j + 1)).1)) ∧ Hid (Below wr.heap.size wr wq)) (fun _ t _ => j + 1 + 1 - (RowKit.intOf t).toNat)
      case atStart => exact ⟨0, _, _, _, by omega, rfl, rfl, Nat.le_refl _, start2, FL.nil _, startB2⟩
      case round =>
        obtain ⟨k, g, c, L, hk, rfl, rfl, hg, ho, hl, hbq⟩ := hrel
        by_cases hltk : k ≤ j + 1
        · have B1 := Lib.hid (fun q => Go.Pst.below_drewN hbq.out q)
          have C2 := Lib.hid (HA2.out k (by omega))
          have C1 := Lib.hid (HA1.out k (by omega))
          have C0 := Lib.hid (HA0.out k (by omega))
          have OD : Hid (∀ q, (wr.drewN q).ownsRow _ 31 1 (.slice (some ⟨g, 0, none⟩) k c) k L) := fun q => ho.out
          have SZ := Lib.hid hbq.out.size
          have HX := Lib.hid (fun r1 r2 r3 r4 r5 => HT.out k _ _ _ r1 r2 r3 r4 r5 (by omega) rfl rfl rfl)
          clear ho HA0 HA1 HA2 HT
          generalize tm f1 (j + 1) ((k : Int) - 1) = x1 at *
          generalize tm f1 (j + 1) (k : Int) = x2 at *
          generalize tm f0 j (k : Int) = x3 at *
          go_wp2_with (first | (go_at_call 39; first | ((with_reducible refine (C2.out _ hbq.out).mono ?_); rintro e w2 ⟨rfl, hw⟩; rw [hw]; clear hw) | ((with_reducible refine (C1.out _ (B1.out _)).mono ?_); rintro e w2 ⟨rfl, hw⟩; rw [hw]; clear hw) | ((with_reducible refine (C0.out _ (B1.out _)).mono ?_); rintro e w2 ⟨rfl, hw⟩; rw [hw]; clear hw)) | (refine wpList_ar rfl .mul 31 31 _ _ rfl (by simp) .f32 _ _ rfl rfl ?_; intro s n3 hm hwm) | (refine wpList_ar rfl .add 31 31 _ _ rfl (by simp) .f32 _ _ rfl rfl ?_; intro s n3 hm hwm) | (refine wpList_ar rfl .sub 31 31 _ _ rfl (by simp) .f32 _ _ rfl rfl ?_; intro s n3 hm hwm) | (at_builtin; refine wpList_append_own _ rfl (.tmp 47) (.tmp 55) 30 rfl _ 31 i0 (.float .f32 0) 1 4 Try.underlying30 hi hz0 hz1 hz2 rfl (by decide) _ k _ rfl ((OD.out _).alloc _) ⟨wr.heap.size, 0, none⟩ 1 1 [.float .f32 _] rfl rfl (one_float (wr.drewN _) _) (by intro u hu; rw [List.mem_singleton] at hu; subst hu; rfl) (by unfold maxLen; omega) (by omega) (by have := SZ.out; simp; omega) ?_; intro v' w3 hown' hgrow _))
          have HB := Lib.hid (HX.out _ _ _ _ _ (by assumption) (by assumption) (by assumption) (by assumption) (by assumption))
          have hge : Hid (_ ≤ g) := hg
          obtain ⟨g', cap', rfl⟩ := own_shape hown' (by omega)
          have HL := Lib.hid (hl.out.snoc HB.out)
          have HO5 := Lib.hid hown'
          have HB5 := Lib.hid (((B1.out _).alloc (by have := SZ.out; simp; omega) _).grown hgrow (by have := SZ.out; simp; omega) (by intro j hj; have hj' : some g = some j := hj; injection hj' with hj'; have := hg.out; omega))
          have HG5 := Lib.hid (own_ge2 hown')
          clear hown' hgrow OD hl HB
          go_roundw
          case rel => exact ⟨k + 1, g', cap', _, by omega, rfl, by go_num, HG5, HO5, HL, HB5⟩
          case measure => simp [RowKit.intOf]; omega
        · have e : k = j + 1 + 1 := by omega
          subst e
          obtain ⟨p1, p2, p3, p4⟩ := FIN.out _ g c L hbq.out ho.out hl.out
          have P1 := Lib.hid p1
          have P2 := Lib.hid p2
          have P3 := Lib.hid p3
          have P4 := Lib.hid p4
          have P5 := Lib.hid hl.out
          clear p1 p2 p3 p4 HA0 HA1 HA2 HT FIN ho hl hbq
          go_wp2_with fail
          go_roundw
          case rel => exact ⟨j + 1, g1, c1, g, c, _, _, by omega, rfl, rfl, by go_num, P1, P2, P3, P5, P4⟩
          case measure => simp [RowKit.intOf]; omega
    · have e : n = j := by omega
      subst e
      go_wp2_with fail
      go_ret
      exact ⟨g1, c1, L1, rfl, o1.out, l1.out, hbl.out⟩
end Go.Proofs.Ytfmdbgpalldjoab.fp
