/- EvenNodes: what both sides answer. -/
import Derived.Test.YtibpahkjjjhapabEvS
import Derived.Laws.MakeOwn
import Derived.Deep.AppendLies
namespace Go.Proofs.Ytibpahkjjjhapab.fEvenNodes
open Go.RowKit Go.Fl Go.Fa Go.Proofs.Ytibpahkjjjhapab.cos Go.Proofs.Ytibpahkjjjhapab.fls Go.Proofs.Ytibpahkjjjhapab.fin Go.Proofs.Ytibpahkjjjhapab.fa Go.Proofs.Ytibpahkjjjhapab.ev Go.Proofs.Ytibpahkjjjhapab.fnExactSineTurnsW

/-- two lists of m, each in a block of its own -/
def EYes (m : Nat) (w : World) (e : Ending) (w' : World) : Prop :=
  ∃ b0 b1 c0 c1 L0 L1, e = .returned (.tuple #[.slice (some ⟨b0, 0, none⟩) m c0, .slice (some ⟨b1, 0, none⟩) m c1, .bool true]) ∧ b0 ≠ b1 ∧ w.heap.size ≤ b0 ∧ w.heap.size ≤ b1 ∧
    w'.ownsRow b0 42 1 (.slice (some ⟨b0, 0, none⟩) m c0) m L0 ∧ w'.ownsRow b1 42 1 (.slice (some ⟨b1, 0, none⟩) m c1) m L1 ∧ FL L0 m (N m) ∧ FL L1 m (W m) ∧ Below w.heap.size w w'
def ENo (w : World) (e : Ending) (w' : World) : Prop := e = .returned (.tuple #[.slice none 0 0, .slice none 0 0, .bool false]) ∧ Below w.heap.size w w'
theorem own_base {w : World} {B e g n cap : Nat} {xs : List Value} (h : w.ownsRow B e 1 (.slice (some ⟨g, 0, none⟩) n cap) n xs) : w.ownsRow g e 1 (.slice (some ⟨g, 0, none⟩) n cap) n xs := by
  refine ⟨h.1, ?_⟩
  rcases h.2 with ⟨h', h0⟩ | ⟨g', cap', cur, h', hB, hg, hr⟩
  · exact .inl ⟨h', h0⟩
  · have h2 := h'
    simp only [Value.slice.injEq, Option.some.injEq, Addr.mk.injEq] at h2
    obtain ⟨⟨rfl, _⟩, _⟩ := h2
    exact .inr ⟨g, cap', cur, h', Nat.le_refl _, hg, hr⟩
theorem own_grown {w w' : World} {B e g g0 n cap : Nat} {xs : List Value} (h : w.ownsRow B e 1 (.slice (some ⟨g, 0, none⟩) n cap) n xs) (hg : w.grownBy w' (some g0)) (hne : g ≠ g0) : w'.ownsRow B e 1 (.slice (some ⟨g, 0, none⟩) n cap) n xs := by
  refine ⟨h.1, ?_⟩
  rcases h.2 with ⟨h', h0⟩ | ⟨g', cap', cur, h', hB, hg', hr⟩
  · exact .inl ⟨h', h0⟩
  · have h2 := h'
    simp only [Value.slice.injEq, Option.some.injEq, Addr.mk.injEq] at h2
    obtain ⟨⟨rfl, _⟩, _⟩ := h2
    exact .inr ⟨g, cap', cur, h', hB, (hg.block g (Array.getElem?_eq_some_iff.1 hg').1 (fun e => hne (Option.some.inj e))).trans hg', hr⟩
theorem own_ge {w : World} {B e g n cap : Nat} {xs : List Value} (h : w.ownsRow B e 1 (.slice (some ⟨g, 0, none⟩) n cap) n xs) : B ≤ g := by
  rcases h.2 with ⟨h', h0⟩ | ⟨g', cap', cur, h', hB, hg', hr⟩
  · simp at h'
  · simp only [Value.slice.injEq, Option.some.injEq, Addr.mk.injEq] at h'
    omega
theorem own_same {w w' : World} {B e g n cap : Nat} {xs : List Value} (h : w.ownsRow B e 1 (.slice (some ⟨g, 0, none⟩) n cap) n xs) (hb : w'.heap[g]? = w.heap[g]?) : w'.ownsRow B e 1 (.slice (some ⟨g, 0, none⟩) n cap) n xs := by
  refine ⟨h.1, ?_⟩
  rcases h.2 with ⟨h', h0⟩ | ⟨g', cap', cur, h', hB, hg', hr⟩
  · exact .inl ⟨h', h0⟩
  · have h2 := h'
    simp only [Value.slice.injEq, Option.some.injEq, Addr.mk.injEq] at h2
    obtain ⟨⟨rfl, _⟩, _⟩ := h2
    exact .inr ⟨g, cap', cur, h', hB, hb.trans hg', hr⟩
theorem new_ne {g g' g1 H n c : Nat} (h : (Value.slice (some ⟨g, 0, none⟩) n c).ownBlock = some g' ∨ g' = H) (hne : g ≠ g1) (hH : g1 < H) : g' ≠ g1 := by
  rcases h with h | h
  · have e : some g = some g' := h
    injection e with e
    omega
  · omega
theorem cz_congr {a a' b : Nat} (h : Sm .f32 a a') : cz a b = cz a' b := by unfold cz; rw [ar_congr h (Sm.refl _ _)]

set_option maxRecDepth 100000 in
set_option maxHeartbeats 3200000 in
theorem impl_yes (m : Nat) (h1 : 1 ≤ m) (h8 : m ≤ 8) (w : World) : Calls Try.prog 16 #[.int .i64 m] w (EYes m w) := by
  obtain ⟨i0, hi, hz0, hz1, hz2⟩ := info_parts info_f
  have HD : Hid (decide ((1 : Int) ≤ (m : Int) ∧ (m : Int) ≤ 8) = true) := decide_eq_true (by omega)
  have hmk : ∀ w, (Instr.makeSlice 22 (.int .i64 (m : Int)) (.int .i64 (m : Int))).run Try.prog w = .ok (.slice (some ⟨w.heap.size, 0, none⟩) m m) (w.alloc (.cells (madeCells (Value.float .f32 0).cells m) 42)) := fun w => by
    have h := run_make (P := Try.prog) (w := w) 22 42 i0 (.float .f32 0) Try.underlying22 hi hz0 .i64 .i64 (m : Int) (m : Int) (by omega) (by omega) (by rw [hz2]; omega) (by omega)
    simpa [hz1] using h
  have hlen : (madeCells (Value.float .f32 0).cells m).size = m := by simp [madeCells, Value.cells]
  obtain ⟨CC, hCC⟩ : ∃ c, c = madeCells (Value.float .f32 0).cells m := ⟨_, rfl⟩
  rw [← hCC] at hmk hlen
  have hown : ∀ w : World, (w.alloc (.cells CC 42)).ownsRow w.heap.size 42 1 (.slice (some ⟨w.heap.size, 0, none⟩) m m) m CC.toList := fun w => by
    obtain ⟨w', hrun, r1, _⟩ := run_make_full (P := Try.prog) w w.heap.size 22 42 i0 (.float .f32 0) 1 Try.underlying22 hi hz0 hz1 .i64 .i64 m (by rw [hz2]; omega) (by unfold maxLen; omega) (Nat.le_refl _)
    rw [hmk] at hrun
    injection hrun with _ hw
    rw [hw, hCC]
    have e1 : m * 1 = m := Nat.mul_one m
    rw [e1] at r1
    exact r1
  have OA : Hid ((((w.alloc (.cells CC 42)).alloc (.cells CC 42)).drewN 1).ownsRow (w.heap.size) 42 1 (.slice (some ⟨w.heap.size, 0, none⟩) m m) m CC.toList) := (hown w).alloc _
  have OB : Hid ((((w.alloc (.cells CC 42)).alloc (.cells CC 42)).drewN 1).ownsRow (w.heap.size + 1) 42 1 (.slice (some ⟨w.heap.size + 1, 0, none⟩) m m) m CC.toList) := by
    have h := hown (w.alloc (.cells CC 42))
    have e : (w.alloc (.cells CC 42)).heap.size = w.heap.size + 1 := by simp
    rw [e] at h
    exact h
  clear hCC
  go_enter Try.func16, Try.ntmps16
  go_wp2_with fail
  refine (rnd.from_any _ _ _ _).mono ?_
  rintro e w1 ⟨rfl, hw⟩
  rw [hw, HD.out]
  clear hw
  go_wp2_with fail
  go_region
  · have OA0 : Hid ((((w.alloc (.cells CC 42)).alloc (.cells CC 42)).drewN 1).ownsRow (w.heap.size) 42 1 (.slice (some ⟨w.heap.size, 0, none⟩) m m) m CC.toList) := OA
    have OA1 : Hid ((((w.alloc (.cells CC 42)).alloc (.cells CC 42)).drewN 1).ownsRow (w.heap.size + 1) 42 1 (.slice (some ⟨w.heap.size + 1, 0, none⟩) m m) m CC.toList) := OB
    have BS : Hid (Below w.heap.size w (((w.alloc (.cells CC 42)).alloc (.cells CC 42)).drewN 1)) := Go.Pst.below_drewN (((Below.refl _ w).alloc (Nat.le_refl _) _).alloc (by simp) _) 1
    clear hmk hlen hown OA OB
    change Exit.then _ _ _ _ (((w.alloc (.cells CC 42)).alloc (.cells CC 42)).drewN 1)
    generalize ((w.alloc (.cells CC 42)).alloc (.cells CC 42)).drewN 1 = ws at *
    go_wp2_with fail
    go_loopw [21] (fun i wr => ∃ (k : Nat) (L0 L1 : List Value), k ≤ m ∧ i = .int .i64 k ∧ Hid (wr.ownsRow (w.heap.size) 42 1 (.slice (some ⟨w.heap.size, 0, none⟩) m m) m L0) ∧ Hid (wr.ownsRow (w.heap.size + 1) 42 1 (.slice (some ⟨w.heap.size + 1, 0, none⟩) m m) m L1) ∧ Hid (∀ i, i < k → ∃ b, L0[i]? = some (.float .f32 b) ∧ Sm .f32 b (N m i)) ∧ Hid (∀ i, i < k → ∃ b, L1[i]? = some (.float .f32 b) ∧ Sm .f32 b (W m i)) ∧ Hid (Below w.heap.size w wr)) (fun i _ => m - (RowKit.intOf i).toNat)
    case atStart => exact ⟨0, _, _, by omega, rfl, OA0, OA1, (fun i hi => by omega), (fun i hi => by omega), BS⟩
    case round =>
      obtain ⟨k, L0, L1, hk, rfl, o0, o1, l0, l1, hbl⟩ := hrel
      by_cases hlt : k < m
      · have hc1 := rnd.conv_oi (k : Int)
        have hc2 := rnd.conv_oi (2 * (m : Int) + 1)
        have HC : Hid (∀ a w, Sm .f32 a (ar .add .f32 (oi (k : Int)) 1061158912) → Calls Try.prog 25 #[.float .f32 a, .float .f32 (oi (2 * (m : Int) + 1))] w (SmPost (x0 m k) w)) := fun a w h => by
          have := icos_any a (oi (2 * (m : Int) + 1)) w
          rw [cz_congr h] at this
          exact this
        obtain ⟨y1, hy1⟩ : ∃ y, y = oi (k : Int) := ⟨_, rfl⟩
        obtain ⟨y2, hy2⟩ : ∃ y, y = oi (2 * (m : Int) + 1) := ⟨_, rfl⟩
        rw [← hy1] at hc1 HC
        rw [← hy2] at hc2 HC
        unfold SmPost at HC
        clear hy1 hy2
        obtain ⟨X0, hX0⟩ : ∃ x, x = x0 m k := ⟨_, rfl⟩
        have HN : Hid (itr m X0 12 = N m k) := by rw [hX0]; rfl
        rw [← hX0] at HC
        clear hX0
        go_wp2_with (first | (refine wpList_ar rfl .add 42 42 _ _ rfl (by simp) .f32 _ _ rfl rfl ?_; intro a qa ha hwa) | (go_at_call 25; refine (HC.out _ _ ha).mono ?_; rintro e w2 ⟨r, q, rfl, rfl, hr⟩))
        have HR : Hid (Sm .f32 r X0) := hr
        clear hr HC
        have i1 : (0 : Int) ≤ (k : Int) := by omega
        have i2 : (k : Int) < (m : Int) := by omega
        have h0l : L0.length = m := by have := o0.out.1; simpa using this
        have h1l : L1.length = m := by have := o1.out.1; simpa using this
        obtain ⟨u0, hu0⟩ : ∃ u, L0[k]? = some u := ⟨L0[k]'(by omega), List.getElem?_eq_getElem (by omega)⟩
        obtain ⟨u1, hu1⟩ : ∃ u, L1[k]? = some u := ⟨L1[k]'(by omega), List.getElem?_eq_getElem (by omega)⟩
        have KEY : Hid (∀ W2, Below wr.heap.size wr W2 → (∀ r, (store ⟨w.heap.size, k, none⟩ (.float .f32 r)).run Try.prog W2 = .ok () (W2.setCell ⟨w.heap.size, k, none⟩ (.float .f32 r))) ∧
            (∀ y q r, (store ⟨w.heap.size + 1, k, none⟩ (.float .f32 r)).run Try.prog ((W2.setCell ⟨w.heap.size, k, none⟩ (.float .f32 y)).drewN q) = .ok () (((W2.setCell ⟨w.heap.size, k, none⟩ (.float .f32 y)).drewN q).setCell ⟨w.heap.size + 1, k, none⟩ (.float .f32 r))) ∧
            ∀ y q r, (((W2.setCell ⟨w.heap.size, k, none⟩ (.float .f32 y)).drewN q).setCell ⟨w.heap.size + 1, k, none⟩ (.float .f32 r)).ownsRow (w.heap.size) 42 1 (.slice (some ⟨w.heap.size, 0, none⟩) m m) m (L0.set k (.float .f32 y)) ∧ (((W2.setCell ⟨w.heap.size, k, none⟩ (.float .f32 y)).drewN q).setCell ⟨w.heap.size + 1, k, none⟩ (.float .f32 r)).ownsRow (w.heap.size + 1) 42 1 (.slice (some ⟨w.heap.size + 1, 0, none⟩) m m) m (L1.set k (.float .f32 r)) ∧ Below w.heap.size w (((W2.setCell ⟨w.heap.size, k, none⟩ (.float .f32 y)).drewN q).setCell ⟨w.heap.size + 1, k, none⟩ (.float .f32 r))) := fun W2 hB => by
          have p0 : W2.ownsRow (w.heap.size) 42 1 (.slice (some ⟨w.heap.size, 0, none⟩) m m) m L0 := own_kept o0.out hB
          have p1 : W2.ownsRow (w.heap.size + 1) 42 1 (.slice (some ⟨w.heap.size + 1, 0, none⟩) m m) m L1 := own_kept o1.out hB
          have hne : w.heap.size ≠ w.heap.size + 1 := by omega
          have s0 : ∀ y q, ((W2.setCell ⟨w.heap.size, k, none⟩ (.float .f32 y)).drewN q).ownsRow (w.heap.size) 42 1 (.slice (some ⟨w.heap.size, 0, none⟩) m m) m (L0.set k (.float .f32 y)) := fun y q => (p0.stored k (.float .f32 y)).1
          have s1 : ∀ y q, ((W2.setCell ⟨w.heap.size, k, none⟩ (.float .f32 y)).drewN q).ownsRow (w.heap.size + 1) 42 1 (.slice (some ⟨w.heap.size + 1, 0, none⟩) m m) m L1 := fun y q => own_same p1 (Below.heap_setCell _ _ _ _ (by show w.heap.size + 1 ≠ w.heap.size; omega))
          refine ⟨fun r => store_float (u := u0) ((p0.cellAt k (by omega)).trans hu0) (p0.frozenAt k), fun y q r => store_float (u := u1) (((s1 y q).cellAt k (by omega)).trans hu1) ((s1 y q).frozenAt k), fun y q r => ⟨own_same (s0 y q) (Below.heap_setCell _ _ _ _ (by show w.heap.size ≠ w.heap.size + 1; omega)), ((s1 y q).stored k (.float .f32 r)).1, ?_⟩⟩
          exact (Go.Pst.below_drewN ((hbl.out.trans (hB.mono hbl.out.size)).setCell (p := ⟨w.heap.size, k, none⟩) (by show _ ≤ w.heap.size; omega) _) q).setCell (p := ⟨w.heap.size + 1, k, none⟩) (by show _ ≤ w.heap.size + 1; omega) _
        have HL0 : Hid (∀ r, Sm .f32 r (N m k) → ∀ i, i < k + 1 → ∃ b, (L0.set k (.float .f32 r))[i]? = some (.float .f32 b) ∧ Sm .f32 b (N m i)) := fun r hr => FL.set h0l l0.out hlt hr
        have HL1 : Hid (∀ r, Sm .f32 r (W m k) → ∀ i, i < k + 1 → ∃ b, (L1.set k (.float .f32 r))[i]? = some (.float .f32 b) ∧ Sm .f32 b (W m i)) := fun r hr => FL.set h1l l1.out hlt hr
        clear hu0 hu1 h0l h1l o0 o1 l0 l1 hbl
        go_loopw [8, 32] (fun x t wq => ∃ (j b : Nat), j ≤ 12 ∧ x = .float .f32 b ∧ t = .int .i64 j ∧ Hid (Sm .f32 b (itr m X0 j)) ∧ Hid (Below wr.heap.size wr wq)) (fun _ t _ => 12 - (RowKit.intOf t).toNat)
        case atStart => exact ⟨0, r, by omega, rfl, rfl, HR, Go.Pst.below_draws ⟨_, rfl⟩⟩
        case round =>
          obtain ⟨j, b, hj, rfl, rfl, hb, hbq⟩ := hrel
          have HSL := Lib.hid (islope_any m b _ hb.out h1 h8)
          unfold SlAns at HSL
          by_cases hltj : j < 12
          · have HST : Hid (∀ p s r1 r2, Sm .f32 p (Fa.fr 2 (itr m X0 j) m).1 → Sm .f32 s (slp m (itr m X0 j)) → Sm .f32 r1 (ar .quo .f32 p s) → Sm .f32 r2 (ar .sub .f32 b r1) → Sm .f32 r2 (itr m X0 (j + 1))) := fun p s r1 r2 g1 g2 g3 g4 => by
              rw [ar_congr g1 g2] at g3
              rw [ar_congr hb.out g3] at g4
              exact g4
            clear hb HR
            go_wp2_with (first | (go_at_call 33; refine (HSL.out _).mono ?_; rintro e w2 ⟨p, s, rfl, hp, hs, hb2⟩; have BQ := Lib.hid (hbq.out.trans (hb2.mono hbq.out.size)); clear hb2) | (refine wpList_ar rfl .quo 42 42 _ _ rfl (by simp) .f32 _ _ rfl rfl ?_; intro r1 q1 hr1 hw1) | (refine wpList_ar rfl .sub 42 42 _ _ rfl (by simp) .f32 _ _ rfl rfl ?_; intro r2 q2 hr2 hw2))
            have HB' := HST.out _ _ _ _ hp hs (by assumption) hr2
            go_roundw
            case rel => exact ⟨j + 1, r2, by omega, rfl, by go_num, HB', Go.Pst.below_drewN BQ.out _⟩
            case measure => simp [RowKit.intOf]; omega
          · have e12 : j = 12 := by omega
            rw [e12, HN.out] at hb HSL
            have HWT : Hid (∀ s r1 r2 r3 r4 r5, Sm .f32 s (slp m (N m k)) → Sm .f32 r1 (ar .mul .f32 b b) → Sm .f32 r2 (ar .sub .f32 1065353216 r1) → Sm .f32 r3 (ar .mul .f32 r2 s) → Sm .f32 r4 (ar .mul .f32 r3 s) → Sm .f32 r5 (ar .quo .f32 1073741824 r4) → Sm .f32 r5 (W m k)) := fun s r1 r2 r3 r4 r5 g0 g1 g2 g3 g4 g5 => by
              rw [ar_congr (op := .mul) hb.out hb.out] at g1
              rw [ar_congr (Sm.refl _ _) g1] at g2
              rw [ar_congr g2 g0] at g3
              rw [ar_congr g3 g0] at g4
              rw [ar_congr (Sm.refl _ _) g4] at g5
              exact g5
            clear HR e12
            go_wp2_with (first | (go_at_call 33; refine (HSL.out _).mono ?_; rintro e w2 ⟨p, s, rfl, hp, hs, hb2⟩; obtain ⟨st0, st1, fin5⟩ := KEY.out w2 (hbq.out.trans (hb2.mono hbq.out.size)); have FIN := Lib.hid fin5; clear hb2 fin5) | (refine wpList_ar rfl .quo 42 42 _ _ rfl (by simp) .f32 _ _ rfl rfl ?_; intro r1 q1 hr1 hw1) | (refine wpList_ar rfl .sub 42 42 _ _ rfl (by simp) .f32 _ _ rfl rfl ?_; intro r2 q2 hr2 hw2) | (refine wpList_ar rfl .mul 42 42 _ _ rfl (by simp) .f32 _ _ rfl rfl ?_; intro r3 q3 hr3 hw3))
            have HW5 := HWT.out _ _ _ _ _ _ hs (by assumption) (by assumption) (by assumption) (by assumption) (by assumption)
            go_roundw
            case rel => exact ⟨k + 1, _, _, by omega, by go_num, (FIN.out _ _ _).1, (FIN.out _ _ _).2.1, HL0.out _ hb.out, HL1.out _ HW5, (FIN.out _ _ _).2.2⟩
            case measure => simp [RowKit.intOf]; omega
      · have e : m = k := by omega
        subst e
        have F0 : Hid (FL L0 m (N m)) := ⟨by have := o0.out.1; simpa using this, l0.out⟩
        have F1 : Hid (FL L1 m (W m)) := ⟨by have := o1.out.1; simpa using this, l1.out⟩
        go_wp2_with fail
        go_ret3
        exact ⟨_, _, _, _, L0, L1, rfl, by omega, by omega, by omega, o0.out, o1.out, F0.out, F1.out, hbl.out⟩
  · have OA0 : Hid ((((w.alloc (.cells CC 42)).alloc (.cells CC 42)).drewN 1).ownsRow (w.heap.size + 1) 42 1 (.slice (some ⟨w.heap.size + 1, 0, none⟩) m m) m CC.toList) := OB
    have OA1 : Hid ((((w.alloc (.cells CC 42)).alloc (.cells CC 42)).drewN 1).ownsRow (w.heap.size) 42 1 (.slice (some ⟨w.heap.size, 0, none⟩) m m) m CC.toList) := OA
    have BS : Hid (Below w.heap.size w (((w.alloc (.cells CC 42)).alloc (.cells CC 42)).drewN 1)) := Go.Pst.below_drewN (((Below.refl _ w).alloc (Nat.le_refl _) _).alloc (by simp) _) 1
    clear hmk hlen hown OA OB
    change Exit.then _ _ _ _ (((w.alloc (.cells CC 42)).alloc (.cells CC 42)).drewN 1)
    generalize ((w.alloc (.cells CC 42)).alloc (.cells CC 42)).drewN 1 = ws at *
    go_wp2_with fail
    go_loopw [21] (fun i wr => ∃ (k : Nat) (L0 L1 : List Value), k ≤ m ∧ i = .int .i64 k ∧ Hid (wr.ownsRow (w.heap.size + 1) 42 1 (.slice (some ⟨w.heap.size + 1, 0, none⟩) m m) m L0) ∧ Hid (wr.ownsRow (w.heap.size) 42 1 (.slice (some ⟨w.heap.size, 0, none⟩) m m) m L1) ∧ Hid (∀ i, i < k → ∃ b, L0[i]? = some (.float .f32 b) ∧ Sm .f32 b (N m i)) ∧ Hid (∀ i, i < k → ∃ b, L1[i]? = some (.float .f32 b) ∧ Sm .f32 b (W m i)) ∧ Hid (Below w.heap.size w wr)) (fun i _ => m - (RowKit.intOf i).toNat)
    case atStart => exact ⟨0, _, _, by omega, rfl, OA0, OA1, (fun i hi => by omega), (fun i hi => by omega), BS⟩
    case round =>
      obtain ⟨k, L0, L1, hk, rfl, o0, o1, l0, l1, hbl⟩ := hrel
      by_cases hlt : k < m
      · have hc1 := rnd.conv_oi (k : Int)
        have hc2 := rnd.conv_oi (2 * (m : Int) + 1)
        have HC : Hid (∀ a w, Sm .f32 a (ar .add .f32 (oi (k : Int)) 1061158912) → Calls Try.prog 25 #[.float .f32 a, .float .f32 (oi (2 * (m : Int) + 1))] w (SmPost (x0 m k) w)) := fun a w h => by
          have := icos_any a (oi (2 * (m : Int) + 1)) w
          rw [cz_congr h] at this
          exact this
        obtain ⟨y1, hy1⟩ : ∃ y, y = oi (k : Int) := ⟨_, rfl⟩
        obtain ⟨y2, hy2⟩ : ∃ y, y = oi (2 * (m : Int) + 1) := ⟨_, rfl⟩
        rw [← hy1] at hc1 HC
        rw [← hy2] at hc2 HC
        unfold SmPost at HC
        clear hy1 hy2
        obtain ⟨X0, hX0⟩ : ∃ x, x = x0 m k := ⟨_, rfl⟩
        have HN : Hid (itr m X0 12 = N m k) := by rw [hX0]; rfl
        rw [← hX0] at HC
        clear hX0
        go_wp2_with (first | (refine wpList_ar rfl .add 42 42 _ _ rfl (by simp) .f32 _ _ rfl rfl ?_; intro a qa ha hwa) | (go_at_call 25; refine (HC.out _ _ ha).mono ?_; rintro e w2 ⟨r, q, rfl, rfl, hr⟩))
        have HR : Hid (Sm .f32 r X0) := hr
        clear hr HC
        have i1 : (0 : Int) ≤ (k : Int) := by omega
        have i2 : (k : Int) < (m : Int) := by omega
        have h0l : L0.length = m := by have := o0.out.1; simpa using this
        have h1l : L1.length = m := by have := o1.out.1; simpa using this
        obtain ⟨u0, hu0⟩ : ∃ u, L0[k]? = some u := ⟨L0[k]'(by omega), List.getElem?_eq_getElem (by omega)⟩
        obtain ⟨u1, hu1⟩ : ∃ u, L1[k]? = some u := ⟨L1[k]'(by omega), List.getElem?_eq_getElem (by omega)⟩
        have KEY : Hid (∀ W2, Below wr.heap.size wr W2 → (∀ r, (store ⟨w.heap.size + 1, k, none⟩ (.float .f32 r)).run Try.prog W2 = .ok () (W2.setCell ⟨w.heap.size + 1, k, none⟩ (.float .f32 r))) ∧
            (∀ y q r, (store ⟨w.heap.size, k, none⟩ (.float .f32 r)).run Try.prog ((W2.setCell ⟨w.heap.size + 1, k, none⟩ (.float .f32 y)).drewN q) = .ok () (((W2.setCell ⟨w.heap.size + 1, k, none⟩ (.float .f32 y)).drewN q).setCell ⟨w.heap.size, k, none⟩ (.float .f32 r))) ∧
            ∀ y q r, (((W2.setCell ⟨w.heap.size + 1, k, none⟩ (.float .f32 y)).drewN q).setCell ⟨w.heap.size, k, none⟩ (.float .f32 r)).ownsRow (w.heap.size + 1) 42 1 (.slice (some ⟨w.heap.size + 1, 0, none⟩) m m) m (L0.set k (.float .f32 y)) ∧ (((W2.setCell ⟨w.heap.size + 1, k, none⟩ (.float .f32 y)).drewN q).setCell ⟨w.heap.size, k, none⟩ (.float .f32 r)).ownsRow (w.heap.size) 42 1 (.slice (some ⟨w.heap.size, 0, none⟩) m m) m (L1.set k (.float .f32 r)) ∧ Below w.heap.size w (((W2.setCell ⟨w.heap.size + 1, k, none⟩ (.float .f32 y)).drewN q).setCell ⟨w.heap.size, k, none⟩ (.float .f32 r))) := fun W2 hB => by
          have p0 : W2.ownsRow (w.heap.size + 1) 42 1 (.slice (some ⟨w.heap.size + 1, 0, none⟩) m m) m L0 := own_kept o0.out hB
          have p1 : W2.ownsRow (w.heap.size) 42 1 (.slice (some ⟨w.heap.size, 0, none⟩) m m) m L1 := own_kept o1.out hB
          have hne : w.heap.size + 1 ≠ w.heap.size := by omega
          have s0 : ∀ y q, ((W2.setCell ⟨w.heap.size + 1, k, none⟩ (.float .f32 y)).drewN q).ownsRow (w.heap.size + 1) 42 1 (.slice (some ⟨w.heap.size + 1, 0, none⟩) m m) m (L0.set k (.float .f32 y)) := fun y q => (p0.stored k (.float .f32 y)).1
          have s1 : ∀ y q, ((W2.setCell ⟨w.heap.size + 1, k, none⟩ (.float .f32 y)).drewN q).ownsRow (w.heap.size) 42 1 (.slice (some ⟨w.heap.size, 0, none⟩) m m) m L1 := fun y q => own_same p1 (Below.heap_setCell _ _ _ _ (by show w.heap.size ≠ w.heap.size + 1; omega))
          refine ⟨fun r => store_float (u := u0) ((p0.cellAt k (by omega)).trans hu0) (p0.frozenAt k), fun y q r => store_float (u := u1) (((s1 y q).cellAt k (by omega)).trans hu1) ((s1 y q).frozenAt k), fun y q r => ⟨own_same (s0 y q) (Below.heap_setCell _ _ _ _ (by show w.heap.size + 1 ≠ w.heap.size; omega)), ((s1 y q).stored k (.float .f32 r)).1, ?_⟩⟩
          exact (Go.Pst.below_drewN ((hbl.out.trans (hB.mono hbl.out.size)).setCell (p := ⟨w.heap.size + 1, k, none⟩) (by show _ ≤ w.heap.size + 1; omega) _) q).setCell (p := ⟨w.heap.size, k, none⟩) (by show _ ≤ w.heap.size; omega) _
        have HL0 : Hid (∀ r, Sm .f32 r (N m k) → ∀ i, i < k + 1 → ∃ b, (L0.set k (.float .f32 r))[i]? = some (.float .f32 b) ∧ Sm .f32 b (N m i)) := fun r hr => FL.set h0l l0.out hlt hr
        have HL1 : Hid (∀ r, Sm .f32 r (W m k) → ∀ i, i < k + 1 → ∃ b, (L1.set k (.float .f32 r))[i]? = some (.float .f32 b) ∧ Sm .f32 b (W m i)) := fun r hr => FL.set h1l l1.out hlt hr
        clear hu0 hu1 h0l h1l o0 o1 l0 l1 hbl
        go_loopw [8, 32] (fun x t wq => ∃ (j b : Nat), j ≤ 12 ∧ x = .float .f32 b ∧ t = .int .i64 j ∧ Hid (Sm .f32 b (itr m X0 j)) ∧ Hid (Below wr.heap.size wr wq)) (fun _ t _ => 12 - (RowKit.intOf t).toNat)
        case atStart => exact ⟨0, r, by omega, rfl, rfl, HR, Go.Pst.below_draws ⟨_, rfl⟩⟩
        case round =>
          obtain ⟨j, b, hj, rfl, rfl, hb, hbq⟩ := hrel
          have HSL := Lib.hid (islope_any m b _ hb.out h1 h8)
          unfold SlAns at HSL
          by_cases hltj : j < 12
          · have HST : Hid (∀ p s r1 r2, Sm .f32 p (Fa.fr 2 (itr m X0 j) m).1 → Sm .f32 s (slp m (itr m X0 j)) → Sm .f32 r1 (ar .quo .f32 p s) → Sm .f32 r2 (ar .sub .f32 b r1) → Sm .f32 r2 (itr m X0 (j + 1))) := fun p s r1 r2 g1 g2 g3 g4 => by
              rw [ar_congr g1 g2] at g3
              rw [ar_congr hb.out g3] at g4
              exact g4
            clear hb HR
            go_wp2_with (first | (go_at_call 33; refine (HSL.out _).mono ?_; rintro e w2 ⟨p, s, rfl, hp, hs, hb2⟩; have BQ := Lib.hid (hbq.out.trans (hb2.mono hbq.out.size)); clear hb2) | (refine wpList_ar rfl .quo 42 42 _ _ rfl (by simp) .f32 _ _ rfl rfl ?_; intro r1 q1 hr1 hw1) | (refine wpList_ar rfl .sub 42 42 _ _ rfl (by simp) .f32 _ _ rfl rfl ?_; intro r2 q2 hr2 hw2))
            have HB' := HST.out _ _ _ _ hp hs (by assumption) hr2
            go_roundw
            case rel => exact ⟨j + 1, r2, by omega, rfl, by go_num, HB', Go.Pst.below_drewN BQ.out _⟩
            case measure => simp [RowKit.intOf]; omega
          · have e12 : j = 12 := by omega
            rw [e12, HN.out] at hb HSL
            have HWT : Hid (∀ s r1 r2 r3 r4 r5, Sm .f32 s (slp m (N m k)) → Sm .f32 r1 (ar .mul .f32 b b) → Sm .f32 r2 (ar .sub .f32 1065353216 r1) → Sm .f32 r3 (ar .mul .f32 r2 s) → Sm .f32 r4 (ar .mul .f32 r3 s) → Sm .f32 r5 (ar .quo .f32 1073741824 r4) → Sm .f32 r5 (W m k)) := fun s r1 r2 r3 r4 r5 g0 g1 g2 g3 g4 g5 => by
              rw [ar_congr (op := .mul) hb.out hb.out] at g1
              rw [ar_congr (Sm.refl _ _) g1] at g2
              rw [ar_congr g2 g0] at g3
              rw [ar_congr g3 g0] at g4
              rw [ar_congr (Sm.refl _ _) g4] at g5
              exact g5
            clear HR e12
            go_wp2_with (first | (go_at_call 33; refine (HSL.out _).mono ?_; rintro e w2 ⟨p, s, rfl, hp, hs, hb2⟩; obtain ⟨st0, st1, fin5⟩ := KEY.out w2 (hbq.out.trans (hb2.mono hbq.out.size)); have FIN := Lib.hid fin5; clear hb2 fin5) | (refine wpList_ar rfl .quo 42 42 _ _ rfl (by simp) .f32 _ _ rfl rfl ?_; intro r1 q1 hr1 hw1) | (refine wpList_ar rfl .sub 42 42 _ _ rfl (by simp) .f32 _ _ rfl rfl ?_; intro r2 q2 hr2 hw2) | (refine wpList_ar rfl .mul 42 42 _ _ rfl (by simp) .f32 _ _ rfl rfl ?_; intro r3 q3 hr3 hw3))
            have HW5 := HWT.out _ _ _ _ _ _ hs (by assumption) (by assumption) (by assumption) (by assumption) (by assumption)
            go_roundw
            case rel => exact ⟨k + 1, _, _, by omega, by go_num, (FIN.out _ _ _).1, (FIN.out _ _ _).2.1, HL0.out _ hb.out, HL1.out _ HW5, (FIN.out _ _ _).2.2⟩
            case measure => simp [RowKit.intOf]; omega
      · have e : m = k := by omega
        subst e
        have F0 : Hid (FL L0 m (N m)) := ⟨by have := o0.out.1; simpa using this, l0.out⟩
        have F1 : Hid (FL L1 m (W m)) := ⟨by have := o1.out.1; simpa using this, l1.out⟩
        go_wp2_with fail
        go_ret3
        exact ⟨_, _, _, _, L0, L1, rfl, by omega, by omega, by omega, o0.out, o1.out, F0.out, F1.out, hbl.out⟩

set_option maxHeartbeats 1600000 in
theorem impl_no (n : Int) (h : ¬ (1 ≤ n ∧ n ≤ 8)) (w : World) : Calls Try.prog 16 #[.int .i64 n] w (ENo w) := by
  have HD : Hid (decide ((1 : Int) ≤ n ∧ n ≤ 8) = false) := decide_eq_false h
  clear h
  go_enter Try.func16, Try.ntmps16
  go_wp2_with fail
  refine (rnd.from_any _ _ _ _).mono ?_
  rintro e w1 ⟨rfl, hw⟩
  rw [hw, HD.out]
  clear hw
  go_wp2_with fail
  go_ret3
  exact ⟨rfl, Below.refl _ _⟩
set_option maxHeartbeats 1600000 in
theorem spec_no (n : Int) (h : ¬ (1 ≤ n ∧ n ≤ 8)) (w : World) : Calls Try.prog 15 #[.int .i64 n] w (ENo w) := by
  have HD : Hid (decide ((1 : Int) ≤ n ∧ n ≤ 8) = false) := decide_eq_false h
  clear h
  go_enter Try.func15, Try.ntmps15
  go_wp2_with fail
  refine (rnd.in_any _ _ _ _).mono ?_
  rintro e w1 ⟨rfl, hw⟩
  rw [hw, HD.out]
  clear hw
  go_wp2_with fail
  go_ret3
  exact ⟨rfl, Below.refl _ _⟩

set_option maxRecDepth 100000 in
set_option maxHeartbeats 3200000 in
theorem spec_yes (m : Nat) (h1 : 1 ≤ m) (h8 : m ≤ 8) (w : World) : Calls Try.prog 15 #[.int .i64 m] w (EYes m w) := by
  obtain ⟨i0, hi, hz0, hz1, hz2⟩ := info_parts info_f
  have HD : Hid (decide ((1 : Int) ≤ (m : Int) ∧ (m : Int) ≤ 8) = true) := decide_eq_true (by omega)
  have HG : Hid (afin (N m) m = true ∧ afin (W m) m = true) := all_good m h1 h8
  have OA : Hid (((w.alloc (.cells #[] 42)).alloc (.cells #[] 42)).ownsRow w.heap.size 42 1 (.slice (some ⟨w.heap.size, 0, none⟩) 0 0) 0 []) :=
    World.ownsRow.alloc (w := w.alloc (.cells #[] 42)) ⟨rfl, .inr ⟨w.heap.size, 0, #[], rfl, Nat.le_refl _, heap_alloc_new w _, by simp, by decide, rfl, rfl⟩⟩ _
  have OB : Hid (((w.alloc (.cells #[] 42)).alloc (.cells #[] 42)).ownsRow w.heap.size 42 1 (.slice (some ⟨w.heap.size + 1, 0, none⟩) 0 0) 0 []) :=
    ⟨rfl, .inr ⟨w.heap.size + 1, 0, #[], rfl, by omega, (by have := heap_alloc_new (w.alloc (.cells #[] 42)) (.cells #[] 42 (0, 0)); simpa using this), by simp, by decide, rfl, rfl⟩⟩
  have BS : Hid (Below w.heap.size w ((w.alloc (.cells #[] 42)).alloc (.cells #[] 42))) := ((Below.refl _ w).alloc (Nat.le_refl _) _).alloc (by simp) _
  go_enter Try.func15, Try.ntmps15
  go_wp2_with fail
  refine (rnd.in_any _ _ _ _).mono ?_
  rintro e w1 ⟨rfl, hw⟩
  rw [hw, HD.out]
  clear hw
  go_wp2_with fail
  go_loopw [5, 6, 7] (fun v u i wr => ∃ (k g0 c0 g1 c1 : Nat) (L0 L1 : List Value), k ≤ m ∧ v = .slice (some ⟨g0, 0, none⟩) k c0 ∧ u = .slice (some ⟨g1, 0, none⟩) k c1 ∧ i = .int .i64 k ∧ Hid (g0 ≠ g1) ∧ Hid (wr.ownsRow w.heap.size 42 1 (.slice (some ⟨g0, 0, none⟩) k c0) k L0) ∧ Hid (wr.ownsRow w.heap.size 42 1 (.slice (some ⟨g1, 0, none⟩) k c1) k L1) ∧ Hid (FL L0 k (N m)) ∧ Hid (FL L1 k (W m)) ∧ Hid (Below w.heap.size w wr)) (fun _ _ i _ => m - (RowKit.intOf i).toNat)
  case atStart => exact ⟨0, _, _, _, _, _, _, by omega, rfl, rfl, rfl, (by show _ ≠ _; omega), OA, OB, FL.nil _, FL.nil _, BS⟩
  case round =>
    obtain ⟨k, g0, c0, g1, c1, L0, L1, hk, rfl, rfl, rfl, hne, o0, o1, l0, l1, hbl⟩ := hrel
    by_cases hlt : k < m
    · have hc1 := rnd.conv_oi (k : Int)
      have hc2 := rnd.conv_oi (2 * (m : Int) + 1)
      have HC : Hid (∀ a w, Sm .f32 a (ar .add .f32 (oi (k : Int)) 1061158912) → Calls Try.prog 23 #[.float .f32 a, .float .f32 (oi (2 * (m : Int) + 1))] w (SmPost (x0 m k) w)) := fun a w h => by
        have := scos_any a (oi (2 * (m : Int) + 1)) w
        rw [cz_congr h] at this
        exact this
      obtain ⟨y1, hy1⟩ : ∃ y, y = oi (k : Int) := ⟨_, rfl⟩
      obtain ⟨y2, hy2⟩ : ∃ y, y = oi (2 * (m : Int) + 1) := ⟨_, rfl⟩
      rw [← hy1] at hc1 HC
      rw [← hy2] at hc2 HC
      unfold SmPost at HC
      clear hy1 hy2
      obtain ⟨X0, hX0⟩ : ∃ x, x = x0 m k := ⟨_, rfl⟩
      have HN : Hid (itr m X0 12 = N m k) := by rw [hX0]; rfl
      rw [← hX0] at HC
      clear hX0
      go_wp2_with (first | (refine wpList_ar rfl .add 42 42 _ _ rfl (by simp) .f32 _ _ rfl rfl ?_; intro a qa ha hwa) | (go_at_call 23; refine (HC.out _ _ ha).mono ?_; rintro e w2 ⟨r, q, rfl, rfl, hr⟩))
      have HR : Hid (Sm .f32 r X0) := hr
      clear hr HC
      have KEY : Hid (∀ W2, Below wr.heap.size wr W2 → W2.ownsRow w.heap.size 42 1 (.slice (some ⟨g0, 0, none⟩) k c0) k L0 ∧ W2.ownsRow w.heap.size 42 1 (.slice (some ⟨g1, 0, none⟩) k c1) k L1 ∧ Below w.heap.size w W2 ∧ w.heap.size ≤ W2.heap.size ∧ g0 < W2.heap.size ∧ g1 < W2.heap.size) := fun W2 hB =>
        ⟨own_kept o0.out hB, own_kept o1.out hB, hbl.out.trans (hB.mono hbl.out.size), Nat.le_trans hbl.out.size hB.size, own_lt (own_kept o0.out hB), own_lt (own_kept o1.out hB)⟩
      have HB0 : Hid (w.heap.size ≤ g0 ∧ w.heap.size ≤ g1) := ⟨own_ge o0.out, own_ge o1.out⟩
      clear o0 o1 hbl
      go_loopw [8, 9] (fun x t wq => ∃ (j b : Nat), j ≤ 12 ∧ x = .float .f32 b ∧ t = .int .i64 j ∧ Hid (Sm .f32 b (itr m X0 j)) ∧ Hid (Below wr.heap.size wr wq)) (fun _ t _ => 12 - (RowKit.intOf t).toNat)
      case atStart => exact ⟨0, r, by omega, rfl, rfl, HR, Go.Pst.below_draws ⟨_, rfl⟩⟩
      case round =>
        obtain ⟨j, b, hj, rfl, rfl, hb, hbq⟩ := hrel
        have HSL := Lib.hid (sslope_any m b _ hb.out h1 h8)
        unfold SlAns at HSL
        by_cases hltj : j < 12
        · have HST : Hid (∀ p s r1 r2, Sm .f32 p (Fa.fr 2 (itr m X0 j) m).1 → Sm .f32 s (slp m (itr m X0 j)) → Sm .f32 r1 (ar .quo .f32 p s) → Sm .f32 r2 (ar .sub .f32 b r1) → Sm .f32 r2 (itr m X0 (j + 1))) := fun p s r1 r2 g1 g2 g3 g4 => by
            rw [ar_congr g1 g2] at g3
            rw [ar_congr hb.out g3] at g4
            exact g4
          clear hb HR
          go_wp2_with (first | (go_at_call 32; refine (HSL.out _).mono ?_; rintro e w2 ⟨p, s, rfl, hp, hs, hb2⟩; have BQ := Lib.hid (hbq.out.trans (hb2.mono hbq.out.size)); clear hb2) | (refine wpList_ar rfl .quo 42 42 _ _ rfl (by simp) .f32 _ _ rfl rfl ?_; intro r1 q1 hr1 hw1) | (refine wpList_ar rfl .sub 42 42 _ _ rfl (by simp) .f32 _ _ rfl rfl ?_; intro r2 q2 hr2 hw2))
          have HB' := HST.out _ _ _ _ hp hs (by assumption) hr2
          go_roundw
          case rel => exact ⟨j + 1, r2, by omega, rfl, by go_num, HB', Go.Pst.below_drewN BQ.out _⟩
          case measure => simp [RowKit.intOf]; omega
        · have e12 : j = 12 := by omega
          rw [e12, HN.out] at hb HSL
          have HWT : Hid (∀ s r1 r2 r3 r4 r5, Sm .f32 s (slp m (N m k)) → Sm .f32 r1 (ar .mul .f32 b b) → Sm .f32 r2 (ar .sub .f32 1065353216 r1) → Sm .f32 r3 (ar .mul .f32 r2 s) → Sm .f32 r4 (ar .mul .f32 r3 s) → Sm .f32 r5 (ar .quo .f32 1073741824 r4) → Sm .f32 r5 (W m k)) := fun s r1 r2 r3 r4 r5 g0 g1 g2 g3 g4 g5 => by
            rw [ar_congr (op := .mul) hb.out hb.out] at g1
            rw [ar_congr (Sm.refl _ _) g1] at g2
            rw [ar_congr g2 g0] at g3
            rw [ar_congr g3 g0] at g4
            rw [ar_congr (Sm.refl _ _) g4] at g5
            exact g5
          clear HR e12
          go_wp2_with (first | (go_at_call 32; refine (HSL.out _).mono ?_; rintro e w2 ⟨p, s, rfl, hp, hs, hb2⟩; obtain ⟨p0, p1, p2, p3, p4, p5⟩ := KEY.out w2 (hbq.out.trans (hb2.mono hbq.out.size)); have O0 := Lib.hid p0; have O1 := Lib.hid p1; have B2 := Lib.hid p2; have Z2 := Lib.hid p3; have Z4 := Lib.hid p4; have Z5 := Lib.hid p5; clear hb2 p0 p1 p2 p3 p4 p5) | (refine wpList_ar rfl .quo 42 42 _ _ rfl (by simp) .f32 _ _ rfl rfl ?_; intro r1 q1 hr1 hw1) | (refine wpList_ar rfl .sub 42 42 _ _ rfl (by simp) .f32 _ _ rfl rfl ?_; intro r2 q2 hr2 hw2) | (refine wpList_ar rfl .mul 42 42 _ _ rfl (by simp) .f32 _ _ rfl rfl ?_; intro r3 q3 hr3 hw3) | (at_builtin; refine wpList_append_lies _ rfl (.tmp 53) (.tmp 55) 22 rfl w.heap.size 42 i0 (.float .f32 0) 1 4 Try.underlying22 hi hz0 hz1 hz2 rfl (by decide) (.slice (some ⟨g0, 0, none⟩) k c0) k L0 rfl (O0.out.alloc _) ⟨w2.heap.size, 0, none⟩ 1 1 [.float .f32 _] rfl rfl (one_float w2 _) (by intro u hu; rw [List.mem_singleton] at hu; subst hu; rfl) (by omega) (by unfold maxLen; omega) (by omega) (by have := Z2.out; simp; omega) (w2.heap.size + 1) (by simp) ?_; intro g0' c0' w3 hown0 hgrow0 hat0 hlt0; have N3 : Hid (g0' ≠ g1) := (new_ne hat0 hne.out (by have := Z5.out; omega)); have O13 := Lib.hid (own_grown (O1.out.alloc (.cells #[.float .f32 b] 42)) hgrow0 (Ne.symm hne.out)); have O03 := Lib.hid hown0; have B3 := Lib.hid ((B2.out.alloc Z2.out _).grown hgrow0 (by have := Z2.out; simp; omega) (by intro j hj; have hj' : some g0 = some j := hj; injection hj' with hj'; have := HB0.out; omega)); have Z3 := Lib.hid (Nat.le_trans (by have := Z2.out; simp; omega : w.heap.size ≤ (w2.alloc (.cells #[.float .f32 b] 42)).heap.size) hgrow0.size); have GE3 := Lib.hid (own_ge hown0); clear hown0 hgrow0 hat0) | (at_builtin; refine wpList_append_lies _ rfl (.tmp 57) (.tmp 67) 22 rfl w.heap.size 42 i0 (.float .f32 0) 1 4 Try.underlying22 hi hz0 hz1 hz2 rfl (by decide) (.slice (some ⟨g1, 0, none⟩) k c1) k L1 rfl ((show (w3.drewN _).ownsRow w.heap.size 42 1 (.slice (some ⟨g1, 0, none⟩) k c1) k L1 from O13.out).alloc _) ⟨w3.heap.size, 0, none⟩ 1 1 [.float .f32 _] rfl rfl (one_float (w3.drewN _) _) (by intro u hu; rw [List.mem_singleton] at hu; subst hu; rfl) (by omega) (by unfold maxLen; omega) (by omega) (by have := Z3.out; simp; omega) (w3.heap.size + 1) (by simp) ?_; intro g1' c1' w4 hown1 hgrow1 hat1 hlt1))
          have HW5 := HWT.out _ _ _ _ _ _ hs (by assumption) (by assumption) (by assumption) (by assumption) (by assumption)
          have N4 : Hid (g0' ≠ g1') := Ne.symm (new_ne hat1 (Ne.symm N3.out) (by omega))
          have HL0 := Lib.hid (l0.out.snoc hb.out)
          have HL1 := Lib.hid (l1.out.snoc HW5)
          have O14 := Lib.hid hown1
          have O04 := Lib.hid (own_grown ((show (w3.drewN _).ownsRow w.heap.size 42 1 (.slice (some ⟨g0', 0, none⟩) (k + 1) c0') (k + 1) (L0 ++ [.float .f32 b]) from O03.out).alloc _) hgrow1 N3.out)
          have B4 := Lib.hid (((show Below w.heap.size w (w3.drewN _) from Go.Pst.below_drewN B3.out _).alloc Z3.out _).grown hgrow1 (by have := Z3.out; simp; omega) (by intro j hj; have hj' : some g1 = some j := hj; injection hj' with hj'; have := HB0.out; omega))
          clear hown1 hgrow1 hat1 l0 l1
          go_roundw
          case rel => exact ⟨k + 1, g0', c0', g1', c1', _, _, by omega, rfl, rfl, by go_num, N4, O04, O14, HL0, HL1, B4⟩
          case measure => simp [RowKit.intOf]; omega
    · have e : m = k := by omega
      subst e
      obtain ⟨f0, a0, s0⟩ := l0.out.get
      obtain ⟨f1, a1, s1⟩ := l1.out.get
      have HF0 := Lib.hid (sfin_any (Fls.of_own (by omega) a0 o0.out))
      have HF1 : Hid (∀ q, Calls Try.prog 27 #[.slice (some ⟨g1, 0, none⟩) m c1] (wr.drewN q) fun e w' => e = .returned (.bool (afin f1 m)) ∧ ∃ m', w' = (wr.drewN q).drewN m') := fun q => sfin_any (Fls.of_own (by omega) a1 (show (wr.drewN q).ownsRow w.heap.size 42 1 (.slice (some ⟨g1, 0, none⟩) m c1) m L1 from o1.out))
      rw [show afin f0 m = true from (afin_congr s0).trans HG.out.1] at HF0
      rw [show afin f1 m = true from (afin_congr s1).trans HG.out.2] at HF1
      clear a0 a1 s0 s1
      go_wp2_with fail
      refine HF0.out.mono ?_
      rintro e w3 ⟨rfl, q0, rfl⟩
      go_wp2_with fail
      refine (HF1.out _).mono ?_
      rintro e w4 ⟨rfl, q1, rfl⟩
      go_wp2_with fail
      go_ret3
      exact ⟨g0, g1, c0, c1, L0, L1, rfl, hne.out, own_ge o0.out, own_ge o1.out, own_base o0.out, own_base o1.out, l0.out, l1.out, (by repeat' first | exact hbl.out | refine Go.Pst.below_drewN ?_ _)⟩
end Go.Proofs.Ytibpahkjjjhapab.fEvenNodes
