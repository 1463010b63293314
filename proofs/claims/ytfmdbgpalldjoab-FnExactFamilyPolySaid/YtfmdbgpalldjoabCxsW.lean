/- Lists of complex numbers: what a slice of them holds; the laws' own comparison of two such lists; marked, and held. -/
import Derived.Test.YtfmdbgpalldjoabFlB
import Derived.Test.YtfmdbgpalldjoabSameFloatW
import Derived.Deep.RegionWith
import Derived.Deep.QuietTactic
import Derived.BigQuiet
import Derived.Laws.ComplexArith
namespace Go.Proofs.Ytfmdbgpalldjoab.cxs
open Go.RowKit Go.Fl Go.Proofs.Ytfmdbgpalldjoab.sameFloat

/-- the slice v holds n complex numbers, by their bits -/
def Cxs (w : World) (v : Value) (n : Nat) (f g : Nat → Nat) : Prop :=
  ∃ ao cap, v = .slice ao n cap ∧ n ≤ 9223372036854775807 ∧ (n ≠ 0 → ∃ b off, ao = some ⟨b, off, none⟩ ∧ b < w.heap.size ∧ ∀ k, k < n → w.cell? ⟨b, off + k, none⟩ = some (.complex .f32 (f k) (g k)))
theorem Cxs.below {w w' : World} {v : Value} {n : Nat} {f g : Nat → Nat} (h : Cxs w v n f g) (hb : Below w.heap.size w w') : Cxs w' v n f g := by
  obtain ⟨ao, cap, rfl, hn, hc⟩ := h
  refine ⟨ao, cap, rfl, hn, fun h0 => ?_⟩
  obtain ⟨b, off, rfl, hlt, hcell⟩ := hc h0
  exact ⟨b, off, rfl, Nat.lt_of_lt_of_le hlt hb.size, fun k hk => (hb.cell hlt).trans (hcell k hk)⟩
theorem own_lt {w : World} {base e size g n cap m : Nat} {xs : List Value} (h : w.ownsRow base e size (.slice (some ⟨g, 0, none⟩) n cap) m xs) : g < w.heap.size := by
  rcases h.2 with ⟨h', _⟩ | ⟨g', cap', cur, h', _, hg, _⟩
  · simp at h'
  · simp only [Value.slice.injEq, Option.some.injEq, Addr.mk.injEq, and_true] at h'
    obtain ⟨rfl, _⟩ := h'
    exact (Array.getElem?_eq_some_iff.1 hg).1
theorem store_cplx {w : World} {a : Addr} {b c : Nat} {u : Value} (h : w.cell? a = some u) (hf : w.frozen? a = false) : (store a (.complex .f32 b c)).run Try.prog w = .ok () (w.setCell a (.complex .f32 b c)) := by
  rw [run_store _ _ _ _ _ rfl]
  simp [h, hf]

/-- the bits that a widened not-a-number takes in a world -/
def nv (b : Nat) (w : World) : Nat := (Question.nanConv .f64 b).cut (w.tape w.drawn (.nanConv .f64 b))
theorem nv_nan (b : Nat) (w : World) : isN .f64 (nv b w) = true := cut_nan .f64 _ _ (.inr ⟨b, rfl⟩)
theorem wide_run (b : Nat) : ∃ (g : World → Nat) (n : Nat) (c : Nat), (∀ w, (Conv.floatToFloat .f32 b .f64).run Try.prog w = .ok (.float .f64 (g w)) (w.drewN n)) ∧ ∀ w, Sm .f64 (g w) c := by
  cases hN : isN .f32 b with
  | true =>
    refine ⟨nv b, 1, qn .f64, fun w => ?_, fun w => .inr ⟨nv_nan b w, qn_isN _⟩⟩
    unfold isN at hN
    cases hde : FloatKind.f32.decode b with
    | number _ _ _ => rw [hde] at hN; cases hN
    | infinity _ => rw [hde] at hN; cases hN
    | nan a c =>
      simp [Conv.floatToFloat, hde, Question.forced]
      exact ⟨rfl, rfl⟩
  | false =>
    rcases fits_wide b with hn | hs
    · rw [hN] at hn; cases hn
    · cases hb : floatToFloatBits .f32 b .f64 with
      | some r => exact ⟨fun _ => r, 0, r, fun w => run_floatToFloat w hb, fun w => Sm.refl _ _⟩
      | none => rw [hb] at hs; cases hs
theorem wide_c (a b : Nat) : ∃ (g h : World → Nat) (n c d : Nat), (∀ w, (convert 63 68 (.complex .f32 a b)).run Try.prog w = .ok (.complex .f64 (g w) (h w)) (w.drewN n)) ∧ (∀ w, Sm .f64 (g w) c) ∧ ∀ w, Sm .f64 (h w) d := by
  obtain ⟨g, n, c, hg, sg⟩ := wide_run b
  obtain ⟨g0, n0, c0, hg0, sg0⟩ := wide_run a
  refine ⟨g0, fun w => g (w.drewN n0), n0 + n, c0, c, fun w => ?_, sg0, fun w => sg _⟩
  have hs := Try.underlying63
  have hd := Try.underlying68
  simp [convert, run_underlying hs, run_underlying hd, Conv.complexToComplex, hg0, hg, World.drewN_drewN]

theorem sameC (a b c d x y : Nat) (h1 : Sm .f64 a x) (h2 : Sm .f64 c x) (h3 : Sm .f64 b y) (h4 : Sm .f64 d y) (w : World) :
    Calls Try.prog 43 #[.complex .f64 a b, .complex .f64 c d] w fun e w' => e = .returned (.bool true) ∧ ∃ n, w' = w.drewN n := by
  have hp := fun w => same_any a c (h1.trans h2.symm) w
  have hq := fun w => same_any b d (h3.trans h4.symm) w
  clear h1 h2 h3 h4
  go_enter Try.func43, Try.ntmps43
  go_wp2_with fail
  refine (hp _).mono ?_
  rintro e w1 ⟨rfl, n1, rfl⟩
  clear hp
  go_wp2_with fail
  refine (hq _).mono ?_
  rintro e w1 ⟨rfl, n2, rfl⟩
  clear hq
  go_wp2_with fail
  go_ret
  exact ⟨rfl, n1 + n2, rfl⟩

set_option maxHeartbeats 1600000 in
theorem eq_any {v0 v1 : Value} {n : Nat} {f g : Nat → Nat} {w : World} (h0 : Cxs w v0 n f g) (h1 : Cxs w v1 n f g) :
    Calls Try.prog 21 #[v0, v1] w fun e w' => e = .returned (.bool true) ∧ ∃ m, w' = w.drewN m := by
  obtain ⟨ao, cap, rfl, hn, hc0⟩ := h0
  obtain ⟨bo, cap1, rfl, _, hc1⟩ := h1
  have hc0' : Hid (n ≠ 0 → ∃ b off, ao = some ⟨b, off, none⟩ ∧ b < w.heap.size ∧ ∀ k, k < n → w.cell? ⟨b, off + k, none⟩ = some (.complex .f32 (f k) (g k))) := hc0
  have hc1' : Hid (n ≠ 0 → ∃ b off, bo = some ⟨b, off, none⟩ ∧ b < w.heap.size ∧ ∀ k, k < n → w.cell? ⟨b, off + k, none⟩ = some (.complex .f32 (f k) (g k))) := hc1
  clear hc0 hc1
  go_enter Try.func21, Try.ntmps21
  go_wp2
  go_loopw [5] (fun i wr => ∃ (k : Nat), k ≤ n ∧ i = .int .i64 k ∧ Hid (∃ m, wr = w.drewN m)) (fun i _ => n - (intOf i).toNat)
  case atStart => exact ⟨0, by omega, rfl, 0, rfl⟩
  case round =>
    obtain ⟨k, hk, rfl, hm⟩ := hrel
    by_cases hlt : k < n
    · obtain ⟨b, off, rfl, _, hcell⟩ := hc0'.out (by omega)
      obtain ⟨b', off', rfl, _, hcell'⟩ := hc1'.out (by omega)
      have e1 : wr.cell? ⟨b, off + k, none⟩ = some (.complex .f32 (f k) (g k)) := by obtain ⟨m, rfl⟩ := hm.out; exact hcell k hlt
      have e2 : wr.cell? ⟨b', off' + k, none⟩ = some (.complex .f32 (f k) (g k)) := by obtain ⟨m, rfl⟩ := hm.out; exact hcell' k hlt
      clear hcell hcell'
      have next : ∀ q, Hid (∃ m, wr.drewN q = w.drewN m) := fun q => by obtain ⟨m, rfl⟩ := hm.out; exact ⟨m + q, World.drewN_drewN _ _ _⟩
      clear hm
      obtain ⟨p, q, nn, c, d, hrun, sp, sq⟩ := wide_c (f k) (g k)
      have hq := fun w w1 w2 => sameC (p w1) (q w1) (p w2) (q w2) c d (sp w1) (sp w2) (sq w1) (sq w2) w
      clear sp sq
      generalize f k = z at *
      generalize g k = y at *
      go_wp2_with fail
      go_region_with (first | (go_at_call 43; refine (hq _ _ _).mono ?_; rintro e w' ⟨rfl, n, rfl⟩))
      all_goals
        go_wp2
        go_roundw
        case rel => exact ⟨k + 1, by omega, by go_num, next _⟩
        case measure => simp [intOf]; omega
    · obtain rfl : k = n := by omega
      obtain ⟨m, rfl⟩ := hm.out
      go_wp2
      go_ret
      exact ⟨rfl, _, rfl⟩
/-- the bits of a small integer -/
def fi (k : Int) : Nat := floatOfInt .f32 k
def fj (k : Int) : Nat := floatOfInt .f64 k
theorem fi_conv : ∀ k : Nat, k < 300 → cConvBits .f64 (fj ((k : Int) + 1)) 4607182418800017408 .f32 = some (fi ((k : Int) + 1), 1065353216) := by decide +kernel
theorem fi_num : ∀ k : Nat, k < 300 → isN .f32 (fi ((k : Int) + 1)) = false := by decide +kernel
theorem fi_self {k : Nat} (h : k < 300) : FloatKind.f32.format.order (fi ((k : Int) + 1)) (fi ((k : Int) + 1)) = some .eq := order_self_num (fi_num k h)
theorem one_self : FloatKind.f32.format.order 1065353216 1065353216 = some .eq := order_self_num (by decide +kernel)
theorem conv_int (x : Int) (w : World) : (convert 3 36 (.int .i64 x)).run Try.prog w = .ok (.float .f64 (fj x)) w :=
  run_convert_int_float w 3 36 .i64 .f64 x (by rw [Try.underlying3]; rfl) Try.underlying36
theorem conv_nar {k : Nat} (h : k < 300) (w : World) : (convert 68 63 (.complex .f64 (fj ((k : Int) + 1)) 4607182418800017408)).run Try.prog w = .ok (.complex .f32 (fi ((k : Int) + 1)) 1065353216) w :=
  run_convert_complex w 68 63 .f64 .f32 _ _ _ _ (by rw [Try.underlying68]; rfl) Try.underlying63 (fi_conv k h)
theorem Cxs.of_own {w : World} {B : Nat} {v : Value} {n : Nat} {f g : Nat → Nat} {L : List Value} (hL : n ≤ 9223372036854775807) (hf : ∀ k, k < n → L[k]? = some (.complex .f32 (f k) (g k))) (h : w.ownsRow B 63 1 v n L) : Cxs w v n f g := by
  rcases id h.2 with ⟨rfl, h0⟩ | ⟨b, cap, cur, rfl, hB, hg, hr⟩
  · rw [h0]
    exact ⟨none, 0, rfl, by omega, fun h => absurd rfl h⟩
  · refine ⟨_, _, rfl, hL, fun h0 => ⟨b, 0, rfl, own_lt h, fun k hk => ?_⟩⟩
    rw [Nat.zero_add, h.cellAt k (by omega)]
    exact hf k hk

set_option maxHeartbeats 800000 in
theorem mark_any {B : Nat} {v : Value} {n : Nat} {xs : List Value} {w : World} (h : w.ownsRow B 63 1 v n xs) (hn : n ≤ 256) (hB : B ≤ w.heap.size) :
    Calls Try.prog 22 #[v, .int .i64 1] w fun e w' => e = .returned (.int .i64 ((n : Int) + 1)) ∧ Cxs w' v n (fun j => fi ((j : Int) + 1)) (fun _ => 1065353216) ∧ Below B w w' := by
  rcases id h.2 with ⟨rfl, rfl⟩ | ⟨g, cap, cur, rfl, hBg, hg, hr⟩
  · go_enter Try.func22, Try.ntmps22
    go_wp2
    go_loopw [1, 5] (fun k i wr => k = .int .i64 1 ∧ i = .int .i64 0 ∧ wr = w) (fun _ _ _ => 0)
    case atStart => exact ⟨rfl, rfl, rfl⟩
    case round =>
      obtain ⟨rfl, rfl, rfl⟩ := hrel
      go_wp2
      go_ret
      exact ⟨rfl, ⟨none, 0, rfl, by omega, fun h => absurd rfl h⟩, Below.refl _ _⟩
  · have HBg : Hid (B ≤ g) := hBg
    have start : Hid (w.ownsRow B 63 1 (.slice (some ⟨g, 0, none⟩) n cap) n xs) := h
    clear hr hg h hBg
    go_enter Try.func22, Try.ntmps22
    go_wp2
    go_loopw [1, 5] (fun q i wr => ∃ (k : Nat) (ys : List Value), k ≤ n ∧ q = .int .i64 ((k : Int) + 1) ∧ i = .int .i64 k ∧ Hid (wr.ownsRow B 63 1 (.slice (some ⟨g, 0, none⟩) n cap) n ys) ∧ Hid (∀ j, j < k → ys[j]? = some (.complex .f32 (fi ((j : Int) + 1)) 1065353216)) ∧ Hid (Below B w wr)) (fun _ i _ => n - (intOf i).toNat)
    case atStart => exact ⟨0, xs, by omega, rfl, rfl, start, fun j hj => by omega, Below.refl _ _⟩
    case round =>
      obtain ⟨k, ys, hk, rfl, rfl, ho, hx, hb⟩ := hrel
      by_cases hlt : k < n
      · have e2 : wr.cell? ⟨g, k, none⟩ = ys[k]? := ho.out.cellAt k (by omega)
        have hxl : ys.length = n := by have := ho.out.1; simpa using this
        obtain ⟨u, hu⟩ : ∃ u, ys[k]? = some u := ⟨ys[k]'(by omega), List.getElem?_eq_getElem (by omega)⟩
        rw [hu] at e2
        have e3 : wr.frozen? ⟨g, k, none⟩ = false := ho.out.frozenAt k
        have hst := store_cplx (b := fi ((k : Int) + 1)) (c := 1065353216) e2 e3
        have HO : Hid ((wr.setCell ⟨g, k, none⟩ (.complex .f32 (fi ((k : Int) + 1)) 1065353216)).ownsRow B 63 1 (.slice (some ⟨g, 0, none⟩) n cap) n (ys.set k (.complex .f32 (fi ((k : Int) + 1)) 1065353216))) := (ho.out.stored k (.complex .f32 (fi ((k : Int) + 1)) 1065353216)).1
        have HX : Hid (∀ j, j < k + 1 → (ys.set k (.complex .f32 (fi ((k : Int) + 1)) 1065353216))[j]? = some (.complex .f32 (fi ((j : Int) + 1)) 1065353216)) := by
          intro j hj
          by_cases hjk : j = k
          · subst hjk
            rw [List.getElem?_set_self (by omega)]
          · rw [List.getElem?_set_ne (by omega)]
            exact hx.out j (by omega)
        have HB : Hid (Below B w (wr.setCell ⟨g, k, none⟩ (.complex .f32 (fi ((k : Int) + 1)) 1065353216))) := hb.out.setCell (p := ⟨g, k, none⟩) HBg.out _
        clear hu hb ho hx hxl start
        have hcv := conv_int ((k : Int) + 1)
        have hcn := conv_nar (k := k) (by omega)
        generalize fi ((k : Int) + 1) = z at *
        generalize fj ((k : Int) + 1) = y at *
        go_wp2
        go_roundw
        case rel => exact ⟨k + 1, _, by omega, by go_num, by go_num, HO, HX, HB⟩
        case measure => simp [intOf]; omega
      · obtain rfl : k = n := by omega
        clear start
        go_wp2
        go_ret
        refine ⟨rfl, ⟨_, _, rfl, by omega, fun h0 => ⟨g, 0, rfl, own_lt ho.out, fun j hj => ?_⟩⟩, hb.out⟩
        rw [Nat.zero_add, ho.out.cellAt j (by omega)]
        exact hx.out j hj

theorem held_any {v : Value} {n : Nat} {w : World} (h : Cxs w v n (fun j => fi ((j : Int) + 1)) (fun _ => 1065353216)) (hn : n ≤ 256) :
    Calls Try.prog 23 #[v, .int .i64 1] w fun e w' => e = .returned (.int .i64 ((n : Int) + 1)) ∧ w' = w := by
  obtain ⟨ao, cap, rfl, _, hc⟩ := h
  have hc' : Hid (n ≠ 0 → ∃ b off, ao = some ⟨b, off, none⟩ ∧ b < w.heap.size ∧ ∀ k, k < n → w.cell? ⟨b, off + k, none⟩ = some (.complex .f32 (fi ((k : Int) + 1)) 1065353216)) := hc
  clear hc
  go_enter Try.func23, Try.ntmps23
  go_wp2
  go_loop [1, 5] (fun q i => ∃ (k : Nat), k ≤ n ∧ q = .int .i64 ((k : Int) + 1) ∧ i = .int .i64 k) (fun _ i => n - (intOf i).toNat)
  case atStart => exact ⟨0, by omega, rfl, rfl⟩
  case round =>
    obtain ⟨k, hk, rfl, rfl⟩ := hrel
    by_cases hlt : k < n
    · obtain ⟨b, off, rfl, _, hcell⟩ := hc'.out (by omega)
      have e1 : w.cell? ⟨b, off + k, none⟩ = some (.complex .f32 (fi ((k : Int) + 1)) 1065353216) := hcell k hlt
      clear hcell
      have hcv := conv_int ((k : Int) + 1)
      have hcn := conv_nar (k := k) (by omega)
      have hself := fi_self (k := k) (by omega)
      have hone := one_self
      generalize fi ((k : Int) + 1) = z at *
      generalize fj ((k : Int) + 1) = y at *
      go_wp2
      go_round
      case rel => exact ⟨k + 1, by omega, by go_num, by go_num⟩
      case measure => simp [intOf]; omega
    · obtain rfl : k = n := by omega
      go_wp2
      go_ret
      exact ⟨rfl, rfl⟩
end Go.Proofs.Ytfmdbgpalldjoab.cxs
