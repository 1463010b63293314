/- SumNumbers and its model return the same of every list, not-a-numbers too. -/
import Derived.Test.YtclogbnecgfndaaFlsEqW
import Derived.Test.YtclogbnecgfndaaPost
namespace Go.Proofs.Ytclogbnecgfndaa.fnExactSumNumbersW
open Go.RowKit Go.Fl Go.Proofs.Ytclogbnecgfndaa.sameFloat Go.Proofs.Ytclogbnecgfndaa.fls

/-- the sum of the first k numbers, from left to right -/
def sm (f : Nat → Nat) : Nat → Nat
  | 0 => 0
  | k + 1 => ar .add .f32 (sm f k) (f k)

def SumPost (f : Nat → Nat) (n : Nat) (w : World) (e : Ending) (w' : World) : Prop :=
  ∃ r b m, e = .returned (.tuple #[.float .f32 r, .bool b]) ∧ w' = w.drewN m ∧ b = decide (n ≤ 256) ∧ Sm .f32 r (if n ≤ 256 then sm f n else 0)

theorem impl_any {v : Value} {n : Nat} {f : Nat → Nat} {w : World} (h : Fls w v n f) : Calls Try.prog 50 #[v] w (SumPost f n w) := by
  obtain ⟨ao, cap, rfl, hn, hc⟩ := h
  have hc' : Hid (n ≠ 0 → ∃ b off, ao = some ⟨b, off, none⟩ ∧ b < w.heap.size ∧ ∀ k, k < n → w.cell? ⟨b, off + k, none⟩ = some (.float .f32 (f k))) := hc
  clear hc
  by_cases h256 : n ≤ 256
  · go_enter Try.func50, Try.ntmps50
    go_wp2
    go_loopw [4, 12] (fun s i wr => ∃ (k r : Nat), k ≤ n ∧ i = .int .i64 k ∧ s = .float .f32 r ∧ Hid (Sm .f32 r (sm f k)) ∧ Hid (∃ m, wr = w.drewN m)) (fun _ i _ => n - (intOf i).toNat)
    case atStart => exact ⟨0, 0, by omega, rfl, rfl, .inl rfl, 0, rfl⟩
    case round =>
      obtain ⟨k, r, hk, rfl, rfl, hs, hm⟩ := hrel
      by_cases hlt : k < n
      · obtain ⟨b, off, rfl, _, hcell⟩ := hc'.out (by omega)
        have e1 : wr.cell? ⟨b, off + k, none⟩ = some (.float .f32 (f k)) := by obtain ⟨m, rfl⟩ := hm.out; exact hcell k hlt
        clear hcell
        have next : ∀ q, Hid (∃ m, wr.drewN q = w.drewN m) := fun q => by obtain ⟨m, rfl⟩ := hm.out; exact ⟨m + q, World.drewN_drewN _ _ _⟩
        clear hm
        go_wp2_with (first | (refine wpList_ar rfl .add 41 41 _ _ rfl (by simp) .f32 _ _ rfl rfl ?_; intro s n3 hm hwm))
        have HS : Hid (Sm .f32 s (sm f (k + 1))) := by
          show Sm _ _ _
          rw [ar_congr (op := .add) hs.out (Sm.refl _ _)] at hm
          exact hm
        clear hm hs
        go_wp2
        go_roundw
        case rel => exact ⟨k + 1, s, by omega, by go_num, rfl, HS, next _⟩
        case measure => simp [intOf]; omega
      · obtain rfl : k = n := by omega
        obtain ⟨m, rfl⟩ := hm.out
        go_wp2
        go_ret2
        exact ⟨_, _, _, rfl, rfl, by simp [h256], by rw [if_pos h256]; exact hs.out⟩
  · go_enter Try.func50, Try.ntmps50
    go_wp2
    go_ret2
    exact ⟨_, _, 0, rfl, rfl, by simp [h256], by rw [if_neg h256]; exact Sm.refl _ _⟩

theorem l01_any {v : Value} {n : Nat} {f : Nat → Nat} {w : World} (h : Fls w v n f) : Calls Try.prog 102 #[v] w fun e w' => ∃ r m, e = .returned (.float .f32 r) ∧ w' = w.drewN m ∧ Sm .f32 r (sm f n) := by
  obtain ⟨ao, cap, rfl, hn, hc⟩ := h
  have hc' : Hid (n ≠ 0 → ∃ b off, ao = some ⟨b, off, none⟩ ∧ b < w.heap.size ∧ ∀ k, k < n → w.cell? ⟨b, off + k, none⟩ = some (.float .f32 (f k))) := hc
  clear hc
  go_enter Try.func102, Try.ntmps102
  go_wp2
  go_loopw [3, 4] (fun s i wr => ∃ (k r : Nat), k ≤ n ∧ i = .int .i64 k ∧ s = .float .f32 r ∧ Hid (Sm .f32 r (sm f k)) ∧ Hid (∃ m, wr = w.drewN m)) (fun _ i _ => n - (intOf i).toNat)
  case atStart => exact ⟨0, 0, by omega, rfl, rfl, .inl rfl, 0, rfl⟩
  case round =>
    obtain ⟨k, r, hk, rfl, rfl, hs, hm⟩ := hrel
    by_cases hlt : k < n
    · obtain ⟨b, off, rfl, _, hcell⟩ := hc'.out (by omega)
      have e1 : wr.cell? ⟨b, off + k, none⟩ = some (.float .f32 (f k)) := by obtain ⟨m, rfl⟩ := hm.out; exact hcell k hlt
      clear hcell
      have next : ∀ q, Hid (∃ m, wr.drewN q = w.drewN m) := fun q => by obtain ⟨m, rfl⟩ := hm.out; exact ⟨m + q, World.drewN_drewN _ _ _⟩
      clear hm
      go_wp2_with (first | (refine wpList_ar rfl .add 41 41 _ _ rfl (by simp) .f32 _ _ rfl rfl ?_; intro s n3 hm hwm))
      have HS : Hid (Sm .f32 s (sm f (k + 1))) := by
        show Sm _ _ _
        rw [ar_congr (op := .add) hs.out (Sm.refl _ _)] at hm
        exact hm
      clear hm hs
      go_wp2
      go_roundw
      case rel => exact ⟨k + 1, s, by omega, by go_num, rfl, HS, next _⟩
      case measure => simp [intOf]; omega
    · obtain rfl : k = n := by omega
      obtain ⟨m, rfl⟩ := hm.out
      go_wp2
      go_ret
      exact ⟨_, _, rfl, rfl, hs.out⟩

theorem few_yes (ao : Option Addr) (n cap : Nat) (h : n ≤ 256) (w : World) : Calls Try.prog 101 #[.slice ao n cap] w fun e w' => e = .returned (.bool true) ∧ w = w' := by
  go_enter Try.func101, Try.ntmps101
  go_wp2
  go_ret
  exact ⟨by simp; omega, rfl⟩
theorem few_no (ao : Option Addr) (n cap : Nat) (h : ¬ n ≤ 256) (w : World) : Calls Try.prog 101 #[.slice ao n cap] w fun e w' => e = .returned (.bool false) ∧ w = w' := by
  go_enter Try.func101, Try.ntmps101
  go_wp2
  go_ret
  exact ⟨by simp; omega, rfl⟩

theorem spec_any {v : Value} {n : Nat} {f : Nat → Nat} {w : World} (h : Fls w v n f) : Calls Try.prog 48 #[v] w (SumPost f n w) := by
  obtain ⟨ao, cap, hv, hn, hc⟩ := id h
  have hl := l01_any h
  subst hv
  clear hc h
  by_cases h256 : n ≤ 256
  · go_enter Try.func48, Try.ntmps48
    go_wp2_with (first | (go_at_call 101; refine (few_yes _ _ _ h256 _).mono ?_; rintro e w' ⟨rfl, rfl⟩) | (go_at_call 102; refine hl.mono ?_; rintro e w' ⟨r, m, rfl, rfl, hr⟩))
    go_ret2
    exact ⟨_, _, _, rfl, rfl, by simp [h256], by rw [if_pos h256]; assumption⟩
  · go_enter Try.func48, Try.ntmps48
    go_wp2_with (first | (go_at_call 101; refine (few_no _ _ _ h256 _).mono ?_; rintro e w' ⟨rfl, rfl⟩))
    go_ret2
    exact ⟨_, _, 0, rfl, rfl, by simp [h256], by rw [if_neg h256]; exact Sm.refl _ _⟩

set_option maxRecDepth 100000 in
theorem walk (v : Value) (w : World) (h : ∃ n f, Fls w v n f) :
    Calls Try.prog 6 #[v] w fun e w' => e = .returned (.bool true) ∧ Below w.heap.size w w' := by
  obtain ⟨n, f, h⟩ := h
  have huf : (Try.prog.underlying 41).isSome = true := by rw [Try.underlying41]; rfl
  obtain ⟨ao, cap, rfl, hn, _⟩ := id h
  by_cases hlen : n ≤ 1048576
  · have H0 : Hid (Fls w (.slice ao n cap) n f) := h
    clear h
    go_enter Try.func6, Try.ntmps6
    go_wp2_with fail
    refine (to_any H0.out hlen).mono ?_
    rintro e w1 ⟨v1, rfl, h1, b1⟩
    have H1 : Hid (Fls w1 v1 n f) := h1
    have B1 : Hid (Below w.heap.size w w1) := b1
    have H01 : Hid (Fls w1 (.slice ao n cap) n f) := H0.out.below b1
    clear h1 b1
    go_wp2_with fail
    refine (spec_any H1.out).mono ?_
    rintro e w' ⟨r1, o1, m1, rfl, rfl, ho1, hr1⟩
    have O1 : Hid (o1 = decide (n ≤ 256)) := ho1
    have R1 : Hid (Sm .f32 r1 (if n ≤ 256 then sm f n else 0)) := hr1
    clear ho1 hr1 H1
    have D1 : Hid (Below w1.heap.size w1 (w1.drewN m1)) := Go.Pst.below_draws ⟨_, rfl⟩
    have H02 : Hid (Fls (w1.drewN m1) (.slice ao n cap) n f) := H01.out.below D1.out
    have B2 : Hid (Below w.heap.size w (w1.drewN m1)) := B1.out.trans (D1.out.mono B1.out.size)
    clear H01 B1 D1
    generalize w1.drewN m1 = w2 at *
    go_wp2_with fail
    refine (to_any H02.out hlen).mono ?_
    rintro e w3 ⟨v3, rfl, h3, b3⟩
    have H3 : Hid (Fls w3 v3 n f) := h3
    have B3 : Hid (Below w.heap.size w w3) := B2.out.trans (b3.mono B2.out.size)
    have H03 : Hid (Fls w3 (.slice ao n cap) n f) := H02.out.below b3
    clear h3 b3 B2 H02
    go_wp2_with fail
    refine (impl_any H3.out).mono ?_
    rintro e w' ⟨r2, o2, m2, rfl, rfl, ho2, hr2⟩
    have hoo : o2 = o1 := by rw [ho2, O1.out]
    have HR : Hid (Sm .f32 r2 r1) := hr2.trans R1.out.symm
    clear ho2 hr2 O1 R1
    subst hoo
    have D1 : Hid (Below w3.heap.size w3 (w3.drewN m2)) := Go.Pst.below_draws ⟨_, rfl⟩
    have H04 : Hid (Fls (w3.drewN m2) (.slice ao n cap) n f) := H03.out.below D1.out
    have H34 : Hid (Fls (w3.drewN m2) v3 n f) := H3.out.below D1.out
    have B4 : Hid (Below w.heap.size w (w3.drewN m2)) := B3.out.trans (D1.out.mono B3.out.size)
    clear H03 H3 B3 D1
    generalize w3.drewN m2 = w4 at *
    have hxy : ∀ x y, Sm .f64 x (cv .f32 .f64 r2) → Sm .f64 y (cv .f32 .f64 r1) → Sm .f64 x y := fun x y h h' => by
      rw [cv_congr (by decide) HR.out] at h
      exact h.trans h'.symm
    have K4 : ∀ q, Hid (Fls (w4.drewN q) (.slice ao n cap) n f) := fun q => H04.out.below (Go.Pst.below_draws ⟨_, rfl⟩)
    have K34 : ∀ q, Hid (Fls (w4.drewN q) v3 n f) := fun q => H34.out.below (Go.Pst.below_draws ⟨_, rfl⟩)
    have KB : ∀ q, Hid (Below w.heap.size w (w4.drewN q)) := fun q => Go.Pst.below_drewN B4.out q
    clear H04 H34 B4
    go_wp2_with (first | (refine wpList_cv rfl 41 38 _ rfl .f32 .f64 (by decide) _ rfl huf Try.underlying38 (fits_wide _) ?_; intro x q hr hw) | (go_at_call 51; refine (same_any _ _ (hxy _ _ (by assumption) (by assumption)) _).mono ?_; rintro e w' ⟨rfl, q, rfl⟩))
    refine (to_any (K4 _).out hlen).mono ?_
    rintro e w5 ⟨v5, rfl, h5, b5⟩
    have H5 : Hid (Fls w5 v5 n f) := h5
    have H35 : Hid (Fls w5 v3 n f) := (K34 _).out.below b5
    have B5 : Hid (Below w.heap.size w w5) := (KB _).out.trans (b5.mono (KB _).out.size)
    clear h5 b5 K4 K34 KB hxy HR
    go_wp2_with fail
    refine (eq_any H35.out H5.out).mono ?_
    rintro e w' ⟨rfl, q5, rfl⟩
    go_wp2_with fail
    go_ret
    exact ⟨rfl, Go.Pst.below_drewN B5.out _⟩
  · clear h
    go_enter Try.func6, Try.ntmps6
    go_wp2
    go_ret
    exact ⟨rfl, Go.Pst.below_draws ⟨0, rfl⟩⟩
end Go.Proofs.Ytclogbnecgfndaa.fnExactSumNumbersW
