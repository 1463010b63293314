/- ExpNumber returns the exponential function at every number that is not too great, where the result's narrowing is told. -/
import Derived.Test.YtclogbnecgfndabNanW
import Derived.Test.YtclogbnecgfndabPwA
namespace Go.Proofs.Ytclogbnecgfndab.expo
open Go.RowKit Go.Fl Go.Proofs.Ytclogbnecgfndab.abs Go.Proofs.Ytclogbnecgfndab.nan

theorem fits_congr {a b : Nat} (h : Sm .f64 a b) (hb : Fits .f64 .f32 b) : Fits .f64 .f32 a := by
  rcases h with rfl | ⟨hn, _⟩
  · exact hb
  · exact .inl hn

theorem exp_any (b : Nat) (hlo : FloatKind.f32.format.order b 1128792064 = some .lt) (hhi : FloatKind.f32.format.order b 3276275712 = some .gt) (hf : Fits .f64 .f32 (exW (cv .f32 .f64 b))) (w : World) :
    Calls Try.prog 15 #[.float .f32 b] w fun e w' => ∃ r n, e = .returned (.float .f32 r) ∧ w' = w.drewN n ∧ Sm .f32 r (exN b) := by
  have huf : (Try.prog.underlying 28).isSome = true := by rw [Try.underlying28]; rfl
  have HF : Hid (Fits .f64 .f32 (exW (cv .f32 .f64 b))) := hf
  clear hf
  go_enter Try.func15, Try.ntmps15
  go_wp2_with (first | (refine wpList_cv rfl 28 27 _ rfl .f32 .f64 (by decide) _ rfl huf Try.underlying27 (fits_wide _) ?_; intro x n1 hx hwx) | (refine wpList_ar rfl .quo 27 27 _ _ rfl (by simp) .f64 _ _ rfl rfl ?_; intro t n2 ht hwt))
  have HT : Hid (Sm .f64 t (ar .quo .f64 (cv .f32 .f64 b) 4643211215818981376)) := by
    show Sm _ _ _
    rw [ar_congr (op := .quo) hx (Sm.refl _ _)] at ht
    exact ht
  clear ht hx hwx hwt hlo hhi
  go_loopw [4, 5] (fun p k wr => ∃ (j p' n : Nat), j ≤ 12 ∧ k = .int .i64 (12 - (j : Int)) ∧ p = .float .f64 p' ∧ Hid (Sm .f64 p' (exP (ar .quo .f64 (cv .f32 .f64 b) 4643211215818981376) j)) ∧ wr = w.drewN n) (fun _ k _ => (intOf k + 100).toNat)
  case atStart => exact ⟨0, _, _, by omega, by go_num, rfl, .inl rfl, rfl⟩
  case round =>
    obtain ⟨j, p', n, hj, rfl, rfl, hp, rfl⟩ := hrel
    by_cases hlt : j < 12
    · go_wp2_with (first | (refine wpList_ar rfl .mul 27 27 _ _ rfl (by simp) .f64 _ _ rfl rfl ?_; intro m n3 hm hwm) | (refine wpList_ar rfl .quo 27 27 _ _ rfl (by simp) .f64 _ _ rfl rfl ?_; intro q n4 hq hwq) | (refine wpList_ar rfl .add 27 27 _ _ rfl (by simp) .f64 _ _ rfl rfl ?_; intro s n5 hs hws))
      have HS : Hid (Sm .f64 s (exP (ar .quo .f64 (cv .f32 .f64 b) 4643211215818981376) (j + 1))) := by
        show Sm _ _ _
        rw [ar_congr (op := .mul) HT.out hp.out] at hm
        rw [ar_congr (op := .quo) hm (Sm.refl _ _)] at hq
        rw [ar_congr (op := .add) (Sm.refl _ _) hq] at hs
        exact hs
      clear hm hq hs hp
      go_roundw
      case rel => exact ⟨j + 1, _, _, by omega, by go_num, rfl, HS, rfl⟩
      case measure => simp [intOf]; omega
    · obtain rfl : j = 12 := by omega
      have e0 : (12 : Int) - ((12 : Nat) : Int) = 0 := by decide
      rw [e0]
      go_wp2
      go_loopw [4, 28] (fun p k wr => ∃ (j p' n : Nat), j ≤ 8 ∧ k = .int .i64 (j : Int) ∧ p = .float .f64 p' ∧ Hid (Sm .f64 p' (exQ (exP (ar .quo .f64 (cv .f32 .f64 b) 4643211215818981376) 12) j)) ∧ wr = w.drewN n) (fun _ k _ => (100 - intOf k).toNat)
      case atStart => exact ⟨0, _, _, by omega, by go_num, rfl, hp, rfl⟩
      case round =>
        obtain ⟨i, p2, n', hi, rfl, rfl, hp2, rfl⟩ := hrel
        by_cases hlt2 : i < 8
        · go_wp2_with (first | (refine wpList_ar rfl .mul 27 27 _ _ rfl (by simp) .f64 _ _ rfl rfl ?_; intro m n3 hm hwm))
          have HM : Hid (Sm .f64 m (exQ (exP (ar .quo .f64 (cv .f32 .f64 b) 4643211215818981376) 12) (i + 1))) := by
            show Sm _ _ _
            rw [ar_congr (op := .mul) hp2.out hp2.out] at hm
            exact hm
          clear hm hp2
          go_roundw
          case rel => exact ⟨i + 1, _, _, by omega, by go_num, rfl, HM, rfl⟩
          case measure => simp [intOf]; omega
        · obtain rfl : i = 8 := by omega
          have hf2 : Fits .f64 .f32 p2 := fits_congr hp2.out HF.out
          go_wp2_with (first | (go_at_call 24; refine (narrow_impl hf2 _).mono ?_; rintro e w' ⟨r, n, rfl, rfl, hr⟩))
          go_ret
          refine ⟨_, _, rfl, rfl, ?_⟩
          rw [cv_congr (by decide) hp2.out] at hr
          exact hr
end Go.Proofs.Ytclogbnecgfndab.expo
