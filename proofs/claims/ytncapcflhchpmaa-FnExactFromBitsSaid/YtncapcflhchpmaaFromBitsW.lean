/- FromBits and its model return the same at every integer. -/
import Derived.Test.YtncapcflhchpmaaSameFloatW
import Derived.Test.YtncapcflhchpmaaPost
namespace Go.Proofs.Ytncapcflhchpmaa.fnExactFromBitsW
open Go.RowKit Go.Fl Go.Proofs.Ytncapcflhchpmaa.sameFloat

theorem call_from (b : Nat) (w : World) : (callFunc 26 #[.int .u32 (b : Int)]).run Try.prog w = .ok (.value (.float .f32 b)) w := by
  rw [run_callFunc_extern Try.func26 (by kernel_rfl) (by kernel_rfl) (by kernel_rfl) (e := Extern.MathFloatBits.float32frombits) (by kernel_rfl)]
  rfl

theorem impl_in (m : Nat) (hm : (m : Int) ≤ 4294967295) (w : World) :
    Calls Try.prog 15 #[.int .i64 (m : Int)] w fun e w' => e = .returned (.tuple #[.float .f32 m, .bool true]) ∧ w = w' := by
  have h := call_from m
  go_enter Try.func15, Try.ntmps15
  go_wp2
  go_ret2
  exact ⟨rfl, rfl⟩
theorem impl_out (n : Int) (hn : n < 0 ∨ 4294967295 < n) (w : World) :
    Calls Try.prog 15 #[.int .i64 n] w fun e w' => e = .returned (.tuple #[.float .f32 0, .bool false]) ∧ w = w' := by
  rcases hn with h | h
  · go_enter Try.func15, Try.ntmps15
    go_wp2
    go_ret2
    exact ⟨rfl, rfl⟩
  · have h' : 0 ≤ n := by omega
    go_enter Try.func15, Try.ntmps15
    go_wp2
    go_ret2
    exact ⟨rfl, rfl⟩
theorem spec_in (m : Nat) (hm : (m : Int) ≤ 4294967295) (w : World) :
    Calls Try.prog 14 #[.int .i64 (m : Int)] w fun e w' => e = .returned (.tuple #[.float .f32 m, .bool true]) ∧ w = w' := by
  have h := call_from m
  go_enter Try.func14, Try.ntmps14
  go_wp2
  go_ret2
  exact ⟨rfl, rfl⟩
theorem spec_out (n : Int) (hn : n < 0 ∨ 4294967295 < n) (w : World) :
    Calls Try.prog 14 #[.int .i64 n] w fun e w' => e = .returned (.tuple #[.float .f32 0, .bool false]) ∧ w = w' := by
  rcases hn with h | h
  · go_enter Try.func14, Try.ntmps14
    go_wp2
    go_ret2
    exact ⟨rfl, rfl⟩
  · have h' : 0 ≤ n := by omega
    have hd : decide (n ≤ 4294967295) = false := by simp; omega
    go_enter Try.func14, Try.ntmps14
    go_wp2
    go_ret2
    exact ⟨rfl, rfl⟩

theorem walk (a0 : Int) (_w0 : (Lit.int .i64 a0).wf = true) (w : World) :
    Calls Try.prog 6 #[.int .i64 a0] w fun e w' => e = .returned (.bool true) ∧ Below w.heap.size w w' := by
  have huf : (Try.prog.underlying 22).isSome = true := by rw [Try.underlying22]; rfl
  by_cases hin : 0 ≤ a0 ∧ a0 ≤ 4294967295
  · obtain ⟨m, rfl⟩ := Int.eq_ofNat_of_zero_le hin.1
    have hm := hin.2
    clear hin
    go_enter Try.func6, Try.ntmps6
    go_wp2_with fail
    refine (spec_in m hm _).mono ?_
    rintro e w' ⟨rfl, rfl⟩
    go_wp2_with fail
    refine (impl_in m hm _).mono ?_
    rintro e w' ⟨rfl, rfl⟩
    go_wp2_with (first | (refine wpList_cv rfl 22 29 _ rfl .f32 .f64 (by decide) _ rfl huf Try.underlying29 (fits_wide _) ?_; intro r n hr hw) | (go_at_call 16; refine (same_any _ _ (Sm.trans (by assumption) (Sm.symm (by assumption))) _).mono ?_; rintro e w' ⟨rfl, n, rfl⟩))
    go_ret
    exact ⟨rfl, Go.Pst.below_draws ⟨_, rfl⟩⟩
  · have hout : a0 < 0 ∨ 4294967295 < a0 := by omega
    clear hin
    go_enter Try.func6, Try.ntmps6
    go_wp2_with fail
    refine (spec_out a0 hout _).mono ?_
    rintro e w' ⟨rfl, rfl⟩
    go_wp2_with fail
    refine (impl_out a0 hout _).mono ?_
    rintro e w' ⟨rfl, rfl⟩
    go_wp2_with (first | (refine wpList_cv rfl 22 29 _ rfl .f32 .f64 (by decide) _ rfl huf Try.underlying29 (fits_wide _) ?_; intro r n hr hw) | (go_at_call 16; refine (same_any _ _ (Sm.trans (by assumption) (Sm.symm (by assumption))) _).mono ?_; rintro e w' ⟨rfl, n, rfl⟩))
    go_ret
    exact ⟨rfl, Go.Pst.below_draws ⟨_, rfl⟩⟩
end Go.Proofs.Ytncapcflhchpmaa.fnExactFromBitsW
