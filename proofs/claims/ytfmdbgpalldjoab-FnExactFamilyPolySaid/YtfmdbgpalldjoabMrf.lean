/- A list of 32-bit numbers in memory of the call's own: marked, and held. -/
import Derived.Test.YtfmdbgpalldjoabFlsW
import Derived.Test.YtfmdbgpalldjoabFlB
namespace Go.Proofs.Ytfmdbgpalldjoab.fls
open Go.RowKit Go.Fl

/-- the bits of a small integer -/
def fi (k : Int) : Nat := floatOfInt .f32 k
theorem fi_num : ∀ k : Nat, k < 300 → isN .f32 (fi ((k : Int) + 1)) = false := by decide +kernel
theorem fi_self {k : Nat} (h : k < 300) : FloatKind.f32.format.order (fi ((k : Int) + 1)) (fi ((k : Int) + 1)) = some .eq := order_self_num (fi_num k h)
theorem Fls.of_own {w : World} {B : Nat} {v : Value} {n : Nat} {f : Nat → Nat} {L : List Value} (hL : n ≤ 9223372036854775807) (hf : ∀ k, k < n → L[k]? = some (.float .f32 (f k))) (h : w.ownsRow B 31 1 v n L) : Fls w v n f := by
  rcases id h.2 with ⟨rfl, h0⟩ | ⟨g, cap, cur, rfl, hB, hg, hr⟩
  · rw [h0]
    exact ⟨none, 0, rfl, by omega, fun h => absurd rfl h⟩
  · refine ⟨_, _, rfl, hL, fun h0 => ⟨g, 0, rfl, own_lt h, fun k hk => ?_⟩⟩
    rw [Nat.zero_add, h.cellAt k (by omega)]
    exact hf k hk

theorem conv_run (x : Int) (w : World) : (convert 3 31 (.int .i64 x)).run Try.prog w = .ok (.float .f32 (fi x)) w :=
  run_convert_int_float w 3 31 .i64 .f32 x (by rw [Try.underlying3]; rfl) Try.underlying31

end Go.Proofs.Ytfmdbgpalldjoab.fls
