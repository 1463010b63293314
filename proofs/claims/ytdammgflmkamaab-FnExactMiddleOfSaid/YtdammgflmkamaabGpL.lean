/- What a gap that came in gives. -/
import Derived.Test.YtdammgflmkamaabWhL
namespace Go.Proofs.Ytdammgflmkamaab.wh
open Go.RowKit Go.ChangeShapes Go.WideShapes Go.ChangeAt Go.Deep Go.Joins
section
variable {H : Type} {enc : TypeId × Value → H}
set_option maxRecDepth 100000 in
theorem open_gap {W : World} {base : Nat} {v : Value} {d : DataW H} {p : List MemPlace} (hval : Value.okWide Try.prog W .any base 33 v) (h : DataW.Trod enc Try.prog W 0 (fun _ => true) true 33 v d p) : ∃ x y z : Int, v = .agg #[.int .i64 x, .int .i64 y, .int .i64 z] := by
  obtain ⟨v0, v1, v2, y0, y1, y2, n, rfl, _, _, h0, h1, h2⟩ := open_agg3 Try.underlying33 (by kernel_rfl) (by kernel_rfl) hval h
  obtain ⟨x, hx⟩ := trod_i Try.underlying2 h0
  obtain ⟨y, hy⟩ := trod_i Try.underlying2 h1
  obtain ⟨z, hz⟩ := trod_i Try.underlying2 h2
  simp only [List.cons.injEq, and_true] at hx hy hz
  exact ⟨x, y, z, by rw [hx, hy, hz]⟩
end
end Go.Proofs.Ytdammgflmkamaab.wh
