/- What a real that came in gives. -/
import Derived.Test.YtdeoemeibbkdoaaDoorWhL
namespace Go.Proofs.YtdeoemeibbkdoaaDoor.wh
open Go.RowKit Go.ChangeShapes Go.WideShapes Go.ChangeAt Go.Deep Go.Joins
section
variable {H : Type} {enc : TypeId × Value → H}
set_option maxRecDepth 100000 in
theorem open_real {W : World} {base : Nat} {v : Value} {d : DataW H} {p : List MemPlace} (hval : Value.okWide Tryd.prog W .any base 24 v) (h : DataW.Trod enc Tryd.prog W 0 (fun _ => true) true 24 v d p) : ∃ L, Wh W v L := by
  obtain ⟨v0, y0, n, rfl, _, _, h0⟩ := open_agg1 Tryd.underlying24 (by kernel_rfl) (by kernel_rfl) hval h
  obtain ⟨L, hL⟩ := open_gen Tryd.underlying22 Tryd.underlying2 cells_i64 h0
  exact ⟨L, v0, rfl, hL⟩

end
end Go.Proofs.YtdeoemeibbkdoaaDoor.wh
