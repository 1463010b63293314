/- ValidReal: what both sides answer. -/
import Derived.Test.YtcaknphahmdkbaaFrA
namespace Go.Proofs.Ytcaknphahmdkbaa.fValidReal
open Go.RowKit Go.Pl Go.Proofs.Ytcaknphahmdkbaa.wh
def ok (A : List Int) : Bool := valR A
theorem spec_any {A : List Int} {v : Value} {w : World} (h : Wh w v A) : Calls Try.prog 16 #[v] w fun e w' => e = .returned (.bool (ok A)) ∧ Below w.heap.size w w' := specValidR_any h
theorem impl_any {A : List Int} {v : Value} {w : World} (h : Wh w v A) : Calls Try.prog 18 #[v] w fun e w' => e = .returned (.bool (ok A)) ∧ Below w.heap.size w w' := validR_any h
end Go.Proofs.Ytcaknphahmdkbaa.fValidReal
