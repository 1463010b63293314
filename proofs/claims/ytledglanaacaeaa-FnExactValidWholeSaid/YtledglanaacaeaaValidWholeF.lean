/- ValidWhole: what both sides answer. -/
import Derived.Test.YtledglanaacaeaaFnA
namespace Go.Proofs.Ytledglanaacaeaa.fValidWhole
open Go.RowKit Go.Pl Go.Proofs.Ytledglanaacaeaa.wh
def ok (A : List Int) : Bool := val A
theorem spec_any {A : List Int} {v : Value} {w : World} (h : Wh w v A) : Calls Try.prog 44 #[v] w fun e w' => e = .returned (.bool (ok A)) ∧ Below w.heap.size w w' := specValid_any h
theorem impl_any {A : List Int} {v : Value} {w : World} (h : Wh w v A) : Calls Try.prog 21 #[v] w fun e w' => e = .returned (.bool (ok A)) ∧ Below w.heap.size w w' := valid_any h
end Go.Proofs.Ytledglanaacaeaa.fValidWhole
