/- Products of terms: both sides. -/
import Derived.Test.YtbbdhbamooaloabFnC
import Derived.IntWalk
namespace Go.Proofs.Ytbbdhbamooaloab.wh
open Go.RowKit Go.Pl

theorem rep_map (n : Nat) : (madeCells (Value.int .i64 0).cells (n * 1)).toList = (List.replicate n (0 : Int)).map (Value.int .i64) := by
  rw [Nat.mul_one, List.map_replicate]
  exact toList_madeCells_one _ _

end Go.Proofs.Ytbbdhbamooaloab.wh
