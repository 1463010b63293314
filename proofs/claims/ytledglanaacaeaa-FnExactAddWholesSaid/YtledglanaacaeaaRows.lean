/-
  No cell of these rows narrows 'for every input' (looked for: loops, veiled, ifaces, maps, wideKeys, modest, calm, conditions, laid).
  DERIVED. THE GIVEN ROWS OF THIS SEAT. 11 by the template 'for every input the law returns true; each argument reads behind the call as it read before'; 0 by the template 'total and deterministic' (their statements: YtledglanaacaeaaTotals.lean).
  GIVEN WITH THE SEED: the statements are not yours to turn. If you find one false, say at which input.
  Laid BY PROGRAM, IN A SANDBOX (cutbox-rows.mjs): the forced cells as the released guide's own fill.sh prints them over the translation 173b71ab8f4d624b… (all of the seat's roots in one cut). By AI agents, Wed Nov 11 2026. No macro, syntax, notation, axiom, sorry.
-/
import Derived.Test.YtledglanaacaeaaChecked
import GoSem.Claim
import GoSem.ClaimJoined
import GoSem.ClaimMapViews
import Derived.JoinedTies
import Derived.KernelRfl
namespace Go.Proofs.Ytledglanaacaeaa
/- THE CELL 'sum', in the pinned program and in every row, IS THE sha256 OF THE DUMP (.gsa) THAT YtledglanaacaeaaProg.lean LOADS. Nothing in Lean hashes anything: it is a label: what it is worth is what the hold of that sum in a sandbox is worth. -/
noncomputable def Try.pinned : Pinned := { name := "ytledglanaacaeaa", sum := "173b71ab8f4d624bd7f2aba7e5a0309f039bbe29f827171ab649c5232cb8c22b", checked := Try.checked }
namespace Rows
def none {H : Type} : Left H := { results := [], args := [] }

/-- 'laws.FnWholes': WHATEVER THE INPUT: true; the input reads as it did. -/
def fnWholesSpec : ChangeSpec := { name := "fnWholes", fn := fun _ => fun
  | [d1, d2] => { results := [.lit (.bool true)], args := [d1, d2] }
  | _ => none }
def fnWholesRow : OpenClaim := { program := "ytledglanaacaeaa", sum := "173b71ab8f4d624bd7f2aba7e5a0309f039bbe29f827171ab649c5232cb8c22b", func := "loop.example/g01358/laws.FnWholes", spec := "fnWholes", unfollowed := true, recurses := true, apart := false }
def FnWholesSaid : Prop := fnWholesRow.holds Try.pinned (OpenSpec.ofChange fnWholesSpec)

/-- ITS FALSE NEIGHBOUR: 'it returns false'. Refute it at one input. -/
def fnWholesWrong : ChangeSpec := { name := "fnWholes", fn := fun _ => fun
  | [d1, d2] => { results := [.lit (.bool false)], args := [d1, d2] }
  | _ => none }
def FnWholesWrongFalsely : Prop := fnWholesRow.holds Try.pinned (OpenSpec.ofChange fnWholesWrong)

/-- 'laws.FnCommon': WHATEVER THE INPUT: true; the input reads as it did. -/
def fnCommonSpec : ChangeSpec := { name := "fnCommon", fn := fun _ => fun
  | [d1, d2] => { results := [.lit (.bool true)], args := [d1, d2] }
  | _ => none }
def fnCommonRow : OpenClaim := { program := "ytledglanaacaeaa", sum := "173b71ab8f4d624bd7f2aba7e5a0309f039bbe29f827171ab649c5232cb8c22b", func := "loop.example/g01358/laws.FnCommon", spec := "fnCommon", unfollowed := true, recurses := true, apart := false }
def FnCommonSaid : Prop := fnCommonRow.holds Try.pinned (OpenSpec.ofChange fnCommonSpec)

/-- ITS FALSE NEIGHBOUR: 'it returns false'. Refute it at one input. -/
def fnCommonWrong : ChangeSpec := { name := "fnCommon", fn := fun _ => fun
  | [d1, d2] => { results := [.lit (.bool false)], args := [d1, d2] }
  | _ => none }
def FnCommonWrongFalsely : Prop := fnCommonRow.holds Try.pinned (OpenSpec.ofChange fnCommonWrong)

/-- 'laws.FnFractions': WHATEVER THE INPUT: true; the input reads as it did. -/
def fnFractionsSpec : ChangeSpec := { name := "fnFractions", fn := fun _ => fun
  | [d1, d2] => { results := [.lit (.bool true)], args := [d1, d2] }
  | _ => none }
def fnFractionsRow : OpenClaim := { program := "ytledglanaacaeaa", sum := "173b71ab8f4d624bd7f2aba7e5a0309f039bbe29f827171ab649c5232cb8c22b", func := "loop.example/g01358/laws.FnFractions", spec := "fnFractions", unfollowed := true, recurses := true, apart := false }
def FnFractionsSaid : Prop := fnFractionsRow.holds Try.pinned (OpenSpec.ofChange fnFractionsSpec)

/-- ITS FALSE NEIGHBOUR: 'it returns false'. Refute it at one input. -/
def fnFractionsWrong : ChangeSpec := { name := "fnFractions", fn := fun _ => fun
  | [d1, d2] => { results := [.lit (.bool false)], args := [d1, d2] }
  | _ => none }
def FnFractionsWrongFalsely : Prop := fnFractionsRow.holds Try.pinned (OpenSpec.ofChange fnFractionsWrong)

/-- 'laws.FnLifted': WHATEVER THE INPUT: true; the input reads as it did. -/
def fnLiftedSpec : ChangeSpec := { name := "fnLifted", fn := fun _ => fun
  | [d1, d2] => { results := [.lit (.bool true)], args := [d1, d2] }
  | _ => none }
def fnLiftedRow : OpenClaim := { program := "ytledglanaacaeaa", sum := "173b71ab8f4d624bd7f2aba7e5a0309f039bbe29f827171ab649c5232cb8c22b", func := "loop.example/g01358/laws.FnLifted", spec := "fnLifted", unfollowed := true, recurses := true, apart := false }
def FnLiftedSaid : Prop := fnLiftedRow.holds Try.pinned (OpenSpec.ofChange fnLiftedSpec)

/-- ITS FALSE NEIGHBOUR: 'it returns false'. Refute it at one input. -/
def fnLiftedWrong : ChangeSpec := { name := "fnLifted", fn := fun _ => fun
  | [d1, d2] => { results := [.lit (.bool false)], args := [d1, d2] }
  | _ => none }
def FnLiftedWrongFalsely : Prop := fnLiftedRow.holds Try.pinned (OpenSpec.ofChange fnLiftedWrong)

/-- 'laws.FnExactValidWhole': WHATEVER THE INPUT: true; the input reads as it did. -/
def fnExactValidWholeSpec : ChangeSpec := { name := "fnExactValidWhole", fn := fun _ => fun
  | [d] => { results := [.lit (.bool true)], args := [d] }
  | _ => none }
def fnExactValidWholeRow : OpenClaim := { program := "ytledglanaacaeaa", sum := "173b71ab8f4d624bd7f2aba7e5a0309f039bbe29f827171ab649c5232cb8c22b", func := "loop.example/g01358/laws.FnExactValidWhole", spec := "fnExactValidWhole", apart := false }
def FnExactValidWholeSaid : Prop := fnExactValidWholeRow.holds Try.pinned (OpenSpec.ofChange fnExactValidWholeSpec)

/-- ITS FALSE NEIGHBOUR: 'it returns false'. Refute it at one input. -/
def fnExactValidWholeWrong : ChangeSpec := { name := "fnExactValidWhole", fn := fun _ => fun
  | [d] => { results := [.lit (.bool false)], args := [d] }
  | _ => none }
def FnExactValidWholeWrongFalsely : Prop := fnExactValidWholeRow.holds Try.pinned (OpenSpec.ofChange fnExactValidWholeWrong)

/-- 'laws.FnExactSameWhole': WHATEVER THE INPUT: true; the input reads as it did. -/
def fnExactSameWholeSpec : ChangeSpec := { name := "fnExactSameWhole", fn := fun _ => fun
  | [d1, d2] => { results := [.lit (.bool true)], args := [d1, d2] }
  | _ => none }
def fnExactSameWholeRow : OpenClaim := { program := "ytledglanaacaeaa", sum := "173b71ab8f4d624bd7f2aba7e5a0309f039bbe29f827171ab649c5232cb8c22b", func := "loop.example/g01358/laws.FnExactSameWhole", spec := "fnExactSameWhole", apart := false }
def FnExactSameWholeSaid : Prop := fnExactSameWholeRow.holds Try.pinned (OpenSpec.ofChange fnExactSameWholeSpec)

/-- ITS FALSE NEIGHBOUR: 'it returns false'. Refute it at one input. -/
def fnExactSameWholeWrong : ChangeSpec := { name := "fnExactSameWhole", fn := fun _ => fun
  | [d1, d2] => { results := [.lit (.bool false)], args := [d1, d2] }
  | _ => none }
def FnExactSameWholeWrongFalsely : Prop := fnExactSameWholeRow.holds Try.pinned (OpenSpec.ofChange fnExactSameWholeWrong)

/-- 'laws.FnExactWholeFrom': WHATEVER THE INPUT: true; the input reads as it did. -/
def fnExactWholeFromSpec : ChangeSpec := { name := "fnExactWholeFrom", fn := fun _ => fun
  | [d] => { results := [.lit (.bool true)], args := [d] }
  | _ => none }
def fnExactWholeFromRow : OpenClaim := { program := "ytledglanaacaeaa", sum := "173b71ab8f4d624bd7f2aba7e5a0309f039bbe29f827171ab649c5232cb8c22b", func := "loop.example/g01358/laws.FnExactWholeFrom", spec := "fnExactWholeFrom", apart := false }
def FnExactWholeFromSaid : Prop := fnExactWholeFromRow.holds Try.pinned (OpenSpec.ofChange fnExactWholeFromSpec)

/-- ITS FALSE NEIGHBOUR: 'it returns false'. Refute it at one input. -/
def fnExactWholeFromWrong : ChangeSpec := { name := "fnExactWholeFrom", fn := fun _ => fun
  | [d] => { results := [.lit (.bool false)], args := [d] }
  | _ => none }
def FnExactWholeFromWrongFalsely : Prop := fnExactWholeFromRow.holds Try.pinned (OpenSpec.ofChange fnExactWholeFromWrong)

/-- 'laws.FnExactAddWholes': WHATEVER THE INPUT: true; the input reads as it did. -/
def fnExactAddWholesSpec : ChangeSpec := { name := "fnExactAddWholes", fn := fun _ => fun
  | [d1, d2, d3, d4] => { results := [.lit (.bool true)], args := [d1, d2, d3, d4] }
  | _ => none }
def fnExactAddWholesRow : OpenClaim := { program := "ytledglanaacaeaa", sum := "173b71ab8f4d624bd7f2aba7e5a0309f039bbe29f827171ab649c5232cb8c22b", func := "loop.example/g01358/laws.FnExactAddWholes", spec := "fnExactAddWholes", apart := false }
def FnExactAddWholesSaid : Prop := fnExactAddWholesRow.holds Try.pinned (OpenSpec.ofChange fnExactAddWholesSpec)

/-- ITS FALSE NEIGHBOUR: 'it returns false'. Refute it at one input. -/
def fnExactAddWholesWrong : ChangeSpec := { name := "fnExactAddWholes", fn := fun _ => fun
  | [d1, d2, d3, d4] => { results := [.lit (.bool false)], args := [d1, d2, d3, d4] }
  | _ => none }
def FnExactAddWholesWrongFalsely : Prop := fnExactAddWholesRow.holds Try.pinned (OpenSpec.ofChange fnExactAddWholesWrong)

/-- 'laws.FnExactMulWholes': WHATEVER THE INPUT: true; the input reads as it did. -/
def fnExactMulWholesSpec : ChangeSpec := { name := "fnExactMulWholes", fn := fun _ => fun
  | [d1, d2] => { results := [.lit (.bool true)], args := [d1, d2] }
  | _ => none }
def fnExactMulWholesRow : OpenClaim := { program := "ytledglanaacaeaa", sum := "173b71ab8f4d624bd7f2aba7e5a0309f039bbe29f827171ab649c5232cb8c22b", func := "loop.example/g01358/laws.FnExactMulWholes", spec := "fnExactMulWholes", apart := false }
def FnExactMulWholesSaid : Prop := fnExactMulWholesRow.holds Try.pinned (OpenSpec.ofChange fnExactMulWholesSpec)

/-- ITS FALSE NEIGHBOUR: 'it returns false'. Refute it at one input. -/
def fnExactMulWholesWrong : ChangeSpec := { name := "fnExactMulWholes", fn := fun _ => fun
  | [d1, d2] => { results := [.lit (.bool false)], args := [d1, d2] }
  | _ => none }
def FnExactMulWholesWrongFalsely : Prop := fnExactMulWholesRow.holds Try.pinned (OpenSpec.ofChange fnExactMulWholesWrong)

/-- 'laws.FnExactWholeAt': WHATEVER THE INPUT: true; the input reads as it did. -/
def fnExactWholeAtSpec : ChangeSpec := { name := "fnExactWholeAt", fn := fun _ => fun
  | [d1, d2] => { results := [.lit (.bool true)], args := [d1, d2] }
  | _ => none }
def fnExactWholeAtRow : OpenClaim := { program := "ytledglanaacaeaa", sum := "173b71ab8f4d624bd7f2aba7e5a0309f039bbe29f827171ab649c5232cb8c22b", func := "loop.example/g01358/laws.FnExactWholeAt", spec := "fnExactWholeAt", unfollowed := true, recurses := true, apart := false }
def FnExactWholeAtSaid : Prop := fnExactWholeAtRow.holds Try.pinned (OpenSpec.ofChange fnExactWholeAtSpec)

/-- ITS FALSE NEIGHBOUR: 'it returns false'. Refute it at one input. -/
def fnExactWholeAtWrong : ChangeSpec := { name := "fnExactWholeAt", fn := fun _ => fun
  | [d1, d2] => { results := [.lit (.bool false)], args := [d1, d2] }
  | _ => none }
def FnExactWholeAtWrongFalsely : Prop := fnExactWholeAtRow.holds Try.pinned (OpenSpec.ofChange fnExactWholeAtWrong)

/-- 'laws.FnExactSlopeWhole': WHATEVER THE INPUT: true; the input reads as it did. -/
def fnExactSlopeWholeSpec : ChangeSpec := { name := "fnExactSlopeWhole", fn := fun _ => fun
  | [d] => { results := [.lit (.bool true)], args := [d] }
  | _ => none }
def fnExactSlopeWholeRow : OpenClaim := { program := "ytledglanaacaeaa", sum := "173b71ab8f4d624bd7f2aba7e5a0309f039bbe29f827171ab649c5232cb8c22b", func := "loop.example/g01358/laws.FnExactSlopeWhole", spec := "fnExactSlopeWhole", apart := false }
def FnExactSlopeWholeSaid : Prop := fnExactSlopeWholeRow.holds Try.pinned (OpenSpec.ofChange fnExactSlopeWholeSpec)

/-- ITS FALSE NEIGHBOUR: 'it returns false'. Refute it at one input. -/
def fnExactSlopeWholeWrong : ChangeSpec := { name := "fnExactSlopeWhole", fn := fun _ => fun
  | [d] => { results := [.lit (.bool false)], args := [d] }
  | _ => none }
def FnExactSlopeWholeWrongFalsely : Prop := fnExactSlopeWholeRow.holds Try.pinned (OpenSpec.ofChange fnExactSlopeWholeWrong)

/- THE SECOND FORM. 'bulk': how many values and letters a reading holds, each counted each time it is reached (what is shared counts as often as it is met; a slice's spare places count too). A statement '..UptoSaid' is the law's where the arguments, and the package variables that the reading takes, are together of bulk at most 1048576: NARROWER than '..Said'. Prove '..Said' where nothing that the law and all that it calls make is longer than what came in: it says more and counts as full. Else prove '..UptoSaid'. A law counts once. -/
mutual
def uptoBulk {H : Type} : DataW H → Nat
  | .lit (.string bytes) => bytes.length + 1
  | .lit _ => 1
  | .nil => 1
  | .ptr d => uptoBulk d + 1
  | .slice elems spare => uptoBulkAll elems + uptoBulkAll spare + 1
  | .agg parts => uptoBulkAll parts + 1
  | .iface _ d => uptoBulk d + 1
  | .map entries => uptoBulkEntries entries + 1
  | .held _ => 1
def uptoBulkAll {H : Type} : List (DataW H) → Nat
  | [] => 0
  | d :: r => uptoBulk d + uptoBulkAll r
def uptoBulkEntries {H : Type} : List (Lit × DataW H) → Nat
  | [] => 0
  | x :: r => uptoBulkEntry x + uptoBulkEntries r
def uptoBulkEntry {H : Type} : Lit × DataW H → Nat
  | (.string bytes, d) => bytes.length + uptoBulk d + 1
  | (_, d) => uptoBulk d + 1
 end
def uptoSmall : (H : Type) → List (DataW H) → Bool := fun _ ds => decide (uptoBulkAll ds ≤ 1048576)
def OpenSpec.upto (s : _root_.Go.ChangeSpec) : _root_.Go.OpenSpec := { _root_.Go.OpenSpec.ofChange s with cond := some uptoSmall }

/-- 'laws.FnWholes', WHERE WHAT IT READS IS OF BULK AT MOST 1048576: true; the input reads as it did. -/
def fnWholesUptoRow : OpenClaim := { program := "ytledglanaacaeaa", sum := "173b71ab8f4d624bd7f2aba7e5a0309f039bbe29f827171ab649c5232cb8c22b", func := "loop.example/g01358/laws.FnWholes", spec := "fnWholes", unfollowed := true, recurses := true, apart := false, narrowed := true }
def FnWholesUptoSaid : Prop := fnWholesUptoRow.holds Try.pinned (OpenSpec.upto fnWholesSpec)

/-- 'laws.FnCommon', WHERE WHAT IT READS IS OF BULK AT MOST 1048576: true; the input reads as it did. -/
def fnCommonUptoRow : OpenClaim := { program := "ytledglanaacaeaa", sum := "173b71ab8f4d624bd7f2aba7e5a0309f039bbe29f827171ab649c5232cb8c22b", func := "loop.example/g01358/laws.FnCommon", spec := "fnCommon", unfollowed := true, recurses := true, apart := false, narrowed := true }
def FnCommonUptoSaid : Prop := fnCommonUptoRow.holds Try.pinned (OpenSpec.upto fnCommonSpec)

/-- 'laws.FnFractions', WHERE WHAT IT READS IS OF BULK AT MOST 1048576: true; the input reads as it did. -/
def fnFractionsUptoRow : OpenClaim := { program := "ytledglanaacaeaa", sum := "173b71ab8f4d624bd7f2aba7e5a0309f039bbe29f827171ab649c5232cb8c22b", func := "loop.example/g01358/laws.FnFractions", spec := "fnFractions", unfollowed := true, recurses := true, apart := false, narrowed := true }
def FnFractionsUptoSaid : Prop := fnFractionsUptoRow.holds Try.pinned (OpenSpec.upto fnFractionsSpec)

/-- 'laws.FnLifted', WHERE WHAT IT READS IS OF BULK AT MOST 1048576: true; the input reads as it did. -/
def fnLiftedUptoRow : OpenClaim := { program := "ytledglanaacaeaa", sum := "173b71ab8f4d624bd7f2aba7e5a0309f039bbe29f827171ab649c5232cb8c22b", func := "loop.example/g01358/laws.FnLifted", spec := "fnLifted", unfollowed := true, recurses := true, apart := false, narrowed := true }
def FnLiftedUptoSaid : Prop := fnLiftedUptoRow.holds Try.pinned (OpenSpec.upto fnLiftedSpec)

/-- 'laws.FnExactValidWhole', WHERE WHAT IT READS IS OF BULK AT MOST 1048576: true; the input reads as it did. -/
def fnExactValidWholeUptoRow : OpenClaim := { program := "ytledglanaacaeaa", sum := "173b71ab8f4d624bd7f2aba7e5a0309f039bbe29f827171ab649c5232cb8c22b", func := "loop.example/g01358/laws.FnExactValidWhole", spec := "fnExactValidWhole", apart := false, narrowed := true }
def FnExactValidWholeUptoSaid : Prop := fnExactValidWholeUptoRow.holds Try.pinned (OpenSpec.upto fnExactValidWholeSpec)

/-- 'laws.FnExactSameWhole', WHERE WHAT IT READS IS OF BULK AT MOST 1048576: true; the input reads as it did. -/
def fnExactSameWholeUptoRow : OpenClaim := { program := "ytledglanaacaeaa", sum := "173b71ab8f4d624bd7f2aba7e5a0309f039bbe29f827171ab649c5232cb8c22b", func := "loop.example/g01358/laws.FnExactSameWhole", spec := "fnExactSameWhole", apart := false, narrowed := true }
def FnExactSameWholeUptoSaid : Prop := fnExactSameWholeUptoRow.holds Try.pinned (OpenSpec.upto fnExactSameWholeSpec)

/-- 'laws.FnExactWholeFrom', WHERE WHAT IT READS IS OF BULK AT MOST 1048576: true; the input reads as it did. -/
def fnExactWholeFromUptoRow : OpenClaim := { program := "ytledglanaacaeaa", sum := "173b71ab8f4d624bd7f2aba7e5a0309f039bbe29f827171ab649c5232cb8c22b", func := "loop.example/g01358/laws.FnExactWholeFrom", spec := "fnExactWholeFrom", apart := false, narrowed := true }
def FnExactWholeFromUptoSaid : Prop := fnExactWholeFromUptoRow.holds Try.pinned (OpenSpec.upto fnExactWholeFromSpec)

/-- 'laws.FnExactAddWholes', WHERE WHAT IT READS IS OF BULK AT MOST 1048576: true; the input reads as it did. -/
def fnExactAddWholesUptoRow : OpenClaim := { program := "ytledglanaacaeaa", sum := "173b71ab8f4d624bd7f2aba7e5a0309f039bbe29f827171ab649c5232cb8c22b", func := "loop.example/g01358/laws.FnExactAddWholes", spec := "fnExactAddWholes", apart := false, narrowed := true }
def FnExactAddWholesUptoSaid : Prop := fnExactAddWholesUptoRow.holds Try.pinned (OpenSpec.upto fnExactAddWholesSpec)

/-- 'laws.FnExactMulWholes', WHERE WHAT IT READS IS OF BULK AT MOST 1048576: true; the input reads as it did. -/
def fnExactMulWholesUptoRow : OpenClaim := { program := "ytledglanaacaeaa", sum := "173b71ab8f4d624bd7f2aba7e5a0309f039bbe29f827171ab649c5232cb8c22b", func := "loop.example/g01358/laws.FnExactMulWholes", spec := "fnExactMulWholes", apart := false, narrowed := true }
def FnExactMulWholesUptoSaid : Prop := fnExactMulWholesUptoRow.holds Try.pinned (OpenSpec.upto fnExactMulWholesSpec)

/-- 'laws.FnExactWholeAt', WHERE WHAT IT READS IS OF BULK AT MOST 1048576: true; the input reads as it did. -/
def fnExactWholeAtUptoRow : OpenClaim := { program := "ytledglanaacaeaa", sum := "173b71ab8f4d624bd7f2aba7e5a0309f039bbe29f827171ab649c5232cb8c22b", func := "loop.example/g01358/laws.FnExactWholeAt", spec := "fnExactWholeAt", unfollowed := true, recurses := true, apart := false, narrowed := true }
def FnExactWholeAtUptoSaid : Prop := fnExactWholeAtUptoRow.holds Try.pinned (OpenSpec.upto fnExactWholeAtSpec)

/-- 'laws.FnExactSlopeWhole', WHERE WHAT IT READS IS OF BULK AT MOST 1048576: true; the input reads as it did. -/
def fnExactSlopeWholeUptoRow : OpenClaim := { program := "ytledglanaacaeaa", sum := "173b71ab8f4d624bd7f2aba7e5a0309f039bbe29f827171ab649c5232cb8c22b", func := "loop.example/g01358/laws.FnExactSlopeWhole", spec := "fnExactSlopeWhole", apart := false, narrowed := true }
def FnExactSlopeWholeUptoSaid : Prop := fnExactSlopeWholeUptoRow.holds Try.pinned (OpenSpec.upto fnExactSlopeWholeSpec)

end Rows
end Go.Proofs.Ytledglanaacaeaa
