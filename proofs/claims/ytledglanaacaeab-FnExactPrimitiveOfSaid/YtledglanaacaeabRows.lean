/-
  No cell of these rows narrows 'for every input' (looked for: loops, veiled, ifaces, maps, wideKeys, modest, calm, conditions, laid).
  DERIVED. THE GIVEN ROWS OF THIS SEAT. 12 by the template 'for every input the law returns true; each argument reads behind the call as it read before'; 0 by the template 'total and deterministic' (their statements: YtledglanaacaeabTotals.lean).
  GIVEN WITH THE SEED: the statements are not yours to turn. If you find one false, say at which input.
  Laid BY PROGRAM, IN A SANDBOX (cutbox-rows.mjs): the forced cells as the released guide's own fill.sh prints them over the translation 67811a6bb61b7020… (all of the seat's roots in one cut). By AI agents, Wed Nov 11 2026. No macro, syntax, notation, axiom, sorry.
-/
import Derived.Test.YtledglanaacaeabChecked
import GoSem.Claim
import GoSem.ClaimJoined
import GoSem.ClaimMapViews
import Derived.JoinedTies
import Derived.KernelRfl
namespace Go.Proofs.Ytledglanaacaeab
/- THE CELL 'sum', in the pinned program and in every row, IS THE sha256 OF THE DUMP (.gsa) THAT YtledglanaacaeabProg.lean LOADS. Nothing in Lean hashes anything: it is a label: what it is worth is what the hold of that sum in a sandbox is worth. -/
noncomputable def Try.pinned : Pinned := { name := "ytledglanaacaeab", sum := "67811a6bb61b7020613fae67571b4b76fde5e83b4e06a2f5a74596a0c1af90a9", checked := Try.checked }
namespace Rows
def none {H : Type} : Left H := { results := [], args := [] }

/-- 'laws.FnExactContentOf': WHATEVER THE INPUT: true; the input reads as it did. -/
def fnExactContentOfSpec : ChangeSpec := { name := "fnExactContentOf", fn := fun _ => fun
  | [d] => { results := [.lit (.bool true)], args := [d] }
  | _ => none }
def fnExactContentOfRow : OpenClaim := { program := "ytledglanaacaeab", sum := "67811a6bb61b7020613fae67571b4b76fde5e83b4e06a2f5a74596a0c1af90a9", func := "loop.example/g01358/laws.FnExactContentOf", spec := "fnExactContentOf", unfollowed := true, recurses := true, apart := false }
def FnExactContentOfSaid : Prop := fnExactContentOfRow.holds Try.pinned (OpenSpec.ofChange fnExactContentOfSpec)

/-- ITS FALSE NEIGHBOUR: 'it returns false'. Refute it at one input. -/
def fnExactContentOfWrong : ChangeSpec := { name := "fnExactContentOf", fn := fun _ => fun
  | [d] => { results := [.lit (.bool false)], args := [d] }
  | _ => none }
def FnExactContentOfWrongFalsely : Prop := fnExactContentOfRow.holds Try.pinned (OpenSpec.ofChange fnExactContentOfWrong)

/-- 'laws.FnExactPrimitiveOf': WHATEVER THE INPUT: true; the input reads as it did. -/
def fnExactPrimitiveOfSpec : ChangeSpec := { name := "fnExactPrimitiveOf", fn := fun _ => fun
  | [d] => { results := [.lit (.bool true)], args := [d] }
  | _ => none }
def fnExactPrimitiveOfRow : OpenClaim := { program := "ytledglanaacaeab", sum := "67811a6bb61b7020613fae67571b4b76fde5e83b4e06a2f5a74596a0c1af90a9", func := "loop.example/g01358/laws.FnExactPrimitiveOf", spec := "fnExactPrimitiveOf", unfollowed := true, recurses := true, apart := false }
def FnExactPrimitiveOfSaid : Prop := fnExactPrimitiveOfRow.holds Try.pinned (OpenSpec.ofChange fnExactPrimitiveOfSpec)

/-- ITS FALSE NEIGHBOUR: 'it returns false'. Refute it at one input. -/
def fnExactPrimitiveOfWrong : ChangeSpec := { name := "fnExactPrimitiveOf", fn := fun _ => fun
  | [d] => { results := [.lit (.bool false)], args := [d] }
  | _ => none }
def FnExactPrimitiveOfWrongFalsely : Prop := fnExactPrimitiveOfRow.holds Try.pinned (OpenSpec.ofChange fnExactPrimitiveOfWrong)

/-- 'laws.FnExactExactQuotient': WHATEVER THE INPUT: true; the input reads as it did. -/
def fnExactExactQuotientSpec : ChangeSpec := { name := "fnExactExactQuotient", fn := fun _ => fun
  | [d1, d2] => { results := [.lit (.bool true)], args := [d1, d2] }
  | _ => none }
def fnExactExactQuotientRow : OpenClaim := { program := "ytledglanaacaeab", sum := "67811a6bb61b7020613fae67571b4b76fde5e83b4e06a2f5a74596a0c1af90a9", func := "loop.example/g01358/laws.FnExactExactQuotient", spec := "fnExactExactQuotient", unfollowed := true, recurses := true, apart := false }
def FnExactExactQuotientSaid : Prop := fnExactExactQuotientRow.holds Try.pinned (OpenSpec.ofChange fnExactExactQuotientSpec)

/-- ITS FALSE NEIGHBOUR: 'it returns false'. Refute it at one input. -/
def fnExactExactQuotientWrong : ChangeSpec := { name := "fnExactExactQuotient", fn := fun _ => fun
  | [d1, d2] => { results := [.lit (.bool false)], args := [d1, d2] }
  | _ => none }
def FnExactExactQuotientWrongFalsely : Prop := fnExactExactQuotientRow.holds Try.pinned (OpenSpec.ofChange fnExactExactQuotientWrong)

/-- 'laws.FnExactCommonWhole': WHATEVER THE INPUT: true; the input reads as it did. -/
def fnExactCommonWholeSpec : ChangeSpec := { name := "fnExactCommonWhole", fn := fun _ => fun
  | [d1, d2] => { results := [.lit (.bool true)], args := [d1, d2] }
  | _ => none }
def fnExactCommonWholeRow : OpenClaim := { program := "ytledglanaacaeab", sum := "67811a6bb61b7020613fae67571b4b76fde5e83b4e06a2f5a74596a0c1af90a9", func := "loop.example/g01358/laws.FnExactCommonWhole", spec := "fnExactCommonWhole", unfollowed := true, recurses := true, apart := false }
def FnExactCommonWholeSaid : Prop := fnExactCommonWholeRow.holds Try.pinned (OpenSpec.ofChange fnExactCommonWholeSpec)

/-- ITS FALSE NEIGHBOUR: 'it returns false'. Refute it at one input. -/
def fnExactCommonWholeWrong : ChangeSpec := { name := "fnExactCommonWhole", fn := fun _ => fun
  | [d1, d2] => { results := [.lit (.bool false)], args := [d1, d2] }
  | _ => none }
def FnExactCommonWholeWrongFalsely : Prop := fnExactCommonWholeRow.holds Try.pinned (OpenSpec.ofChange fnExactCommonWholeWrong)

/-- 'laws.FnExactSquareFree': WHATEVER THE INPUT: true; the input reads as it did. -/
def fnExactSquareFreeSpec : ChangeSpec := { name := "fnExactSquareFree", fn := fun _ => fun
  | [d] => { results := [.lit (.bool true)], args := [d] }
  | _ => none }
def fnExactSquareFreeRow : OpenClaim := { program := "ytledglanaacaeab", sum := "67811a6bb61b7020613fae67571b4b76fde5e83b4e06a2f5a74596a0c1af90a9", func := "loop.example/g01358/laws.FnExactSquareFree", spec := "fnExactSquareFree", unfollowed := true, recurses := true, apart := false }
def FnExactSquareFreeSaid : Prop := fnExactSquareFreeRow.holds Try.pinned (OpenSpec.ofChange fnExactSquareFreeSpec)

/-- ITS FALSE NEIGHBOUR: 'it returns false'. Refute it at one input. -/
def fnExactSquareFreeWrong : ChangeSpec := { name := "fnExactSquareFree", fn := fun _ => fun
  | [d] => { results := [.lit (.bool false)], args := [d] }
  | _ => none }
def FnExactSquareFreeWrongFalsely : Prop := fnExactSquareFreeRow.holds Try.pinned (OpenSpec.ofChange fnExactSquareFreeWrong)

/-- 'laws.FnExactResultantOf': WHATEVER THE INPUT: true; the input reads as it did. -/
def fnExactResultantOfSpec : ChangeSpec := { name := "fnExactResultantOf", fn := fun _ => fun
  | [d1, d2] => { results := [.lit (.bool true)], args := [d1, d2] }
  | _ => none }
def fnExactResultantOfRow : OpenClaim := { program := "ytledglanaacaeab", sum := "67811a6bb61b7020613fae67571b4b76fde5e83b4e06a2f5a74596a0c1af90a9", func := "loop.example/g01358/laws.FnExactResultantOf", spec := "fnExactResultantOf", recurses := true, apart := false }
def FnExactResultantOfSaid : Prop := fnExactResultantOfRow.holds Try.pinned (OpenSpec.ofChange fnExactResultantOfSpec)

/-- ITS FALSE NEIGHBOUR: 'it returns false'. Refute it at one input. -/
def fnExactResultantOfWrong : ChangeSpec := { name := "fnExactResultantOf", fn := fun _ => fun
  | [d1, d2] => { results := [.lit (.bool false)], args := [d1, d2] }
  | _ => none }
def FnExactResultantOfWrongFalsely : Prop := fnExactResultantOfRow.holds Try.pinned (OpenSpec.ofChange fnExactResultantOfWrong)

/-- 'laws.FnExactDiscriminantOf': WHATEVER THE INPUT: true; the input reads as it did. -/
def fnExactDiscriminantOfSpec : ChangeSpec := { name := "fnExactDiscriminantOf", fn := fun _ => fun
  | [d] => { results := [.lit (.bool true)], args := [d] }
  | _ => none }
def fnExactDiscriminantOfRow : OpenClaim := { program := "ytledglanaacaeab", sum := "67811a6bb61b7020613fae67571b4b76fde5e83b4e06a2f5a74596a0c1af90a9", func := "loop.example/g01358/laws.FnExactDiscriminantOf", spec := "fnExactDiscriminantOf", recurses := true, apart := false }
def FnExactDiscriminantOfSaid : Prop := fnExactDiscriminantOfRow.holds Try.pinned (OpenSpec.ofChange fnExactDiscriminantOfSpec)

/-- ITS FALSE NEIGHBOUR: 'it returns false'. Refute it at one input. -/
def fnExactDiscriminantOfWrong : ChangeSpec := { name := "fnExactDiscriminantOf", fn := fun _ => fun
  | [d] => { results := [.lit (.bool false)], args := [d] }
  | _ => none }
def FnExactDiscriminantOfWrongFalsely : Prop := fnExactDiscriminantOfRow.holds Try.pinned (OpenSpec.ofChange fnExactDiscriminantOfWrong)

/-- 'laws.FnExactFractionRoots': WHATEVER THE INPUT: true; the input reads as it did. -/
def fnExactFractionRootsSpec : ChangeSpec := { name := "fnExactFractionRoots", fn := fun _ => fun
  | [d] => { results := [.lit (.bool true)], args := [d] }
  | _ => none }
def fnExactFractionRootsRow : OpenClaim := { program := "ytledglanaacaeab", sum := "67811a6bb61b7020613fae67571b4b76fde5e83b4e06a2f5a74596a0c1af90a9", func := "loop.example/g01358/laws.FnExactFractionRoots", spec := "fnExactFractionRoots", unfollowed := true, recurses := true, apart := false }
def FnExactFractionRootsSaid : Prop := fnExactFractionRootsRow.holds Try.pinned (OpenSpec.ofChange fnExactFractionRootsSpec)

/-- ITS FALSE NEIGHBOUR: 'it returns false'. Refute it at one input. -/
def fnExactFractionRootsWrong : ChangeSpec := { name := "fnExactFractionRoots", fn := fun _ => fun
  | [d] => { results := [.lit (.bool false)], args := [d] }
  | _ => none }
def FnExactFractionRootsWrongFalsely : Prop := fnExactFractionRootsRow.holds Try.pinned (OpenSpec.ofChange fnExactFractionRootsWrong)

/-- 'laws.FnExactCyclotomicOf': WHATEVER THE INPUT: true; the input reads as it did. -/
def fnExactCyclotomicOfSpec : ChangeSpec := { name := "fnExactCyclotomicOf", fn := fun _ => fun
  | [d] => { results := [.lit (.bool true)], args := [d] }
  | _ => none }
def fnExactCyclotomicOfRow : OpenClaim := { program := "ytledglanaacaeab", sum := "67811a6bb61b7020613fae67571b4b76fde5e83b4e06a2f5a74596a0c1af90a9", func := "loop.example/g01358/laws.FnExactCyclotomicOf", spec := "fnExactCyclotomicOf", unfollowed := true, recurses := true, apart := false }
def FnExactCyclotomicOfSaid : Prop := fnExactCyclotomicOfRow.holds Try.pinned (OpenSpec.ofChange fnExactCyclotomicOfSpec)

/-- ITS FALSE NEIGHBOUR: 'it returns false'. Refute it at one input. -/
def fnExactCyclotomicOfWrong : ChangeSpec := { name := "fnExactCyclotomicOf", fn := fun _ => fun
  | [d] => { results := [.lit (.bool false)], args := [d] }
  | _ => none }
def FnExactCyclotomicOfWrongFalsely : Prop := fnExactCyclotomicOfRow.holds Try.pinned (OpenSpec.ofChange fnExactCyclotomicOfWrong)

/-- 'laws.FnExactOverPrime': WHATEVER THE INPUT: true; the input reads as it did. -/
def fnExactOverPrimeSpec : ChangeSpec := { name := "fnExactOverPrime", fn := fun _ => fun
  | [d1, d2] => { results := [.lit (.bool true)], args := [d1, d2] }
  | _ => none }
def fnExactOverPrimeRow : OpenClaim := { program := "ytledglanaacaeab", sum := "67811a6bb61b7020613fae67571b4b76fde5e83b4e06a2f5a74596a0c1af90a9", func := "loop.example/g01358/laws.FnExactOverPrime", spec := "fnExactOverPrime", apart := false }
def FnExactOverPrimeSaid : Prop := fnExactOverPrimeRow.holds Try.pinned (OpenSpec.ofChange fnExactOverPrimeSpec)

/-- ITS FALSE NEIGHBOUR: 'it returns false'. Refute it at one input. -/
def fnExactOverPrimeWrong : ChangeSpec := { name := "fnExactOverPrime", fn := fun _ => fun
  | [d1, d2] => { results := [.lit (.bool false)], args := [d1, d2] }
  | _ => none }
def FnExactOverPrimeWrongFalsely : Prop := fnExactOverPrimeRow.holds Try.pinned (OpenSpec.ofChange fnExactOverPrimeWrong)

/-- 'laws.FnExactMulOver': WHATEVER THE INPUT: true; the input reads as it did. -/
def fnExactMulOverSpec : ChangeSpec := { name := "fnExactMulOver", fn := fun _ => fun
  | [d1, d2, d3] => { results := [.lit (.bool true)], args := [d1, d2, d3] }
  | _ => none }
def fnExactMulOverRow : OpenClaim := { program := "ytledglanaacaeab", sum := "67811a6bb61b7020613fae67571b4b76fde5e83b4e06a2f5a74596a0c1af90a9", func := "loop.example/g01358/laws.FnExactMulOver", spec := "fnExactMulOver", apart := false }
def FnExactMulOverSaid : Prop := fnExactMulOverRow.holds Try.pinned (OpenSpec.ofChange fnExactMulOverSpec)

/-- ITS FALSE NEIGHBOUR: 'it returns false'. Refute it at one input. -/
def fnExactMulOverWrong : ChangeSpec := { name := "fnExactMulOver", fn := fun _ => fun
  | [d1, d2, d3] => { results := [.lit (.bool false)], args := [d1, d2, d3] }
  | _ => none }
def FnExactMulOverWrongFalsely : Prop := fnExactMulOverRow.holds Try.pinned (OpenSpec.ofChange fnExactMulOverWrong)

/-- 'laws.FnExactDivideOver': WHATEVER THE INPUT: true; the input reads as it did. -/
def fnExactDivideOverSpec : ChangeSpec := { name := "fnExactDivideOver", fn := fun _ => fun
  | [d1, d2, d3] => { results := [.lit (.bool true)], args := [d1, d2, d3] }
  | _ => none }
def fnExactDivideOverRow : OpenClaim := { program := "ytledglanaacaeab", sum := "67811a6bb61b7020613fae67571b4b76fde5e83b4e06a2f5a74596a0c1af90a9", func := "loop.example/g01358/laws.FnExactDivideOver", spec := "fnExactDivideOver", unfollowed := true, recurses := true, apart := false }
def FnExactDivideOverSaid : Prop := fnExactDivideOverRow.holds Try.pinned (OpenSpec.ofChange fnExactDivideOverSpec)

/-- ITS FALSE NEIGHBOUR: 'it returns false'. Refute it at one input. -/
def fnExactDivideOverWrong : ChangeSpec := { name := "fnExactDivideOver", fn := fun _ => fun
  | [d1, d2, d3] => { results := [.lit (.bool false)], args := [d1, d2, d3] }
  | _ => none }
def FnExactDivideOverWrongFalsely : Prop := fnExactDivideOverRow.holds Try.pinned (OpenSpec.ofChange fnExactDivideOverWrong)

/- THE SECOND FORM. 'bulk': how many values and letters a reading holds, each counted each time it is reached (what is shared counts as often as it is met; a slice's spare places count too). A statement '..UptoSaid' is the law's where the arguments, and the package variables that the reading takes, are together of bulk at most 1048576: NARROWER than '..Said'. Prove '..Said' where nothing that the law and all that it calls make is longer than what came in: it says more and counts as full. Else prove '..UptoSaid'. A law counts once. -/
mutual
def uptoBulk {H : Type} : DataW H → Nat
  | .lit (.string bytes) => bytes.length + 1
  | .lit _ => 1
  | .nil => 1
  | .ptr d => uptoBulk d + 1
  | .slice elems spare => uptoBulkAll elems + uptoBulkAll spare + 1
  | .agg parts => uptoBulkAll parts + 1
  | .iface _ d => uptoBulk d + 1
  | .map entries => uptoBulkEntries entries + 1
  | .held _ => 1
def uptoBulkAll {H : Type} : List (DataW H) → Nat
  | [] => 0
  | d :: r => uptoBulk d + uptoBulkAll r
def uptoBulkEntries {H : Type} : List (Lit × DataW H) → Nat
  | [] => 0
  | x :: r => uptoBulkEntry x + uptoBulkEntries r
def uptoBulkEntry {H : Type} : Lit × DataW H → Nat
  | (.string bytes, d) => bytes.length + uptoBulk d + 1
  | (_, d) => uptoBulk d + 1
 end
def uptoSmall : (H : Type) → List (DataW H) → Bool := fun _ ds => decide (uptoBulkAll ds ≤ 1048576)
def OpenSpec.upto (s : _root_.Go.ChangeSpec) : _root_.Go.OpenSpec := { _root_.Go.OpenSpec.ofChange s with cond := some uptoSmall }

/-- 'laws.FnExactContentOf', WHERE WHAT IT READS IS OF BULK AT MOST 1048576: true; the input reads as it did. -/
def fnExactContentOfUptoRow : OpenClaim := { program := "ytledglanaacaeab", sum := "67811a6bb61b7020613fae67571b4b76fde5e83b4e06a2f5a74596a0c1af90a9", func := "loop.example/g01358/laws.FnExactContentOf", spec := "fnExactContentOf", unfollowed := true, recurses := true, apart := false, narrowed := true }
def FnExactContentOfUptoSaid : Prop := fnExactContentOfUptoRow.holds Try.pinned (OpenSpec.upto fnExactContentOfSpec)

/-- 'laws.FnExactPrimitiveOf', WHERE WHAT IT READS IS OF BULK AT MOST 1048576: true; the input reads as it did. -/
def fnExactPrimitiveOfUptoRow : OpenClaim := { program := "ytledglanaacaeab", sum := "67811a6bb61b7020613fae67571b4b76fde5e83b4e06a2f5a74596a0c1af90a9", func := "loop.example/g01358/laws.FnExactPrimitiveOf", spec := "fnExactPrimitiveOf", unfollowed := true, recurses := true, apart := false, narrowed := true }
def FnExactPrimitiveOfUptoSaid : Prop := fnExactPrimitiveOfUptoRow.holds Try.pinned (OpenSpec.upto fnExactPrimitiveOfSpec)

/-- 'laws.FnExactExactQuotient', WHERE WHAT IT READS IS OF BULK AT MOST 1048576: true; the input reads as it did. -/
def fnExactExactQuotientUptoRow : OpenClaim := { program := "ytledglanaacaeab", sum := "67811a6bb61b7020613fae67571b4b76fde5e83b4e06a2f5a74596a0c1af90a9", func := "loop.example/g01358/laws.FnExactExactQuotient", spec := "fnExactExactQuotient", unfollowed := true, recurses := true, apart := false, narrowed := true }
def FnExactExactQuotientUptoSaid : Prop := fnExactExactQuotientUptoRow.holds Try.pinned (OpenSpec.upto fnExactExactQuotientSpec)

/-- 'laws.FnExactCommonWhole', WHERE WHAT IT READS IS OF BULK AT MOST 1048576: true; the input reads as it did. -/
def fnExactCommonWholeUptoRow : OpenClaim := { program := "ytledglanaacaeab", sum := "67811a6bb61b7020613fae67571b4b76fde5e83b4e06a2f5a74596a0c1af90a9", func := "loop.example/g01358/laws.FnExactCommonWhole", spec := "fnExactCommonWhole", unfollowed := true, recurses := true, apart := false, narrowed := true }
def FnExactCommonWholeUptoSaid : Prop := fnExactCommonWholeUptoRow.holds Try.pinned (OpenSpec.upto fnExactCommonWholeSpec)

/-- 'laws.FnExactSquareFree', WHERE WHAT IT READS IS OF BULK AT MOST 1048576: true; the input reads as it did. -/
def fnExactSquareFreeUptoRow : OpenClaim := { program := "ytledglanaacaeab", sum := "67811a6bb61b7020613fae67571b4b76fde5e83b4e06a2f5a74596a0c1af90a9", func := "loop.example/g01358/laws.FnExactSquareFree", spec := "fnExactSquareFree", unfollowed := true, recurses := true, apart := false, narrowed := true }
def FnExactSquareFreeUptoSaid : Prop := fnExactSquareFreeUptoRow.holds Try.pinned (OpenSpec.upto fnExactSquareFreeSpec)

/-- 'laws.FnExactResultantOf', WHERE WHAT IT READS IS OF BULK AT MOST 1048576: true; the input reads as it did. -/
def fnExactResultantOfUptoRow : OpenClaim := { program := "ytledglanaacaeab", sum := "67811a6bb61b7020613fae67571b4b76fde5e83b4e06a2f5a74596a0c1af90a9", func := "loop.example/g01358/laws.FnExactResultantOf", spec := "fnExactResultantOf", recurses := true, apart := false, narrowed := true }
def FnExactResultantOfUptoSaid : Prop := fnExactResultantOfUptoRow.holds Try.pinned (OpenSpec.upto fnExactResultantOfSpec)

/-- 'laws.FnExactDiscriminantOf', WHERE WHAT IT READS IS OF BULK AT MOST 1048576: true; the input reads as it did. -/
def fnExactDiscriminantOfUptoRow : OpenClaim := { program := "ytledglanaacaeab", sum := "67811a6bb61b7020613fae67571b4b76fde5e83b4e06a2f5a74596a0c1af90a9", func := "loop.example/g01358/laws.FnExactDiscriminantOf", spec := "fnExactDiscriminantOf", recurses := true, apart := false, narrowed := true }
def FnExactDiscriminantOfUptoSaid : Prop := fnExactDiscriminantOfUptoRow.holds Try.pinned (OpenSpec.upto fnExactDiscriminantOfSpec)

/-- 'laws.FnExactFractionRoots', WHERE WHAT IT READS IS OF BULK AT MOST 1048576: true; the input reads as it did. -/
def fnExactFractionRootsUptoRow : OpenClaim := { program := "ytledglanaacaeab", sum := "67811a6bb61b7020613fae67571b4b76fde5e83b4e06a2f5a74596a0c1af90a9", func := "loop.example/g01358/laws.FnExactFractionRoots", spec := "fnExactFractionRoots", unfollowed := true, recurses := true, apart := false, narrowed := true }
def FnExactFractionRootsUptoSaid : Prop := fnExactFractionRootsUptoRow.holds Try.pinned (OpenSpec.upto fnExactFractionRootsSpec)

/-- 'laws.FnExactCyclotomicOf', WHERE WHAT IT READS IS OF BULK AT MOST 1048576: true; the input reads as it did. -/
def fnExactCyclotomicOfUptoRow : OpenClaim := { program := "ytledglanaacaeab", sum := "67811a6bb61b7020613fae67571b4b76fde5e83b4e06a2f5a74596a0c1af90a9", func := "loop.example/g01358/laws.FnExactCyclotomicOf", spec := "fnExactCyclotomicOf", unfollowed := true, recurses := true, apart := false, narrowed := true }
def FnExactCyclotomicOfUptoSaid : Prop := fnExactCyclotomicOfUptoRow.holds Try.pinned (OpenSpec.upto fnExactCyclotomicOfSpec)

/-- 'laws.FnExactOverPrime', WHERE WHAT IT READS IS OF BULK AT MOST 1048576: true; the input reads as it did. -/
def fnExactOverPrimeUptoRow : OpenClaim := { program := "ytledglanaacaeab", sum := "67811a6bb61b7020613fae67571b4b76fde5e83b4e06a2f5a74596a0c1af90a9", func := "loop.example/g01358/laws.FnExactOverPrime", spec := "fnExactOverPrime", apart := false, narrowed := true }
def FnExactOverPrimeUptoSaid : Prop := fnExactOverPrimeUptoRow.holds Try.pinned (OpenSpec.upto fnExactOverPrimeSpec)

/-- 'laws.FnExactMulOver', WHERE WHAT IT READS IS OF BULK AT MOST 1048576: true; the input reads as it did. -/
def fnExactMulOverUptoRow : OpenClaim := { program := "ytledglanaacaeab", sum := "67811a6bb61b7020613fae67571b4b76fde5e83b4e06a2f5a74596a0c1af90a9", func := "loop.example/g01358/laws.FnExactMulOver", spec := "fnExactMulOver", apart := false, narrowed := true }
def FnExactMulOverUptoSaid : Prop := fnExactMulOverUptoRow.holds Try.pinned (OpenSpec.upto fnExactMulOverSpec)

/-- 'laws.FnExactDivideOver', WHERE WHAT IT READS IS OF BULK AT MOST 1048576: true; the input reads as it did. -/
def fnExactDivideOverUptoRow : OpenClaim := { program := "ytledglanaacaeab", sum := "67811a6bb61b7020613fae67571b4b76fde5e83b4e06a2f5a74596a0c1af90a9", func := "loop.example/g01358/laws.FnExactDivideOver", spec := "fnExactDivideOver", unfollowed := true, recurses := true, apart := false, narrowed := true }
def FnExactDivideOverUptoSaid : Prop := fnExactDivideOverUptoRow.holds Try.pinned (OpenSpec.upto fnExactDivideOverSpec)

end Rows
end Go.Proofs.Ytledglanaacaeab
