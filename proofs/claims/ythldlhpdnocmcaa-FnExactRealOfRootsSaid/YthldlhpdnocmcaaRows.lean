/-
  No cell of these rows narrows 'for every input' (looked for: loops, veiled, ifaces, maps, wideKeys, modest, calm, conditions, laid).
  DERIVED. THE GIVEN ROWS OF THIS SEAT. 12 by the template 'for every input the law returns true; each argument reads behind the call as it read before'; 0 by the template 'total and deterministic' (their statements: YthldlhpdnocmcaaTotals.lean).
  GIVEN WITH THE SEED: the statements are not yours to turn. If you find one false, say at which input.
  Laid BY PROGRAM, IN A SANDBOX (cutbox-rows.mjs): the forced cells as the released guide's own fill.sh prints them over the translation 03782fa39aec781f… (all of the seat's roots in one cut). By AI agents, Wed Nov 11 2026. No macro, syntax, notation, axiom, sorry.
-/
import Derived.Test.YthldlhpdnocmcaaChecked
import GoSem.Claim
import GoSem.ClaimJoined
import GoSem.ClaimMapViews
import Derived.JoinedTies
import Derived.KernelRfl
namespace Go.Proofs.Ythldlhpdnocmcaa
/- THE CELL 'sum', in the pinned program and in every row, IS THE sha256 OF THE DUMP (.gsa) THAT YthldlhpdnocmcaaProg.lean LOADS. Nothing in Lean hashes anything: it is a label: what it is worth is what the hold of that sum in a sandbox is worth. -/
noncomputable def Try.pinned : Pinned := { name := "ythldlhpdnocmcaa", sum := "03782fa39aec781f90f0a2285eb4609892e0339c4b9f1b988ff13114d49a8937", checked := Try.checked }
namespace Rows
def none {H : Type} : Left H := { results := [], args := [] }

/-- 'laws.FnExactExactQuotient': WHATEVER THE INPUT: true; the input reads as it did. -/
def fnExactExactQuotientSpec : ChangeSpec := { name := "fnExactExactQuotient", fn := fun _ => fun
  | [d1, d2] => { results := [.lit (.bool true)], args := [d1, d2] }
  | _ => none }
def fnExactExactQuotientRow : OpenClaim := { program := "ythldlhpdnocmcaa", sum := "03782fa39aec781f90f0a2285eb4609892e0339c4b9f1b988ff13114d49a8937", func := "loop.example/g01358/laws.FnExactExactQuotient", spec := "fnExactExactQuotient", unfollowed := true, recurses := true, apart := false }
def FnExactExactQuotientSaid : Prop := fnExactExactQuotientRow.holds Try.pinned (OpenSpec.ofChange fnExactExactQuotientSpec)

/-- ITS FALSE NEIGHBOUR: 'it returns false'. Refute it at one input. -/
def fnExactExactQuotientWrong : ChangeSpec := { name := "fnExactExactQuotient", fn := fun _ => fun
  | [d1, d2] => { results := [.lit (.bool false)], args := [d1, d2] }
  | _ => none }
def FnExactExactQuotientWrongFalsely : Prop := fnExactExactQuotientRow.holds Try.pinned (OpenSpec.ofChange fnExactExactQuotientWrong)

/-- 'laws.FnExactCommonWhole': WHATEVER THE INPUT: true; the input reads as it did. -/
def fnExactCommonWholeSpec : ChangeSpec := { name := "fnExactCommonWhole", fn := fun _ => fun
  | [d1, d2] => { results := [.lit (.bool true)], args := [d1, d2] }
  | _ => none }
def fnExactCommonWholeRow : OpenClaim := { program := "ythldlhpdnocmcaa", sum := "03782fa39aec781f90f0a2285eb4609892e0339c4b9f1b988ff13114d49a8937", func := "loop.example/g01358/laws.FnExactCommonWhole", spec := "fnExactCommonWhole", unfollowed := true, recurses := true, apart := false }
def FnExactCommonWholeSaid : Prop := fnExactCommonWholeRow.holds Try.pinned (OpenSpec.ofChange fnExactCommonWholeSpec)

/-- ITS FALSE NEIGHBOUR: 'it returns false'. Refute it at one input. -/
def fnExactCommonWholeWrong : ChangeSpec := { name := "fnExactCommonWhole", fn := fun _ => fun
  | [d1, d2] => { results := [.lit (.bool false)], args := [d1, d2] }
  | _ => none }
def FnExactCommonWholeWrongFalsely : Prop := fnExactCommonWholeRow.holds Try.pinned (OpenSpec.ofChange fnExactCommonWholeWrong)

/-- 'laws.FnExactSquareFree': WHATEVER THE INPUT: true; the input reads as it did. -/
def fnExactSquareFreeSpec : ChangeSpec := { name := "fnExactSquareFree", fn := fun _ => fun
  | [d] => { results := [.lit (.bool true)], args := [d] }
  | _ => none }
def fnExactSquareFreeRow : OpenClaim := { program := "ythldlhpdnocmcaa", sum := "03782fa39aec781f90f0a2285eb4609892e0339c4b9f1b988ff13114d49a8937", func := "loop.example/g01358/laws.FnExactSquareFree", spec := "fnExactSquareFree", unfollowed := true, recurses := true, apart := false }
def FnExactSquareFreeSaid : Prop := fnExactSquareFreeRow.holds Try.pinned (OpenSpec.ofChange fnExactSquareFreeSpec)

/-- ITS FALSE NEIGHBOUR: 'it returns false'. Refute it at one input. -/
def fnExactSquareFreeWrong : ChangeSpec := { name := "fnExactSquareFree", fn := fun _ => fun
  | [d] => { results := [.lit (.bool false)], args := [d] }
  | _ => none }
def FnExactSquareFreeWrongFalsely : Prop := fnExactSquareFreeRow.holds Try.pinned (OpenSpec.ofChange fnExactSquareFreeWrong)

/-- 'laws.FnExactCyclotomicOf': WHATEVER THE INPUT: true; the input reads as it did. -/
def fnExactCyclotomicOfSpec : ChangeSpec := { name := "fnExactCyclotomicOf", fn := fun _ => fun
  | [d] => { results := [.lit (.bool true)], args := [d] }
  | _ => none }
def fnExactCyclotomicOfRow : OpenClaim := { program := "ythldlhpdnocmcaa", sum := "03782fa39aec781f90f0a2285eb4609892e0339c4b9f1b988ff13114d49a8937", func := "loop.example/g01358/laws.FnExactCyclotomicOf", spec := "fnExactCyclotomicOf", unfollowed := true, recurses := true, apart := false }
def FnExactCyclotomicOfSaid : Prop := fnExactCyclotomicOfRow.holds Try.pinned (OpenSpec.ofChange fnExactCyclotomicOfSpec)

/-- ITS FALSE NEIGHBOUR: 'it returns false'. Refute it at one input. -/
def fnExactCyclotomicOfWrong : ChangeSpec := { name := "fnExactCyclotomicOf", fn := fun _ => fun
  | [d] => { results := [.lit (.bool false)], args := [d] }
  | _ => none }
def FnExactCyclotomicOfWrongFalsely : Prop := fnExactCyclotomicOfRow.holds Try.pinned (OpenSpec.ofChange fnExactCyclotomicOfWrong)

/-- 'laws.FnExactDivideOver': WHATEVER THE INPUT: true; the input reads as it did. -/
def fnExactDivideOverSpec : ChangeSpec := { name := "fnExactDivideOver", fn := fun _ => fun
  | [d1, d2, d3] => { results := [.lit (.bool true)], args := [d1, d2, d3] }
  | _ => none }
def fnExactDivideOverRow : OpenClaim := { program := "ythldlhpdnocmcaa", sum := "03782fa39aec781f90f0a2285eb4609892e0339c4b9f1b988ff13114d49a8937", func := "loop.example/g01358/laws.FnExactDivideOver", spec := "fnExactDivideOver", unfollowed := true, recurses := true, apart := false }
def FnExactDivideOverSaid : Prop := fnExactDivideOverRow.holds Try.pinned (OpenSpec.ofChange fnExactDivideOverSpec)

/-- ITS FALSE NEIGHBOUR: 'it returns false'. Refute it at one input. -/
def fnExactDivideOverWrong : ChangeSpec := { name := "fnExactDivideOver", fn := fun _ => fun
  | [d1, d2, d3] => { results := [.lit (.bool false)], args := [d1, d2, d3] }
  | _ => none }
def FnExactDivideOverWrongFalsely : Prop := fnExactDivideOverRow.holds Try.pinned (OpenSpec.ofChange fnExactDivideOverWrong)

/-- 'laws.FnExactCommonOver': WHATEVER THE INPUT: true; the input reads as it did. -/
def fnExactCommonOverSpec : ChangeSpec := { name := "fnExactCommonOver", fn := fun _ => fun
  | [d1, d2, d3] => { results := [.lit (.bool true)], args := [d1, d2, d3] }
  | _ => none }
def fnExactCommonOverRow : OpenClaim := { program := "ythldlhpdnocmcaa", sum := "03782fa39aec781f90f0a2285eb4609892e0339c4b9f1b988ff13114d49a8937", func := "loop.example/g01358/laws.FnExactCommonOver", spec := "fnExactCommonOver", unfollowed := true, recurses := true, apart := false }
def FnExactCommonOverSaid : Prop := fnExactCommonOverRow.holds Try.pinned (OpenSpec.ofChange fnExactCommonOverSpec)

/-- ITS FALSE NEIGHBOUR: 'it returns false'. Refute it at one input. -/
def fnExactCommonOverWrong : ChangeSpec := { name := "fnExactCommonOver", fn := fun _ => fun
  | [d1, d2, d3] => { results := [.lit (.bool false)], args := [d1, d2, d3] }
  | _ => none }
def FnExactCommonOverWrongFalsely : Prop := fnExactCommonOverRow.holds Try.pinned (OpenSpec.ofChange fnExactCommonOverWrong)

/-- 'laws.FnExactPowerOver': WHATEVER THE INPUT: true; the input reads as it did. -/
def fnExactPowerOverSpec : ChangeSpec := { name := "fnExactPowerOver", fn := fun _ => fun
  | [d1, d2, d3, d4] => { results := [.lit (.bool true)], args := [d1, d2, d3, d4] }
  | _ => none }
def fnExactPowerOverRow : OpenClaim := { program := "ythldlhpdnocmcaa", sum := "03782fa39aec781f90f0a2285eb4609892e0339c4b9f1b988ff13114d49a8937", func := "loop.example/g01358/laws.FnExactPowerOver", spec := "fnExactPowerOver", unfollowed := true, recurses := true, apart := false }
def FnExactPowerOverSaid : Prop := fnExactPowerOverRow.holds Try.pinned (OpenSpec.ofChange fnExactPowerOverSpec)

/-- ITS FALSE NEIGHBOUR: 'it returns false'. Refute it at one input. -/
def fnExactPowerOverWrong : ChangeSpec := { name := "fnExactPowerOver", fn := fun _ => fun
  | [d1, d2, d3, d4] => { results := [.lit (.bool false)], args := [d1, d2, d3, d4] }
  | _ => none }
def FnExactPowerOverWrongFalsely : Prop := fnExactPowerOverRow.holds Try.pinned (OpenSpec.ofChange fnExactPowerOverWrong)

/-- 'laws.FnExactRootsOver': WHATEVER THE INPUT: true; the input reads as it did. -/
def fnExactRootsOverSpec : ChangeSpec := { name := "fnExactRootsOver", fn := fun _ => fun
  | [d1, d2] => { results := [.lit (.bool true)], args := [d1, d2] }
  | _ => none }
def fnExactRootsOverRow : OpenClaim := { program := "ythldlhpdnocmcaa", sum := "03782fa39aec781f90f0a2285eb4609892e0339c4b9f1b988ff13114d49a8937", func := "loop.example/g01358/laws.FnExactRootsOver", spec := "fnExactRootsOver", unfollowed := true, recurses := true, apart := false }
def FnExactRootsOverSaid : Prop := fnExactRootsOverRow.holds Try.pinned (OpenSpec.ofChange fnExactRootsOverSpec)

/-- ITS FALSE NEIGHBOUR: 'it returns false'. Refute it at one input. -/
def fnExactRootsOverWrong : ChangeSpec := { name := "fnExactRootsOver", fn := fun _ => fun
  | [d1, d2] => { results := [.lit (.bool false)], args := [d1, d2] }
  | _ => none }
def FnExactRootsOverWrongFalsely : Prop := fnExactRootsOverRow.holds Try.pinned (OpenSpec.ofChange fnExactRootsOverWrong)

/-- 'laws.FnExactLiftPair': WHATEVER THE INPUT: true; the input reads as it did. -/
def fnExactLiftPairSpec : ChangeSpec := { name := "fnExactLiftPair", fn := fun _ => fun
  | [d1, d2, d3, d4] => { results := [.lit (.bool true)], args := [d1, d2, d3, d4] }
  | _ => none }
def fnExactLiftPairRow : OpenClaim := { program := "ythldlhpdnocmcaa", sum := "03782fa39aec781f90f0a2285eb4609892e0339c4b9f1b988ff13114d49a8937", func := "loop.example/g01358/laws.FnExactLiftPair", spec := "fnExactLiftPair", unfollowed := true, recurses := true, apart := false }
def FnExactLiftPairSaid : Prop := fnExactLiftPairRow.holds Try.pinned (OpenSpec.ofChange fnExactLiftPairSpec)

/-- ITS FALSE NEIGHBOUR: 'it returns false'. Refute it at one input. -/
def fnExactLiftPairWrong : ChangeSpec := { name := "fnExactLiftPair", fn := fun _ => fun
  | [d1, d2, d3, d4] => { results := [.lit (.bool false)], args := [d1, d2, d3, d4] }
  | _ => none }
def FnExactLiftPairWrongFalsely : Prop := fnExactLiftPairRow.holds Try.pinned (OpenSpec.ofChange fnExactLiftPairWrong)

/-- 'laws.FnExactRealOfRoots': WHATEVER THE INPUT: true; the input reads as it did. -/
def fnExactRealOfRootsSpec : ChangeSpec := { name := "fnExactRealOfRoots", fn := fun _ => fun
  | [d] => { results := [.lit (.bool true)], args := [d] }
  | _ => none }
def fnExactRealOfRootsRow : OpenClaim := { program := "ythldlhpdnocmcaa", sum := "03782fa39aec781f90f0a2285eb4609892e0339c4b9f1b988ff13114d49a8937", func := "loop.example/g01358/laws.FnExactRealOfRoots", spec := "fnExactRealOfRoots", apart := false }
def FnExactRealOfRootsSaid : Prop := fnExactRealOfRootsRow.holds Try.pinned (OpenSpec.ofChange fnExactRealOfRootsSpec)

/-- ITS FALSE NEIGHBOUR: 'it returns false'. Refute it at one input. -/
def fnExactRealOfRootsWrong : ChangeSpec := { name := "fnExactRealOfRoots", fn := fun _ => fun
  | [d] => { results := [.lit (.bool false)], args := [d] }
  | _ => none }
def FnExactRealOfRootsWrongFalsely : Prop := fnExactRealOfRootsRow.holds Try.pinned (OpenSpec.ofChange fnExactRealOfRootsWrong)

/-- 'laws.FnExactSignAt': WHATEVER THE INPUT: true; the input reads as it did. -/
def fnExactSignAtSpec : ChangeSpec := { name := "fnExactSignAt", fn := fun _ => fun
  | [d1, d2, d3] => { results := [.lit (.bool true)], args := [d1, d2, d3] }
  | _ => none }
def fnExactSignAtRow : OpenClaim := { program := "ythldlhpdnocmcaa", sum := "03782fa39aec781f90f0a2285eb4609892e0339c4b9f1b988ff13114d49a8937", func := "loop.example/g01358/laws.FnExactSignAt", spec := "fnExactSignAt", inPlace := ["math/bits.Sub64", "math/bits.Add64"], unfollowed := true, recurses := true, apart := false }
def FnExactSignAtSaid : Prop := fnExactSignAtRow.holds Try.pinned (OpenSpec.ofChange fnExactSignAtSpec)

/-- ITS FALSE NEIGHBOUR: 'it returns false'. Refute it at one input. -/
def fnExactSignAtWrong : ChangeSpec := { name := "fnExactSignAt", fn := fun _ => fun
  | [d1, d2, d3] => { results := [.lit (.bool false)], args := [d1, d2, d3] }
  | _ => none }
def FnExactSignAtWrongFalsely : Prop := fnExactSignAtRow.holds Try.pinned (OpenSpec.ofChange fnExactSignAtWrong)

/-- 'laws.FnExactSignChanges': WHATEVER THE INPUT: true; the input reads as it did. -/
def fnExactSignChangesSpec : ChangeSpec := { name := "fnExactSignChanges", fn := fun _ => fun
  | [d] => { results := [.lit (.bool true)], args := [d] }
  | _ => none }
def fnExactSignChangesRow : OpenClaim := { program := "ythldlhpdnocmcaa", sum := "03782fa39aec781f90f0a2285eb4609892e0339c4b9f1b988ff13114d49a8937", func := "loop.example/g01358/laws.FnExactSignChanges", spec := "fnExactSignChanges", apart := false }
def FnExactSignChangesSaid : Prop := fnExactSignChangesRow.holds Try.pinned (OpenSpec.ofChange fnExactSignChangesSpec)

/-- ITS FALSE NEIGHBOUR: 'it returns false'. Refute it at one input. -/
def fnExactSignChangesWrong : ChangeSpec := { name := "fnExactSignChanges", fn := fun _ => fun
  | [d] => { results := [.lit (.bool false)], args := [d] }
  | _ => none }
def FnExactSignChangesWrongFalsely : Prop := fnExactSignChangesRow.holds Try.pinned (OpenSpec.ofChange fnExactSignChangesWrong)

/- THE SECOND FORM. 'bulk': how many values and letters a reading holds, each counted each time it is reached (what is shared counts as often as it is met; a slice's spare places count too). A statement '..UptoSaid' is the law's where the arguments, and the package variables that the reading takes, are together of bulk at most 1048576: NARROWER than '..Said'. Prove '..Said' where nothing that the law and all that it calls make is longer than what came in: it says more and counts as full. Else prove '..UptoSaid'. A law counts once. -/
mutual
def uptoBulk {H : Type} : DataW H → Nat
  | .lit (.string bytes) => bytes.length + 1
  | .lit _ => 1
  | .nil => 1
  | .ptr d => uptoBulk d + 1
  | .slice elems spare => uptoBulkAll elems + uptoBulkAll spare + 1
  | .agg parts => uptoBulkAll parts + 1
  | .iface _ d => uptoBulk d + 1
  | .map entries => uptoBulkEntries entries + 1
  | .held _ => 1
def uptoBulkAll {H : Type} : List (DataW H) → Nat
  | [] => 0
  | d :: r => uptoBulk d + uptoBulkAll r
def uptoBulkEntries {H : Type} : List (Lit × DataW H) → Nat
  | [] => 0
  | x :: r => uptoBulkEntry x + uptoBulkEntries r
def uptoBulkEntry {H : Type} : Lit × DataW H → Nat
  | (.string bytes, d) => bytes.length + uptoBulk d + 1
  | (_, d) => uptoBulk d + 1
 end
def uptoSmall : (H : Type) → List (DataW H) → Bool := fun _ ds => decide (uptoBulkAll ds ≤ 1048576)
def OpenSpec.upto (s : _root_.Go.ChangeSpec) : _root_.Go.OpenSpec := { _root_.Go.OpenSpec.ofChange s with cond := some uptoSmall }

/-- 'laws.FnExactExactQuotient', WHERE WHAT IT READS IS OF BULK AT MOST 1048576: true; the input reads as it did. -/
def fnExactExactQuotientUptoRow : OpenClaim := { program := "ythldlhpdnocmcaa", sum := "03782fa39aec781f90f0a2285eb4609892e0339c4b9f1b988ff13114d49a8937", func := "loop.example/g01358/laws.FnExactExactQuotient", spec := "fnExactExactQuotient", unfollowed := true, recurses := true, apart := false, narrowed := true }
def FnExactExactQuotientUptoSaid : Prop := fnExactExactQuotientUptoRow.holds Try.pinned (OpenSpec.upto fnExactExactQuotientSpec)

/-- 'laws.FnExactCommonWhole', WHERE WHAT IT READS IS OF BULK AT MOST 1048576: true; the input reads as it did. -/
def fnExactCommonWholeUptoRow : OpenClaim := { program := "ythldlhpdnocmcaa", sum := "03782fa39aec781f90f0a2285eb4609892e0339c4b9f1b988ff13114d49a8937", func := "loop.example/g01358/laws.FnExactCommonWhole", spec := "fnExactCommonWhole", unfollowed := true, recurses := true, apart := false, narrowed := true }
def FnExactCommonWholeUptoSaid : Prop := fnExactCommonWholeUptoRow.holds Try.pinned (OpenSpec.upto fnExactCommonWholeSpec)

/-- 'laws.FnExactSquareFree', WHERE WHAT IT READS IS OF BULK AT MOST 1048576: true; the input reads as it did. -/
def fnExactSquareFreeUptoRow : OpenClaim := { program := "ythldlhpdnocmcaa", sum := "03782fa39aec781f90f0a2285eb4609892e0339c4b9f1b988ff13114d49a8937", func := "loop.example/g01358/laws.FnExactSquareFree", spec := "fnExactSquareFree", unfollowed := true, recurses := true, apart := false, narrowed := true }
def FnExactSquareFreeUptoSaid : Prop := fnExactSquareFreeUptoRow.holds Try.pinned (OpenSpec.upto fnExactSquareFreeSpec)

/-- 'laws.FnExactCyclotomicOf', WHERE WHAT IT READS IS OF BULK AT MOST 1048576: true; the input reads as it did. -/
def fnExactCyclotomicOfUptoRow : OpenClaim := { program := "ythldlhpdnocmcaa", sum := "03782fa39aec781f90f0a2285eb4609892e0339c4b9f1b988ff13114d49a8937", func := "loop.example/g01358/laws.FnExactCyclotomicOf", spec := "fnExactCyclotomicOf", unfollowed := true, recurses := true, apart := false, narrowed := true }
def FnExactCyclotomicOfUptoSaid : Prop := fnExactCyclotomicOfUptoRow.holds Try.pinned (OpenSpec.upto fnExactCyclotomicOfSpec)

/-- 'laws.FnExactDivideOver', WHERE WHAT IT READS IS OF BULK AT MOST 1048576: true; the input reads as it did. -/
def fnExactDivideOverUptoRow : OpenClaim := { program := "ythldlhpdnocmcaa", sum := "03782fa39aec781f90f0a2285eb4609892e0339c4b9f1b988ff13114d49a8937", func := "loop.example/g01358/laws.FnExactDivideOver", spec := "fnExactDivideOver", unfollowed := true, recurses := true, apart := false, narrowed := true }
def FnExactDivideOverUptoSaid : Prop := fnExactDivideOverUptoRow.holds Try.pinned (OpenSpec.upto fnExactDivideOverSpec)

/-- 'laws.FnExactCommonOver', WHERE WHAT IT READS IS OF BULK AT MOST 1048576: true; the input reads as it did. -/
def fnExactCommonOverUptoRow : OpenClaim := { program := "ythldlhpdnocmcaa", sum := "03782fa39aec781f90f0a2285eb4609892e0339c4b9f1b988ff13114d49a8937", func := "loop.example/g01358/laws.FnExactCommonOver", spec := "fnExactCommonOver", unfollowed := true, recurses := true, apart := false, narrowed := true }
def FnExactCommonOverUptoSaid : Prop := fnExactCommonOverUptoRow.holds Try.pinned (OpenSpec.upto fnExactCommonOverSpec)

/-- 'laws.FnExactPowerOver', WHERE WHAT IT READS IS OF BULK AT MOST 1048576: true; the input reads as it did. -/
def fnExactPowerOverUptoRow : OpenClaim := { program := "ythldlhpdnocmcaa", sum := "03782fa39aec781f90f0a2285eb4609892e0339c4b9f1b988ff13114d49a8937", func := "loop.example/g01358/laws.FnExactPowerOver", spec := "fnExactPowerOver", unfollowed := true, recurses := true, apart := false, narrowed := true }
def FnExactPowerOverUptoSaid : Prop := fnExactPowerOverUptoRow.holds Try.pinned (OpenSpec.upto fnExactPowerOverSpec)

/-- 'laws.FnExactRootsOver', WHERE WHAT IT READS IS OF BULK AT MOST 1048576: true; the input reads as it did. -/
def fnExactRootsOverUptoRow : OpenClaim := { program := "ythldlhpdnocmcaa", sum := "03782fa39aec781f90f0a2285eb4609892e0339c4b9f1b988ff13114d49a8937", func := "loop.example/g01358/laws.FnExactRootsOver", spec := "fnExactRootsOver", unfollowed := true, recurses := true, apart := false, narrowed := true }
def FnExactRootsOverUptoSaid : Prop := fnExactRootsOverUptoRow.holds Try.pinned (OpenSpec.upto fnExactRootsOverSpec)

/-- 'laws.FnExactLiftPair', WHERE WHAT IT READS IS OF BULK AT MOST 1048576: true; the input reads as it did. -/
def fnExactLiftPairUptoRow : OpenClaim := { program := "ythldlhpdnocmcaa", sum := "03782fa39aec781f90f0a2285eb4609892e0339c4b9f1b988ff13114d49a8937", func := "loop.example/g01358/laws.FnExactLiftPair", spec := "fnExactLiftPair", unfollowed := true, recurses := true, apart := false, narrowed := true }
def FnExactLiftPairUptoSaid : Prop := fnExactLiftPairUptoRow.holds Try.pinned (OpenSpec.upto fnExactLiftPairSpec)

/-- 'laws.FnExactRealOfRoots', WHERE WHAT IT READS IS OF BULK AT MOST 1048576: true; the input reads as it did. -/
def fnExactRealOfRootsUptoRow : OpenClaim := { program := "ythldlhpdnocmcaa", sum := "03782fa39aec781f90f0a2285eb4609892e0339c4b9f1b988ff13114d49a8937", func := "loop.example/g01358/laws.FnExactRealOfRoots", spec := "fnExactRealOfRoots", apart := false, narrowed := true }
def FnExactRealOfRootsUptoSaid : Prop := fnExactRealOfRootsUptoRow.holds Try.pinned (OpenSpec.upto fnExactRealOfRootsSpec)

/-- 'laws.FnExactSignAt', WHERE WHAT IT READS IS OF BULK AT MOST 1048576: true; the input reads as it did. -/
def fnExactSignAtUptoRow : OpenClaim := { program := "ythldlhpdnocmcaa", sum := "03782fa39aec781f90f0a2285eb4609892e0339c4b9f1b988ff13114d49a8937", func := "loop.example/g01358/laws.FnExactSignAt", spec := "fnExactSignAt", inPlace := ["math/bits.Sub64", "math/bits.Add64"], unfollowed := true, recurses := true, apart := false, narrowed := true }
def FnExactSignAtUptoSaid : Prop := fnExactSignAtUptoRow.holds Try.pinned (OpenSpec.upto fnExactSignAtSpec)

/-- 'laws.FnExactSignChanges', WHERE WHAT IT READS IS OF BULK AT MOST 1048576: true; the input reads as it did. -/
def fnExactSignChangesUptoRow : OpenClaim := { program := "ythldlhpdnocmcaa", sum := "03782fa39aec781f90f0a2285eb4609892e0339c4b9f1b988ff13114d49a8937", func := "loop.example/g01358/laws.FnExactSignChanges", spec := "fnExactSignChanges", apart := false, narrowed := true }
def FnExactSignChangesUptoSaid : Prop := fnExactSignChangesUptoRow.holds Try.pinned (OpenSpec.upto fnExactSignChangesSpec)

end Rows
end Go.Proofs.Ythldlhpdnocmcaa
