/-
  No cell of these rows narrows 'for every input' (looked for: loops, veiled, ifaces, maps, wideKeys, modest, calm, conditions, laid).
  DERIVED. THE GIVEN ROWS OF THIS SEAT. 4 by the template 'for every input the law returns true; each argument reads behind the call as it read before'; 0 by the template 'total and deterministic' (their statements: YtbbdhbamooaloabTotals.lean).
  GIVEN WITH THE SEED: the statements are not yours to turn. If you find one false, say at which input.
  Laid BY PROGRAM, IN A SANDBOX (cutbox-rows.mjs): the forced cells as the released guide's own fill.sh prints them over the translation ee88f69d5e4bfd70… (all of the seat's roots in one cut). By AI agents, Wed Nov 11 2026. No macro, syntax, notation, axiom, sorry.
-/
import Derived.Test.YtbbdhbamooaloabChecked
import GoSem.Claim
import GoSem.ClaimJoined
import GoSem.ClaimMapViews
import Derived.JoinedTies
import Derived.KernelRfl
namespace Go.Proofs.Ytbbdhbamooaloab
/- THE CELL 'sum', in the pinned program and in every row, IS THE sha256 OF THE DUMP (.gsa) THAT YtbbdhbamooaloabProg.lean LOADS. Nothing in Lean hashes anything: it is a label: what it is worth is what the hold of that sum in a sandbox is worth. -/
noncomputable def Try.pinned : Pinned := { name := "ytbbdhbamooaloab", sum := "ee88f69d5e4bfd70f87c50c6112df2ac5173d7f86b0d915cb4e4164cbf77c819", checked := Try.checked }
namespace Rows
def none {H : Type} : Left H := { results := [], args := [] }

/-- 'laws.FnExactFamilySum': WHATEVER THE INPUT: true; the input reads as it did. -/
def fnExactFamilySumSpec : ChangeSpec := { name := "fnExactFamilySum", fn := fun _ => fun
  | [d1, d2, d3] => { results := [.lit (.bool true)], args := [d1, d2, d3] }
  | _ => none }
def fnExactFamilySumRow : OpenClaim := { program := "ytbbdhbamooaloab", sum := "ee88f69d5e4bfd70f87c50c6112df2ac5173d7f86b0d915cb4e4164cbf77c819", func := "loop.example/g01358/laws.FnExactFamilySum", spec := "fnExactFamilySum", inPlace := ["math.Float64bits", "math.Float64frombits"], unfollowed := true, recurses := true, apart := false }
def FnExactFamilySumSaid : Prop := fnExactFamilySumRow.holds Try.pinned (OpenSpec.ofChange fnExactFamilySumSpec)

/-- ITS FALSE NEIGHBOUR: 'it returns false'. Refute it at one input. -/
def fnExactFamilySumWrong : ChangeSpec := { name := "fnExactFamilySum", fn := fun _ => fun
  | [d1, d2, d3] => { results := [.lit (.bool false)], args := [d1, d2, d3] }
  | _ => none }
def FnExactFamilySumWrongFalsely : Prop := fnExactFamilySumRow.holds Try.pinned (OpenSpec.ofChange fnExactFamilySumWrong)

/-- 'laws.FnExactResultantOf': WHATEVER THE INPUT: true; the input reads as it did. -/
def fnExactResultantOfSpec : ChangeSpec := { name := "fnExactResultantOf", fn := fun _ => fun
  | [d1, d2] => { results := [.lit (.bool true)], args := [d1, d2] }
  | _ => none }
def fnExactResultantOfRow : OpenClaim := { program := "ytbbdhbamooaloab", sum := "ee88f69d5e4bfd70f87c50c6112df2ac5173d7f86b0d915cb4e4164cbf77c819", func := "loop.example/g01358/laws.FnExactResultantOf", spec := "fnExactResultantOf", recurses := true, apart := false }
def FnExactResultantOfSaid : Prop := fnExactResultantOfRow.holds Try.pinned (OpenSpec.ofChange fnExactResultantOfSpec)

/-- ITS FALSE NEIGHBOUR: 'it returns false'. Refute it at one input. -/
def fnExactResultantOfWrong : ChangeSpec := { name := "fnExactResultantOf", fn := fun _ => fun
  | [d1, d2] => { results := [.lit (.bool false)], args := [d1, d2] }
  | _ => none }
def FnExactResultantOfWrongFalsely : Prop := fnExactResultantOfRow.holds Try.pinned (OpenSpec.ofChange fnExactResultantOfWrong)

/-- 'laws.FnExactDiscriminantOf': WHATEVER THE INPUT: true; the input reads as it did. -/
def fnExactDiscriminantOfSpec : ChangeSpec := { name := "fnExactDiscriminantOf", fn := fun _ => fun
  | [d] => { results := [.lit (.bool true)], args := [d] }
  | _ => none }
def fnExactDiscriminantOfRow : OpenClaim := { program := "ytbbdhbamooaloab", sum := "ee88f69d5e4bfd70f87c50c6112df2ac5173d7f86b0d915cb4e4164cbf77c819", func := "loop.example/g01358/laws.FnExactDiscriminantOf", spec := "fnExactDiscriminantOf", recurses := true, apart := false }
def FnExactDiscriminantOfSaid : Prop := fnExactDiscriminantOfRow.holds Try.pinned (OpenSpec.ofChange fnExactDiscriminantOfSpec)

/-- ITS FALSE NEIGHBOUR: 'it returns false'. Refute it at one input. -/
def fnExactDiscriminantOfWrong : ChangeSpec := { name := "fnExactDiscriminantOf", fn := fun _ => fun
  | [d] => { results := [.lit (.bool false)], args := [d] }
  | _ => none }
def FnExactDiscriminantOfWrongFalsely : Prop := fnExactDiscriminantOfRow.holds Try.pinned (OpenSpec.ofChange fnExactDiscriminantOfWrong)

/-- 'laws.FnExactRatioRoots': WHATEVER THE INPUT: true; the input reads as it did. -/
def fnExactRatioRootsSpec : ChangeSpec := { name := "fnExactRatioRoots", fn := fun _ => fun
  | [d] => { results := [.lit (.bool true)], args := [d] }
  | _ => none }
def fnExactRatioRootsRow : OpenClaim := { program := "ytbbdhbamooaloab", sum := "ee88f69d5e4bfd70f87c50c6112df2ac5173d7f86b0d915cb4e4164cbf77c819", func := "loop.example/g01358/laws.FnExactRatioRoots", spec := "fnExactRatioRoots", unfollowed := true, recurses := true, apart := false }
def FnExactRatioRootsSaid : Prop := fnExactRatioRootsRow.holds Try.pinned (OpenSpec.ofChange fnExactRatioRootsSpec)

/-- ITS FALSE NEIGHBOUR: 'it returns false'. Refute it at one input. -/
def fnExactRatioRootsWrong : ChangeSpec := { name := "fnExactRatioRoots", fn := fun _ => fun
  | [d] => { results := [.lit (.bool false)], args := [d] }
  | _ => none }
def FnExactRatioRootsWrongFalsely : Prop := fnExactRatioRootsRow.holds Try.pinned (OpenSpec.ofChange fnExactRatioRootsWrong)

/- THE SECOND FORM. 'bulk': how many values and letters a reading holds, each counted each time it is reached (what is shared counts as often as it is met; a slice's spare places count too). A statement '..UptoSaid' is the law's where the arguments, and the package variables that the reading takes, are together of bulk at most 1048576: NARROWER than '..Said'. Prove '..Said' where nothing that the law and all that it calls make is longer than what came in: it says more and counts as full. Else prove '..UptoSaid'. A law counts once. -/
mutual
def uptoBulk {H : Type} : DataW H → Nat
  | .lit (.string bytes) => bytes.length + 1
  | .lit _ => 1
  | .nil => 1
  | .ptr d => uptoBulk d + 1
  | .slice elems spare => uptoBulkAll elems + uptoBulkAll spare + 1
  | .agg parts => uptoBulkAll parts + 1
  | .iface _ d => uptoBulk d + 1
  | .map entries => uptoBulkEntries entries + 1
  | .held _ => 1
def uptoBulkAll {H : Type} : List (DataW H) → Nat
  | [] => 0
  | d :: r => uptoBulk d + uptoBulkAll r
def uptoBulkEntries {H : Type} : List (Lit × DataW H) → Nat
  | [] => 0
  | x :: r => uptoBulkEntry x + uptoBulkEntries r
def uptoBulkEntry {H : Type} : Lit × DataW H → Nat
  | (.string bytes, d) => bytes.length + uptoBulk d + 1
  | (_, d) => uptoBulk d + 1
 end
def uptoSmall : (H : Type) → List (DataW H) → Bool := fun _ ds => decide (uptoBulkAll ds ≤ 1048576)
def OpenSpec.upto (s : _root_.Go.ChangeSpec) : _root_.Go.OpenSpec := { _root_.Go.OpenSpec.ofChange s with cond := some uptoSmall }

/-- 'laws.FnExactFamilySum', WHERE WHAT IT READS IS OF BULK AT MOST 1048576: true; the input reads as it did. -/
def fnExactFamilySumUptoRow : OpenClaim := { program := "ytbbdhbamooaloab", sum := "ee88f69d5e4bfd70f87c50c6112df2ac5173d7f86b0d915cb4e4164cbf77c819", func := "loop.example/g01358/laws.FnExactFamilySum", spec := "fnExactFamilySum", inPlace := ["math.Float64bits", "math.Float64frombits"], unfollowed := true, recurses := true, apart := false, narrowed := true }
def FnExactFamilySumUptoSaid : Prop := fnExactFamilySumUptoRow.holds Try.pinned (OpenSpec.upto fnExactFamilySumSpec)

/-- 'laws.FnExactResultantOf', WHERE WHAT IT READS IS OF BULK AT MOST 1048576: true; the input reads as it did. -/
def fnExactResultantOfUptoRow : OpenClaim := { program := "ytbbdhbamooaloab", sum := "ee88f69d5e4bfd70f87c50c6112df2ac5173d7f86b0d915cb4e4164cbf77c819", func := "loop.example/g01358/laws.FnExactResultantOf", spec := "fnExactResultantOf", recurses := true, apart := false, narrowed := true }
def FnExactResultantOfUptoSaid : Prop := fnExactResultantOfUptoRow.holds Try.pinned (OpenSpec.upto fnExactResultantOfSpec)

/-- 'laws.FnExactDiscriminantOf', WHERE WHAT IT READS IS OF BULK AT MOST 1048576: true; the input reads as it did. -/
def fnExactDiscriminantOfUptoRow : OpenClaim := { program := "ytbbdhbamooaloab", sum := "ee88f69d5e4bfd70f87c50c6112df2ac5173d7f86b0d915cb4e4164cbf77c819", func := "loop.example/g01358/laws.FnExactDiscriminantOf", spec := "fnExactDiscriminantOf", recurses := true, apart := false, narrowed := true }
def FnExactDiscriminantOfUptoSaid : Prop := fnExactDiscriminantOfUptoRow.holds Try.pinned (OpenSpec.upto fnExactDiscriminantOfSpec)

/-- 'laws.FnExactRatioRoots', WHERE WHAT IT READS IS OF BULK AT MOST 1048576: true; the input reads as it did. -/
def fnExactRatioRootsUptoRow : OpenClaim := { program := "ytbbdhbamooaloab", sum := "ee88f69d5e4bfd70f87c50c6112df2ac5173d7f86b0d915cb4e4164cbf77c819", func := "loop.example/g01358/laws.FnExactRatioRoots", spec := "fnExactRatioRoots", unfollowed := true, recurses := true, apart := false, narrowed := true }
def FnExactRatioRootsUptoSaid : Prop := fnExactRatioRootsUptoRow.holds Try.pinned (OpenSpec.upto fnExactRatioRootsSpec)

end Rows
end Go.Proofs.Ytbbdhbamooaloab
