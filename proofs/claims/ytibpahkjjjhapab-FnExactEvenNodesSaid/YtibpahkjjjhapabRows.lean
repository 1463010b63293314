/-
  No cell of these rows narrows 'for every input' (looked for: loops, veiled, ifaces, maps, wideKeys, modest, calm, conditions, laid).
  DERIVED. THE GIVEN ROWS OF THIS SEAT. 4 by the template 'for every input the law returns true; each argument reads behind the call as it read before'; 0 by the template 'total and deterministic' (their statements: YtibpahkjjjhapabTotals.lean).
  GIVEN WITH THE SEED: the statements are not yours to turn. If you find one false, say at which input.
  Laid BY PROGRAM, IN A SANDBOX (cutbox-rows.mjs): the forced cells as the released guide's own fill.sh prints them over the translation 71714e5f70a02bcb… (all of the seat's roots in one cut). By AI agents, Wed Nov 11 2026. No macro, syntax, notation, axiom, sorry.
-/
import Derived.Test.YtibpahkjjjhapabChecked
import GoSem.Claim
import GoSem.ClaimJoined
import GoSem.ClaimMapViews
import Derived.JoinedTies
import Derived.KernelRfl
namespace Go.Proofs.Ytibpahkjjjhapab
/- THE CELL 'sum', in the pinned program and in every row, IS THE sha256 OF THE DUMP (.gsa) THAT YtibpahkjjjhapabProg.lean LOADS. Nothing in Lean hashes anything: it is a label: what it is worth is what the hold of that sum in a sandbox is worth. -/
noncomputable def Try.pinned : Pinned := { name := "ytibpahkjjjhapab", sum := "71714e5f70a02bcb0f33398a42bc49604a0a903edb6b004c2a2044bfe2ec9c3b", checked := Try.checked }
namespace Rows
def none {H : Type} : Left H := { results := [], args := [] }

/-- 'laws.FnExactRoundPoints': WHATEVER THE INPUT: true; the input reads as it did. -/
def fnExactRoundPointsSpec : ChangeSpec := { name := "fnExactRoundPoints", fn := fun _ => fun
  | [d] => { results := [.lit (.bool true)], args := [d] }
  | _ => none }
def fnExactRoundPointsRow : OpenClaim := { program := "ytibpahkjjjhapab", sum := "71714e5f70a02bcb0f33398a42bc49604a0a903edb6b004c2a2044bfe2ec9c3b", func := "loop.example/g01358/laws.FnExactRoundPoints", spec := "fnExactRoundPoints", inPlace := ["math.Float64frombits", "math.Float64bits"], apart := false }
def FnExactRoundPointsSaid : Prop := fnExactRoundPointsRow.holds Try.pinned (OpenSpec.ofChange fnExactRoundPointsSpec)

/-- ITS FALSE NEIGHBOUR: 'it returns false'. Refute it at one input. -/
def fnExactRoundPointsWrong : ChangeSpec := { name := "fnExactRoundPoints", fn := fun _ => fun
  | [d] => { results := [.lit (.bool false)], args := [d] }
  | _ => none }
def FnExactRoundPointsWrongFalsely : Prop := fnExactRoundPointsRow.holds Try.pinned (OpenSpec.ofChange fnExactRoundPointsWrong)

/-- 'laws.FnExactRoundFit': WHATEVER THE INPUT: true; the input reads as it did. -/
def fnExactRoundFitSpec : ChangeSpec := { name := "fnExactRoundFit", fn := fun _ => fun
  | [d] => { results := [.lit (.bool true)], args := [d] }
  | _ => none }
def fnExactRoundFitRow : OpenClaim := { program := "ytibpahkjjjhapab", sum := "71714e5f70a02bcb0f33398a42bc49604a0a903edb6b004c2a2044bfe2ec9c3b", func := "loop.example/g01358/laws.FnExactRoundFit", spec := "fnExactRoundFit", inPlace := ["math.Float64frombits", "math.Float64bits"], apart := false }
def FnExactRoundFitSaid : Prop := fnExactRoundFitRow.holds Try.pinned (OpenSpec.ofChange fnExactRoundFitSpec)

/-- ITS FALSE NEIGHBOUR: 'it returns false'. Refute it at one input. -/
def fnExactRoundFitWrong : ChangeSpec := { name := "fnExactRoundFit", fn := fun _ => fun
  | [d] => { results := [.lit (.bool false)], args := [d] }
  | _ => none }
def FnExactRoundFitWrongFalsely : Prop := fnExactRoundFitRow.holds Try.pinned (OpenSpec.ofChange fnExactRoundFitWrong)

/-- 'laws.FnExactEvenNodes': WHATEVER THE INPUT: true; the input reads as it did. -/
def fnExactEvenNodesSpec : ChangeSpec := { name := "fnExactEvenNodes", fn := fun _ => fun
  | [d] => { results := [.lit (.bool true)], args := [d] }
  | _ => none }
def fnExactEvenNodesRow : OpenClaim := { program := "ytibpahkjjjhapab", sum := "71714e5f70a02bcb0f33398a42bc49604a0a903edb6b004c2a2044bfe2ec9c3b", func := "loop.example/g01358/laws.FnExactEvenNodes", spec := "fnExactEvenNodes", inPlace := ["math.Float64frombits", "math.Float64bits"], apart := false }
def FnExactEvenNodesSaid : Prop := fnExactEvenNodesRow.holds Try.pinned (OpenSpec.ofChange fnExactEvenNodesSpec)

/-- ITS FALSE NEIGHBOUR: 'it returns false'. Refute it at one input. -/
def fnExactEvenNodesWrong : ChangeSpec := { name := "fnExactEvenNodes", fn := fun _ => fun
  | [d] => { results := [.lit (.bool false)], args := [d] }
  | _ => none }
def FnExactEvenNodesWrongFalsely : Prop := fnExactEvenNodesRow.holds Try.pinned (OpenSpec.ofChange fnExactEvenNodesWrong)

/-- 'laws.FnExactFamilyPoly': WHATEVER THE INPUT: true; the input reads as it did. -/
def fnExactFamilyPolySpec : ChangeSpec := { name := "fnExactFamilyPoly", fn := fun _ => fun
  | [d1, d2] => { results := [.lit (.bool true)], args := [d1, d2] }
  | _ => none }
def fnExactFamilyPolyRow : OpenClaim := { program := "ytibpahkjjjhapab", sum := "71714e5f70a02bcb0f33398a42bc49604a0a903edb6b004c2a2044bfe2ec9c3b", func := "loop.example/g01358/laws.FnExactFamilyPoly", spec := "fnExactFamilyPoly", inPlace := ["math.Float64bits", "math.Float64frombits"], apart := false }
def FnExactFamilyPolySaid : Prop := fnExactFamilyPolyRow.holds Try.pinned (OpenSpec.ofChange fnExactFamilyPolySpec)

/-- ITS FALSE NEIGHBOUR: 'it returns false'. Refute it at one input. -/
def fnExactFamilyPolyWrong : ChangeSpec := { name := "fnExactFamilyPoly", fn := fun _ => fun
  | [d1, d2] => { results := [.lit (.bool false)], args := [d1, d2] }
  | _ => none }
def FnExactFamilyPolyWrongFalsely : Prop := fnExactFamilyPolyRow.holds Try.pinned (OpenSpec.ofChange fnExactFamilyPolyWrong)

/- THE SECOND FORM. 'bulk': how many values and letters a reading holds, each counted each time it is reached (what is shared counts as often as it is met; a slice's spare places count too). A statement '..UptoSaid' is the law's where the arguments, and the package variables that the reading takes, are together of bulk at most 1048576: NARROWER than '..Said'. Prove '..Said' where nothing that the law and all that it calls make is longer than what came in: it says more and counts as full. Else prove '..UptoSaid'. A law counts once. -/
mutual
def uptoBulk {H : Type} : DataW H → Nat
  | .lit (.string bytes) => bytes.length + 1
  | .lit _ => 1
  | .nil => 1
  | .ptr d => uptoBulk d + 1
  | .slice elems spare => uptoBulkAll elems + uptoBulkAll spare + 1
  | .agg parts => uptoBulkAll parts + 1
  | .iface _ d => uptoBulk d + 1
  | .map entries => uptoBulkEntries entries + 1
  | .held _ => 1
def uptoBulkAll {H : Type} : List (DataW H) → Nat
  | [] => 0
  | d :: r => uptoBulk d + uptoBulkAll r
def uptoBulkEntries {H : Type} : List (Lit × DataW H) → Nat
  | [] => 0
  | x :: r => uptoBulkEntry x + uptoBulkEntries r
def uptoBulkEntry {H : Type} : Lit × DataW H → Nat
  | (.string bytes, d) => bytes.length + uptoBulk d + 1
  | (_, d) => uptoBulk d + 1
 end
def uptoSmall : (H : Type) → List (DataW H) → Bool := fun _ ds => decide (uptoBulkAll ds ≤ 1048576)
def OpenSpec.upto (s : _root_.Go.ChangeSpec) : _root_.Go.OpenSpec := { _root_.Go.OpenSpec.ofChange s with cond := some uptoSmall }

/-- 'laws.FnExactRoundPoints', WHERE WHAT IT READS IS OF BULK AT MOST 1048576: true; the input reads as it did. -/
def fnExactRoundPointsUptoRow : OpenClaim := { program := "ytibpahkjjjhapab", sum := "71714e5f70a02bcb0f33398a42bc49604a0a903edb6b004c2a2044bfe2ec9c3b", func := "loop.example/g01358/laws.FnExactRoundPoints", spec := "fnExactRoundPoints", inPlace := ["math.Float64frombits", "math.Float64bits"], apart := false, narrowed := true }
def FnExactRoundPointsUptoSaid : Prop := fnExactRoundPointsUptoRow.holds Try.pinned (OpenSpec.upto fnExactRoundPointsSpec)

/-- 'laws.FnExactRoundFit', WHERE WHAT IT READS IS OF BULK AT MOST 1048576: true; the input reads as it did. -/
def fnExactRoundFitUptoRow : OpenClaim := { program := "ytibpahkjjjhapab", sum := "71714e5f70a02bcb0f33398a42bc49604a0a903edb6b004c2a2044bfe2ec9c3b", func := "loop.example/g01358/laws.FnExactRoundFit", spec := "fnExactRoundFit", inPlace := ["math.Float64frombits", "math.Float64bits"], apart := false, narrowed := true }
def FnExactRoundFitUptoSaid : Prop := fnExactRoundFitUptoRow.holds Try.pinned (OpenSpec.upto fnExactRoundFitSpec)

/-- 'laws.FnExactEvenNodes', WHERE WHAT IT READS IS OF BULK AT MOST 1048576: true; the input reads as it did. -/
def fnExactEvenNodesUptoRow : OpenClaim := { program := "ytibpahkjjjhapab", sum := "71714e5f70a02bcb0f33398a42bc49604a0a903edb6b004c2a2044bfe2ec9c3b", func := "loop.example/g01358/laws.FnExactEvenNodes", spec := "fnExactEvenNodes", inPlace := ["math.Float64frombits", "math.Float64bits"], apart := false, narrowed := true }
def FnExactEvenNodesUptoSaid : Prop := fnExactEvenNodesUptoRow.holds Try.pinned (OpenSpec.upto fnExactEvenNodesSpec)

/-- 'laws.FnExactFamilyPoly', WHERE WHAT IT READS IS OF BULK AT MOST 1048576: true; the input reads as it did. -/
def fnExactFamilyPolyUptoRow : OpenClaim := { program := "ytibpahkjjjhapab", sum := "71714e5f70a02bcb0f33398a42bc49604a0a903edb6b004c2a2044bfe2ec9c3b", func := "loop.example/g01358/laws.FnExactFamilyPoly", spec := "fnExactFamilyPoly", inPlace := ["math.Float64bits", "math.Float64frombits"], apart := false, narrowed := true }
def FnExactFamilyPolyUptoSaid : Prop := fnExactFamilyPolyUptoRow.holds Try.pinned (OpenSpec.upto fnExactFamilyPolySpec)

end Rows
end Go.Proofs.Ytibpahkjjjhapab
