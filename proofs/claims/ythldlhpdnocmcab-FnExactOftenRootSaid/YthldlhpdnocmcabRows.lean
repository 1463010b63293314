/-
  No cell of these rows narrows 'for every input' (looked for: loops, veiled, ifaces, maps, wideKeys, modest, calm, conditions, laid).
  DERIVED. THE GIVEN ROWS OF THIS SEAT. 4 by the template 'for every input the law returns true; each argument reads behind the call as it read before'; 0 by the template 'total and deterministic' (their statements: YthldlhpdnocmcabTotals.lean).
  GIVEN WITH THE SEED: the statements are not yours to turn. If you find one false, say at which input.
  Laid BY PROGRAM, IN A SANDBOX (cutbox-rows.mjs): the forced cells as the released guide's own fill.sh prints them over the translation 461bbe718b0b20b7… (all of the seat's roots in one cut). By AI agents, Wed Nov 11 2026. No macro, syntax, notation, axiom, sorry.
-/
import Derived.Test.YthldlhpdnocmcabChecked
import GoSem.Claim
import GoSem.ClaimJoined
import GoSem.ClaimMapViews
import Derived.JoinedTies
import Derived.KernelRfl
namespace Go.Proofs.Ythldlhpdnocmcab
/- THE CELL 'sum', in the pinned program and in every row, IS THE sha256 OF THE DUMP (.gsa) THAT YthldlhpdnocmcabProg.lean LOADS. Nothing in Lean hashes anything: it is a label: what it is worth is what the hold of that sum in a sandbox is worth. -/
noncomputable def Try.pinned : Pinned := { name := "ythldlhpdnocmcab", sum := "461bbe718b0b20b7c7c6c2acf77f5b0cdd5bfa53997efb756739babc76528f27", checked := Try.checked }
namespace Rows
def none {H : Type} : Left H := { results := [], args := [] }

/-- 'laws.FnExactMiddleOf': WHATEVER THE INPUT: true; the input reads as it did. -/
def fnExactMiddleOfSpec : ChangeSpec := { name := "fnExactMiddleOf", fn := fun _ => fun
  | [d] => { results := [.lit (.bool true)], args := [d] }
  | _ => none }
def fnExactMiddleOfRow : OpenClaim := { program := "ythldlhpdnocmcab", sum := "461bbe718b0b20b7c7c6c2acf77f5b0cdd5bfa53997efb756739babc76528f27", func := "loop.example/g01358/laws.FnExactMiddleOf", spec := "fnExactMiddleOf", apart := false }
def FnExactMiddleOfSaid : Prop := fnExactMiddleOfRow.holds Try.pinned (OpenSpec.ofChange fnExactMiddleOfSpec)

/-- ITS FALSE NEIGHBOUR: 'it returns false'. Refute it at one input. -/
def fnExactMiddleOfWrong : ChangeSpec := { name := "fnExactMiddleOf", fn := fun _ => fun
  | [d] => { results := [.lit (.bool false)], args := [d] }
  | _ => none }
def FnExactMiddleOfWrongFalsely : Prop := fnExactMiddleOfRow.holds Try.pinned (OpenSpec.ofChange fnExactMiddleOfWrong)

/-- 'laws.FnExactRatioRoots': WHATEVER THE INPUT: true; the input reads as it did. -/
def fnExactRatioRootsSpec : ChangeSpec := { name := "fnExactRatioRoots", fn := fun _ => fun
  | [d] => { results := [.lit (.bool true)], args := [d] }
  | _ => none }
def fnExactRatioRootsRow : OpenClaim := { program := "ythldlhpdnocmcab", sum := "461bbe718b0b20b7c7c6c2acf77f5b0cdd5bfa53997efb756739babc76528f27", func := "loop.example/g01358/laws.FnExactRatioRoots", spec := "fnExactRatioRoots", unfollowed := true, recurses := true, apart := false }
def FnExactRatioRootsSaid : Prop := fnExactRatioRootsRow.holds Try.pinned (OpenSpec.ofChange fnExactRatioRootsSpec)

/-- ITS FALSE NEIGHBOUR: 'it returns false'. Refute it at one input. -/
def fnExactRatioRootsWrong : ChangeSpec := { name := "fnExactRatioRoots", fn := fun _ => fun
  | [d] => { results := [.lit (.bool false)], args := [d] }
  | _ => none }
def FnExactRatioRootsWrongFalsely : Prop := fnExactRatioRootsRow.holds Try.pinned (OpenSpec.ofChange fnExactRatioRootsWrong)

/-- 'laws.FnExactDivideRoot': WHATEVER THE INPUT: true; the input reads as it did. -/
def fnExactDivideRootSpec : ChangeSpec := { name := "fnExactDivideRoot", fn := fun _ => fun
  | [d1, d2, d3] => { results := [.lit (.bool true)], args := [d1, d2, d3] }
  | _ => none }
def fnExactDivideRootRow : OpenClaim := { program := "ythldlhpdnocmcab", sum := "461bbe718b0b20b7c7c6c2acf77f5b0cdd5bfa53997efb756739babc76528f27", func := "loop.example/g01358/laws.FnExactDivideRoot", spec := "fnExactDivideRoot", unfollowed := true, recurses := true, apart := false }
def FnExactDivideRootSaid : Prop := fnExactDivideRootRow.holds Try.pinned (OpenSpec.ofChange fnExactDivideRootSpec)

/-- ITS FALSE NEIGHBOUR: 'it returns false'. Refute it at one input. -/
def fnExactDivideRootWrong : ChangeSpec := { name := "fnExactDivideRoot", fn := fun _ => fun
  | [d1, d2, d3] => { results := [.lit (.bool false)], args := [d1, d2, d3] }
  | _ => none }
def FnExactDivideRootWrongFalsely : Prop := fnExactDivideRootRow.holds Try.pinned (OpenSpec.ofChange fnExactDivideRootWrong)

/-- 'laws.FnExactOftenRoot': WHATEVER THE INPUT: true; the input reads as it did. -/
def fnExactOftenRootSpec : ChangeSpec := { name := "fnExactOftenRoot", fn := fun _ => fun
  | [d1, d2, d3] => { results := [.lit (.bool true)], args := [d1, d2, d3] }
  | _ => none }
def fnExactOftenRootRow : OpenClaim := { program := "ythldlhpdnocmcab", sum := "461bbe718b0b20b7c7c6c2acf77f5b0cdd5bfa53997efb756739babc76528f27", func := "loop.example/g01358/laws.FnExactOftenRoot", spec := "fnExactOftenRoot", unfollowed := true, recurses := true, apart := false }
def FnExactOftenRootSaid : Prop := fnExactOftenRootRow.holds Try.pinned (OpenSpec.ofChange fnExactOftenRootSpec)

/-- ITS FALSE NEIGHBOUR: 'it returns false'. Refute it at one input. -/
def fnExactOftenRootWrong : ChangeSpec := { name := "fnExactOftenRoot", fn := fun _ => fun
  | [d1, d2, d3] => { results := [.lit (.bool false)], args := [d1, d2, d3] }
  | _ => none }
def FnExactOftenRootWrongFalsely : Prop := fnExactOftenRootRow.holds Try.pinned (OpenSpec.ofChange fnExactOftenRootWrong)

/- THE SECOND FORM. 'bulk': how many values and letters a reading holds, each counted each time it is reached (what is shared counts as often as it is met; a slice's spare places count too). A statement '..UptoSaid' is the law's where the arguments, and the package variables that the reading takes, are together of bulk at most 1048576: NARROWER than '..Said'. Prove '..Said' where nothing that the law and all that it calls make is longer than what came in: it says more and counts as full. Else prove '..UptoSaid'. A law counts once. -/
mutual
def uptoBulk {H : Type} : DataW H → Nat
  | .lit (.string bytes) => bytes.length + 1
  | .lit _ => 1
  | .nil => 1
  | .ptr d => uptoBulk d + 1
  | .slice elems spare => uptoBulkAll elems + uptoBulkAll spare + 1
  | .agg parts => uptoBulkAll parts + 1
  | .iface _ d => uptoBulk d + 1
  | .map entries => uptoBulkEntries entries + 1
  | .held _ => 1
def uptoBulkAll {H : Type} : List (DataW H) → Nat
  | [] => 0
  | d :: r => uptoBulk d + uptoBulkAll r
def uptoBulkEntries {H : Type} : List (Lit × DataW H) → Nat
  | [] => 0
  | x :: r => uptoBulkEntry x + uptoBulkEntries r
def uptoBulkEntry {H : Type} : Lit × DataW H → Nat
  | (.string bytes, d) => bytes.length + uptoBulk d + 1
  | (_, d) => uptoBulk d + 1
 end
def uptoSmall : (H : Type) → List (DataW H) → Bool := fun _ ds => decide (uptoBulkAll ds ≤ 1048576)
def OpenSpec.upto (s : _root_.Go.ChangeSpec) : _root_.Go.OpenSpec := { _root_.Go.OpenSpec.ofChange s with cond := some uptoSmall }

/-- 'laws.FnExactMiddleOf', WHERE WHAT IT READS IS OF BULK AT MOST 1048576: true; the input reads as it did. -/
def fnExactMiddleOfUptoRow : OpenClaim := { program := "ythldlhpdnocmcab", sum := "461bbe718b0b20b7c7c6c2acf77f5b0cdd5bfa53997efb756739babc76528f27", func := "loop.example/g01358/laws.FnExactMiddleOf", spec := "fnExactMiddleOf", apart := false, narrowed := true }
def FnExactMiddleOfUptoSaid : Prop := fnExactMiddleOfUptoRow.holds Try.pinned (OpenSpec.upto fnExactMiddleOfSpec)

/-- 'laws.FnExactRatioRoots', WHERE WHAT IT READS IS OF BULK AT MOST 1048576: true; the input reads as it did. -/
def fnExactRatioRootsUptoRow : OpenClaim := { program := "ythldlhpdnocmcab", sum := "461bbe718b0b20b7c7c6c2acf77f5b0cdd5bfa53997efb756739babc76528f27", func := "loop.example/g01358/laws.FnExactRatioRoots", spec := "fnExactRatioRoots", unfollowed := true, recurses := true, apart := false, narrowed := true }
def FnExactRatioRootsUptoSaid : Prop := fnExactRatioRootsUptoRow.holds Try.pinned (OpenSpec.upto fnExactRatioRootsSpec)

/-- 'laws.FnExactDivideRoot', WHERE WHAT IT READS IS OF BULK AT MOST 1048576: true; the input reads as it did. -/
def fnExactDivideRootUptoRow : OpenClaim := { program := "ythldlhpdnocmcab", sum := "461bbe718b0b20b7c7c6c2acf77f5b0cdd5bfa53997efb756739babc76528f27", func := "loop.example/g01358/laws.FnExactDivideRoot", spec := "fnExactDivideRoot", unfollowed := true, recurses := true, apart := false, narrowed := true }
def FnExactDivideRootUptoSaid : Prop := fnExactDivideRootUptoRow.holds Try.pinned (OpenSpec.upto fnExactDivideRootSpec)

/-- 'laws.FnExactOftenRoot', WHERE WHAT IT READS IS OF BULK AT MOST 1048576: true; the input reads as it did. -/
def fnExactOftenRootUptoRow : OpenClaim := { program := "ythldlhpdnocmcab", sum := "461bbe718b0b20b7c7c6c2acf77f5b0cdd5bfa53997efb756739babc76528f27", func := "loop.example/g01358/laws.FnExactOftenRoot", spec := "fnExactOftenRoot", unfollowed := true, recurses := true, apart := false, narrowed := true }
def FnExactOftenRootUptoSaid : Prop := fnExactOftenRootUptoRow.holds Try.pinned (OpenSpec.upto fnExactOftenRootSpec)

end Rows
end Go.Proofs.Ythldlhpdnocmcab
