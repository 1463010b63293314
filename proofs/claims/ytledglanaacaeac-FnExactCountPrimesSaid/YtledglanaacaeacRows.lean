/-
  No cell of these rows narrows 'for every input' (looked for: loops, veiled, ifaces, maps, wideKeys, modest, calm, conditions, laid).
  DERIVED. THE GIVEN ROWS OF THIS SEAT. 6 by the template 'for every input the law returns true; each argument reads behind the call as it read before'; 0 by the template 'total and deterministic' (their statements: YtledglanaacaeacTotals.lean).
  GIVEN WITH THE SEED: the statements are not yours to turn. If you find one false, say at which input.
  Laid BY PROGRAM, IN A SANDBOX (cutbox-rows.mjs): the forced cells as the released guide's own fill.sh prints them over the translation e4754bea5df3d8d4… (all of the seat's roots in one cut). By AI agents, Wed Nov 11 2026. No macro, syntax, notation, axiom, sorry.
-/
import Derived.Test.YtledglanaacaeacChecked
import GoSem.Claim
import GoSem.ClaimJoined
import GoSem.ClaimMapViews
import Derived.JoinedTies
import Derived.KernelRfl
namespace Go.Proofs.Ytledglanaacaeac
/- THE CELL 'sum', in the pinned program and in every row, IS THE sha256 OF THE DUMP (.gsa) THAT YtledglanaacaeacProg.lean LOADS. Nothing in Lean hashes anything: it is a label: what it is worth is what the hold of that sum in a sandbox is worth. -/
noncomputable def Try.pinned : Pinned := { name := "ytledglanaacaeac", sum := "e4754bea5df3d8d45def8a51ccc77e25c47a04fa4f5a5a575ba69da7e1d8fac1", checked := Try.checked }
namespace Rows
def none {H : Type} : Left H := { results := [], args := [] }

/-- 'laws.FnExactCommonOver': WHATEVER THE INPUT: true; the input reads as it did. -/
def fnExactCommonOverSpec : ChangeSpec := { name := "fnExactCommonOver", fn := fun _ => fun
  | [d1, d2, d3] => { results := [.lit (.bool true)], args := [d1, d2, d3] }
  | _ => none }
def fnExactCommonOverRow : OpenClaim := { program := "ytledglanaacaeac", sum := "e4754bea5df3d8d45def8a51ccc77e25c47a04fa4f5a5a575ba69da7e1d8fac1", func := "loop.example/g01358/laws.FnExactCommonOver", spec := "fnExactCommonOver", unfollowed := true, recurses := true, plainKeys := false, apart := false }
def FnExactCommonOverSaid : Prop := fnExactCommonOverRow.holds Try.pinned (OpenSpec.ofChange fnExactCommonOverSpec)

/-- ITS FALSE NEIGHBOUR: 'it returns false'. Refute it at one input. -/
def fnExactCommonOverWrong : ChangeSpec := { name := "fnExactCommonOver", fn := fun _ => fun
  | [d1, d2, d3] => { results := [.lit (.bool false)], args := [d1, d2, d3] }
  | _ => none }
def FnExactCommonOverWrongFalsely : Prop := fnExactCommonOverRow.holds Try.pinned (OpenSpec.ofChange fnExactCommonOverWrong)

/-- 'laws.FnExactPowerOver': WHATEVER THE INPUT: true; the input reads as it did. -/
def fnExactPowerOverSpec : ChangeSpec := { name := "fnExactPowerOver", fn := fun _ => fun
  | [d1, d2, d3, d4] => { results := [.lit (.bool true)], args := [d1, d2, d3, d4] }
  | _ => none }
def fnExactPowerOverRow : OpenClaim := { program := "ytledglanaacaeac", sum := "e4754bea5df3d8d45def8a51ccc77e25c47a04fa4f5a5a575ba69da7e1d8fac1", func := "loop.example/g01358/laws.FnExactPowerOver", spec := "fnExactPowerOver", unfollowed := true, recurses := true, plainKeys := false, apart := false }
def FnExactPowerOverSaid : Prop := fnExactPowerOverRow.holds Try.pinned (OpenSpec.ofChange fnExactPowerOverSpec)

/-- ITS FALSE NEIGHBOUR: 'it returns false'. Refute it at one input. -/
def fnExactPowerOverWrong : ChangeSpec := { name := "fnExactPowerOver", fn := fun _ => fun
  | [d1, d2, d3, d4] => { results := [.lit (.bool false)], args := [d1, d2, d3, d4] }
  | _ => none }
def FnExactPowerOverWrongFalsely : Prop := fnExactPowerOverRow.holds Try.pinned (OpenSpec.ofChange fnExactPowerOverWrong)

/-- 'laws.FnExactRootsOver': WHATEVER THE INPUT: true; the input reads as it did. -/
def fnExactRootsOverSpec : ChangeSpec := { name := "fnExactRootsOver", fn := fun _ => fun
  | [d1, d2] => { results := [.lit (.bool true)], args := [d1, d2] }
  | _ => none }
def fnExactRootsOverRow : OpenClaim := { program := "ytledglanaacaeac", sum := "e4754bea5df3d8d45def8a51ccc77e25c47a04fa4f5a5a575ba69da7e1d8fac1", func := "loop.example/g01358/laws.FnExactRootsOver", spec := "fnExactRootsOver", unfollowed := true, recurses := true, plainKeys := false, apart := false }
def FnExactRootsOverSaid : Prop := fnExactRootsOverRow.holds Try.pinned (OpenSpec.ofChange fnExactRootsOverSpec)

/-- ITS FALSE NEIGHBOUR: 'it returns false'. Refute it at one input. -/
def fnExactRootsOverWrong : ChangeSpec := { name := "fnExactRootsOver", fn := fun _ => fun
  | [d1, d2] => { results := [.lit (.bool false)], args := [d1, d2] }
  | _ => none }
def FnExactRootsOverWrongFalsely : Prop := fnExactRootsOverRow.holds Try.pinned (OpenSpec.ofChange fnExactRootsOverWrong)

/-- 'laws.FnExactFactorsOver': WHATEVER THE INPUT: true; the input reads as it did. -/
def fnExactFactorsOverSpec : ChangeSpec := { name := "fnExactFactorsOver", fn := fun _ => fun
  | [d1, d2] => { results := [.lit (.bool true)], args := [d1, d2] }
  | _ => none }
def fnExactFactorsOverRow : OpenClaim := { program := "ytledglanaacaeac", sum := "e4754bea5df3d8d45def8a51ccc77e25c47a04fa4f5a5a575ba69da7e1d8fac1", func := "loop.example/g01358/laws.FnExactFactorsOver", spec := "fnExactFactorsOver", unfollowed := true, recurses := true, plainKeys := false, apart := false }
def FnExactFactorsOverSaid : Prop := fnExactFactorsOverRow.holds Try.pinned (OpenSpec.ofChange fnExactFactorsOverSpec)

/-- ITS FALSE NEIGHBOUR: 'it returns false'. Refute it at one input. -/
def fnExactFactorsOverWrong : ChangeSpec := { name := "fnExactFactorsOver", fn := fun _ => fun
  | [d1, d2] => { results := [.lit (.bool false)], args := [d1, d2] }
  | _ => none }
def FnExactFactorsOverWrongFalsely : Prop := fnExactFactorsOverRow.holds Try.pinned (OpenSpec.ofChange fnExactFactorsOverWrong)

/-- 'laws.FnExactCountPrimes': WHATEVER THE INPUT: true; the input reads as it did. -/
def fnExactCountPrimesSpec : ChangeSpec := { name := "fnExactCountPrimes", fn := fun _ => fun
  | [d1, d2] => { results := [.lit (.bool true)], args := [d1, d2] }
  | _ => none }
def fnExactCountPrimesRow : OpenClaim := { program := "ytledglanaacaeac", sum := "e4754bea5df3d8d45def8a51ccc77e25c47a04fa4f5a5a575ba69da7e1d8fac1", func := "loop.example/g01358/laws.FnExactCountPrimes", spec := "fnExactCountPrimes", recurses := true, plainKeys := false, apart := false }
def FnExactCountPrimesSaid : Prop := fnExactCountPrimesRow.holds Try.pinned (OpenSpec.ofChange fnExactCountPrimesSpec)

/-- ITS FALSE NEIGHBOUR: 'it returns false'. Refute it at one input. -/
def fnExactCountPrimesWrong : ChangeSpec := { name := "fnExactCountPrimes", fn := fun _ => fun
  | [d1, d2] => { results := [.lit (.bool false)], args := [d1, d2] }
  | _ => none }
def FnExactCountPrimesWrongFalsely : Prop := fnExactCountPrimesRow.holds Try.pinned (OpenSpec.ofChange fnExactCountPrimesWrong)

/-- 'laws.FnExactLiftPair': WHATEVER THE INPUT: true; the input reads as it did. -/
def fnExactLiftPairSpec : ChangeSpec := { name := "fnExactLiftPair", fn := fun _ => fun
  | [d1, d2, d3, d4] => { results := [.lit (.bool true)], args := [d1, d2, d3, d4] }
  | _ => none }
def fnExactLiftPairRow : OpenClaim := { program := "ytledglanaacaeac", sum := "e4754bea5df3d8d45def8a51ccc77e25c47a04fa4f5a5a575ba69da7e1d8fac1", func := "loop.example/g01358/laws.FnExactLiftPair", spec := "fnExactLiftPair", unfollowed := true, recurses := true, plainKeys := false, apart := false }
def FnExactLiftPairSaid : Prop := fnExactLiftPairRow.holds Try.pinned (OpenSpec.ofChange fnExactLiftPairSpec)

/-- ITS FALSE NEIGHBOUR: 'it returns false'. Refute it at one input. -/
def fnExactLiftPairWrong : ChangeSpec := { name := "fnExactLiftPair", fn := fun _ => fun
  | [d1, d2, d3, d4] => { results := [.lit (.bool false)], args := [d1, d2, d3, d4] }
  | _ => none }
def FnExactLiftPairWrongFalsely : Prop := fnExactLiftPairRow.holds Try.pinned (OpenSpec.ofChange fnExactLiftPairWrong)

/- THE SECOND FORM. 'bulk': how many values and letters a reading holds, each counted each time it is reached (what is shared counts as often as it is met; a slice's spare places count too). A statement '..UptoSaid' is the law's where the arguments, and the package variables that the reading takes, are together of bulk at most 1048576: NARROWER than '..Said'. Prove '..Said' where nothing that the law and all that it calls make is longer than what came in: it says more and counts as full. Else prove '..UptoSaid'. A law counts once. -/
mutual
def uptoBulk {H : Type} : DataW H → Nat
  | .lit (.string bytes) => bytes.length + 1
  | .lit _ => 1
  | .nil => 1
  | .ptr d => uptoBulk d + 1
  | .slice elems spare => uptoBulkAll elems + uptoBulkAll spare + 1
  | .agg parts => uptoBulkAll parts + 1
  | .iface _ d => uptoBulk d + 1
  | .map entries => uptoBulkEntries entries + 1
  | .held _ => 1
def uptoBulkAll {H : Type} : List (DataW H) → Nat
  | [] => 0
  | d :: r => uptoBulk d + uptoBulkAll r
def uptoBulkEntries {H : Type} : List (Lit × DataW H) → Nat
  | [] => 0
  | x :: r => uptoBulkEntry x + uptoBulkEntries r
def uptoBulkEntry {H : Type} : Lit × DataW H → Nat
  | (.string bytes, d) => bytes.length + uptoBulk d + 1
  | (_, d) => uptoBulk d + 1
 end
def uptoSmall : (H : Type) → List (DataW H) → Bool := fun _ ds => decide (uptoBulkAll ds ≤ 1048576)
def OpenSpec.upto (s : _root_.Go.ChangeSpec) : _root_.Go.OpenSpec := { _root_.Go.OpenSpec.ofChange s with cond := some uptoSmall }

/-- 'laws.FnExactCommonOver', WHERE WHAT IT READS IS OF BULK AT MOST 1048576: true; the input reads as it did. -/
def fnExactCommonOverUptoRow : OpenClaim := { program := "ytledglanaacaeac", sum := "e4754bea5df3d8d45def8a51ccc77e25c47a04fa4f5a5a575ba69da7e1d8fac1", func := "loop.example/g01358/laws.FnExactCommonOver", spec := "fnExactCommonOver", unfollowed := true, recurses := true, plainKeys := false, apart := false, narrowed := true }
def FnExactCommonOverUptoSaid : Prop := fnExactCommonOverUptoRow.holds Try.pinned (OpenSpec.upto fnExactCommonOverSpec)

/-- 'laws.FnExactPowerOver', WHERE WHAT IT READS IS OF BULK AT MOST 1048576: true; the input reads as it did. -/
def fnExactPowerOverUptoRow : OpenClaim := { program := "ytledglanaacaeac", sum := "e4754bea5df3d8d45def8a51ccc77e25c47a04fa4f5a5a575ba69da7e1d8fac1", func := "loop.example/g01358/laws.FnExactPowerOver", spec := "fnExactPowerOver", unfollowed := true, recurses := true, plainKeys := false, apart := false, narrowed := true }
def FnExactPowerOverUptoSaid : Prop := fnExactPowerOverUptoRow.holds Try.pinned (OpenSpec.upto fnExactPowerOverSpec)

/-- 'laws.FnExactRootsOver', WHERE WHAT IT READS IS OF BULK AT MOST 1048576: true; the input reads as it did. -/
def fnExactRootsOverUptoRow : OpenClaim := { program := "ytledglanaacaeac", sum := "e4754bea5df3d8d45def8a51ccc77e25c47a04fa4f5a5a575ba69da7e1d8fac1", func := "loop.example/g01358/laws.FnExactRootsOver", spec := "fnExactRootsOver", unfollowed := true, recurses := true, plainKeys := false, apart := false, narrowed := true }
def FnExactRootsOverUptoSaid : Prop := fnExactRootsOverUptoRow.holds Try.pinned (OpenSpec.upto fnExactRootsOverSpec)

/-- 'laws.FnExactFactorsOver', WHERE WHAT IT READS IS OF BULK AT MOST 1048576: true; the input reads as it did. -/
def fnExactFactorsOverUptoRow : OpenClaim := { program := "ytledglanaacaeac", sum := "e4754bea5df3d8d45def8a51ccc77e25c47a04fa4f5a5a575ba69da7e1d8fac1", func := "loop.example/g01358/laws.FnExactFactorsOver", spec := "fnExactFactorsOver", unfollowed := true, recurses := true, plainKeys := false, apart := false, narrowed := true }
def FnExactFactorsOverUptoSaid : Prop := fnExactFactorsOverUptoRow.holds Try.pinned (OpenSpec.upto fnExactFactorsOverSpec)

/-- 'laws.FnExactCountPrimes', WHERE WHAT IT READS IS OF BULK AT MOST 1048576: true; the input reads as it did. -/
def fnExactCountPrimesUptoRow : OpenClaim := { program := "ytledglanaacaeac", sum := "e4754bea5df3d8d45def8a51ccc77e25c47a04fa4f5a5a575ba69da7e1d8fac1", func := "loop.example/g01358/laws.FnExactCountPrimes", spec := "fnExactCountPrimes", recurses := true, plainKeys := false, apart := false, narrowed := true }
def FnExactCountPrimesUptoSaid : Prop := fnExactCountPrimesUptoRow.holds Try.pinned (OpenSpec.upto fnExactCountPrimesSpec)

/-- 'laws.FnExactLiftPair', WHERE WHAT IT READS IS OF BULK AT MOST 1048576: true; the input reads as it did. -/
def fnExactLiftPairUptoRow : OpenClaim := { program := "ytledglanaacaeac", sum := "e4754bea5df3d8d45def8a51ccc77e25c47a04fa4f5a5a575ba69da7e1d8fac1", func := "loop.example/g01358/laws.FnExactLiftPair", spec := "fnExactLiftPair", unfollowed := true, recurses := true, plainKeys := false, apart := false, narrowed := true }
def FnExactLiftPairUptoSaid : Prop := fnExactLiftPairUptoRow.holds Try.pinned (OpenSpec.upto fnExactLiftPairSpec)

end Rows
end Go.Proofs.Ytledglanaacaeac
