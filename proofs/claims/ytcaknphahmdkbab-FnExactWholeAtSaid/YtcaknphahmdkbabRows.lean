/-
  No cell of these rows narrows 'for every input' (looked for: loops, veiled, ifaces, maps, wideKeys, modest, calm, conditions, laid).
  DERIVED. THE GIVEN ROWS OF THIS SEAT. 7 by the template 'for every input the law returns true; each argument reads behind the call as it read before'; 0 by the template 'total and deterministic' (their statements: YtcaknphahmdkbabTotals.lean).
  GIVEN WITH THE SEED: the statements are not yours to turn. If you find one false, say at which input.
  Laid BY PROGRAM, IN A SANDBOX (cutbox-rows.mjs): the forced cells as the released guide's own fill.sh prints them over the translation 9a8d7c8d84720059… (all of the seat's roots in one cut). By AI agents, Wed Nov 11 2026. No macro, syntax, notation, axiom, sorry.
-/
import Derived.Test.YtcaknphahmdkbabChecked
import GoSem.Claim
import GoSem.ClaimJoined
import GoSem.ClaimMapViews
import Derived.JoinedTies
import Derived.KernelRfl
namespace Go.Proofs.Ytcaknphahmdkbab
/- THE CELL 'sum', in the pinned program and in every row, IS THE sha256 OF THE DUMP (.gsa) THAT YtcaknphahmdkbabProg.lean LOADS. Nothing in Lean hashes anything: it is a label: what it is worth is what the hold of that sum in a sandbox is worth. -/
noncomputable def Try.pinned : Pinned := { name := "ytcaknphahmdkbab", sum := "9a8d7c8d84720059d8b0ca230ae91a557aa464721a9a1fd209d13077e682a0a2", checked := Try.checked }
namespace Rows
def none {H : Type} : Left H := { results := [], args := [] }

/-- 'laws.FnExactDivideOver': WHATEVER THE INPUT: true; the input reads as it did. -/
def fnExactDivideOverSpec : ChangeSpec := { name := "fnExactDivideOver", fn := fun _ => fun
  | [d1, d2, d3] => { results := [.lit (.bool true)], args := [d1, d2, d3] }
  | _ => none }
def fnExactDivideOverRow : OpenClaim := { program := "ytcaknphahmdkbab", sum := "9a8d7c8d84720059d8b0ca230ae91a557aa464721a9a1fd209d13077e682a0a2", func := "loop.example/g01358/laws.FnExactDivideOver", spec := "fnExactDivideOver", unfollowed := true, recurses := true, apart := false }
def FnExactDivideOverSaid : Prop := fnExactDivideOverRow.holds Try.pinned (OpenSpec.ofChange fnExactDivideOverSpec)

/-- ITS FALSE NEIGHBOUR: 'it returns false'. Refute it at one input. -/
def fnExactDivideOverWrong : ChangeSpec := { name := "fnExactDivideOver", fn := fun _ => fun
  | [d1, d2, d3] => { results := [.lit (.bool false)], args := [d1, d2, d3] }
  | _ => none }
def FnExactDivideOverWrongFalsely : Prop := fnExactDivideOverRow.holds Try.pinned (OpenSpec.ofChange fnExactDivideOverWrong)

/-- 'laws.FnExactCommonOver': WHATEVER THE INPUT: true; the input reads as it did. -/
def fnExactCommonOverSpec : ChangeSpec := { name := "fnExactCommonOver", fn := fun _ => fun
  | [d1, d2, d3] => { results := [.lit (.bool true)], args := [d1, d2, d3] }
  | _ => none }
def fnExactCommonOverRow : OpenClaim := { program := "ytcaknphahmdkbab", sum := "9a8d7c8d84720059d8b0ca230ae91a557aa464721a9a1fd209d13077e682a0a2", func := "loop.example/g01358/laws.FnExactCommonOver", spec := "fnExactCommonOver", unfollowed := true, recurses := true, apart := false }
def FnExactCommonOverSaid : Prop := fnExactCommonOverRow.holds Try.pinned (OpenSpec.ofChange fnExactCommonOverSpec)

/-- ITS FALSE NEIGHBOUR: 'it returns false'. Refute it at one input. -/
def fnExactCommonOverWrong : ChangeSpec := { name := "fnExactCommonOver", fn := fun _ => fun
  | [d1, d2, d3] => { results := [.lit (.bool false)], args := [d1, d2, d3] }
  | _ => none }
def FnExactCommonOverWrongFalsely : Prop := fnExactCommonOverRow.holds Try.pinned (OpenSpec.ofChange fnExactCommonOverWrong)

/-- 'laws.FnExactPowerOver': WHATEVER THE INPUT: true; the input reads as it did. -/
def fnExactPowerOverSpec : ChangeSpec := { name := "fnExactPowerOver", fn := fun _ => fun
  | [d1, d2, d3, d4] => { results := [.lit (.bool true)], args := [d1, d2, d3, d4] }
  | _ => none }
def fnExactPowerOverRow : OpenClaim := { program := "ytcaknphahmdkbab", sum := "9a8d7c8d84720059d8b0ca230ae91a557aa464721a9a1fd209d13077e682a0a2", func := "loop.example/g01358/laws.FnExactPowerOver", spec := "fnExactPowerOver", unfollowed := true, recurses := true, apart := false }
def FnExactPowerOverSaid : Prop := fnExactPowerOverRow.holds Try.pinned (OpenSpec.ofChange fnExactPowerOverSpec)

/-- ITS FALSE NEIGHBOUR: 'it returns false'. Refute it at one input. -/
def fnExactPowerOverWrong : ChangeSpec := { name := "fnExactPowerOver", fn := fun _ => fun
  | [d1, d2, d3, d4] => { results := [.lit (.bool false)], args := [d1, d2, d3, d4] }
  | _ => none }
def FnExactPowerOverWrongFalsely : Prop := fnExactPowerOverRow.holds Try.pinned (OpenSpec.ofChange fnExactPowerOverWrong)

/-- 'laws.FnExactRootsOver': WHATEVER THE INPUT: true; the input reads as it did. -/
def fnExactRootsOverSpec : ChangeSpec := { name := "fnExactRootsOver", fn := fun _ => fun
  | [d1, d2] => { results := [.lit (.bool true)], args := [d1, d2] }
  | _ => none }
def fnExactRootsOverRow : OpenClaim := { program := "ytcaknphahmdkbab", sum := "9a8d7c8d84720059d8b0ca230ae91a557aa464721a9a1fd209d13077e682a0a2", func := "loop.example/g01358/laws.FnExactRootsOver", spec := "fnExactRootsOver", unfollowed := true, recurses := true, apart := false }
def FnExactRootsOverSaid : Prop := fnExactRootsOverRow.holds Try.pinned (OpenSpec.ofChange fnExactRootsOverSpec)

/-- ITS FALSE NEIGHBOUR: 'it returns false'. Refute it at one input. -/
def fnExactRootsOverWrong : ChangeSpec := { name := "fnExactRootsOver", fn := fun _ => fun
  | [d1, d2] => { results := [.lit (.bool false)], args := [d1, d2] }
  | _ => none }
def FnExactRootsOverWrongFalsely : Prop := fnExactRootsOverRow.holds Try.pinned (OpenSpec.ofChange fnExactRootsOverWrong)

/-- 'laws.FnExactExactQuotient': WHATEVER THE INPUT: true; the input reads as it did. -/
def fnExactExactQuotientSpec : ChangeSpec := { name := "fnExactExactQuotient", fn := fun _ => fun
  | [d1, d2] => { results := [.lit (.bool true)], args := [d1, d2] }
  | _ => none }
def fnExactExactQuotientRow : OpenClaim := { program := "ytcaknphahmdkbab", sum := "9a8d7c8d84720059d8b0ca230ae91a557aa464721a9a1fd209d13077e682a0a2", func := "loop.example/g01358/laws.FnExactExactQuotient", spec := "fnExactExactQuotient", unfollowed := true, recurses := true, apart := false }
def FnExactExactQuotientSaid : Prop := fnExactExactQuotientRow.holds Try.pinned (OpenSpec.ofChange fnExactExactQuotientSpec)

/-- ITS FALSE NEIGHBOUR: 'it returns false'. Refute it at one input. -/
def fnExactExactQuotientWrong : ChangeSpec := { name := "fnExactExactQuotient", fn := fun _ => fun
  | [d1, d2] => { results := [.lit (.bool false)], args := [d1, d2] }
  | _ => none }
def FnExactExactQuotientWrongFalsely : Prop := fnExactExactQuotientRow.holds Try.pinned (OpenSpec.ofChange fnExactExactQuotientWrong)

/-- 'laws.FnExactWholeAt': WHATEVER THE INPUT: true; the input reads as it did. -/
def fnExactWholeAtSpec : ChangeSpec := { name := "fnExactWholeAt", fn := fun _ => fun
  | [d1, d2] => { results := [.lit (.bool true)], args := [d1, d2] }
  | _ => none }
def fnExactWholeAtRow : OpenClaim := { program := "ytcaknphahmdkbab", sum := "9a8d7c8d84720059d8b0ca230ae91a557aa464721a9a1fd209d13077e682a0a2", func := "loop.example/g01358/laws.FnExactWholeAt", spec := "fnExactWholeAt", unfollowed := true, recurses := true, apart := false }
def FnExactWholeAtSaid : Prop := fnExactWholeAtRow.holds Try.pinned (OpenSpec.ofChange fnExactWholeAtSpec)

/-- ITS FALSE NEIGHBOUR: 'it returns false'. Refute it at one input. -/
def fnExactWholeAtWrong : ChangeSpec := { name := "fnExactWholeAt", fn := fun _ => fun
  | [d1, d2] => { results := [.lit (.bool false)], args := [d1, d2] }
  | _ => none }
def FnExactWholeAtWrongFalsely : Prop := fnExactWholeAtRow.holds Try.pinned (OpenSpec.ofChange fnExactWholeAtWrong)

/-- 'laws.FnExactSignAt': WHATEVER THE INPUT: true; the input reads as it did. -/
def fnExactSignAtSpec : ChangeSpec := { name := "fnExactSignAt", fn := fun _ => fun
  | [d1, d2, d3] => { results := [.lit (.bool true)], args := [d1, d2, d3] }
  | _ => none }
def fnExactSignAtRow : OpenClaim := { program := "ytcaknphahmdkbab", sum := "9a8d7c8d84720059d8b0ca230ae91a557aa464721a9a1fd209d13077e682a0a2", func := "loop.example/g01358/laws.FnExactSignAt", spec := "fnExactSignAt", inPlace := ["math/bits.Sub64", "math/bits.Add64"], unfollowed := true, recurses := true, apart := false }
def FnExactSignAtSaid : Prop := fnExactSignAtRow.holds Try.pinned (OpenSpec.ofChange fnExactSignAtSpec)

/-- ITS FALSE NEIGHBOUR: 'it returns false'. Refute it at one input. -/
def fnExactSignAtWrong : ChangeSpec := { name := "fnExactSignAt", fn := fun _ => fun
  | [d1, d2, d3] => { results := [.lit (.bool false)], args := [d1, d2, d3] }
  | _ => none }
def FnExactSignAtWrongFalsely : Prop := fnExactSignAtRow.holds Try.pinned (OpenSpec.ofChange fnExactSignAtWrong)

/- THE SECOND FORM. 'bulk': how many values and letters a reading holds, each counted each time it is reached (what is shared counts as often as it is met; a slice's spare places count too). A statement '..UptoSaid' is the law's where the arguments, and the package variables that the reading takes, are together of bulk at most 1048576: NARROWER than '..Said'. Prove '..Said' where nothing that the law and all that it calls make is longer than what came in: it says more and counts as full. Else prove '..UptoSaid'. A law counts once. -/
mutual
def uptoBulk {H : Type} : DataW H → Nat
  | .lit (.string bytes) => bytes.length + 1
  | .lit _ => 1
  | .nil => 1
  | .ptr d => uptoBulk d + 1
  | .slice elems spare => uptoBulkAll elems + uptoBulkAll spare + 1
  | .agg parts => uptoBulkAll parts + 1
  | .iface _ d => uptoBulk d + 1
  | .map entries => uptoBulkEntries entries + 1
  | .held _ => 1
def uptoBulkAll {H : Type} : List (DataW H) → Nat
  | [] => 0
  | d :: r => uptoBulk d + uptoBulkAll r
def uptoBulkEntries {H : Type} : List (Lit × DataW H) → Nat
  | [] => 0
  | x :: r => uptoBulkEntry x + uptoBulkEntries r
def uptoBulkEntry {H : Type} : Lit × DataW H → Nat
  | (.string bytes, d) => bytes.length + uptoBulk d + 1
  | (_, d) => uptoBulk d + 1
 end
def uptoSmall : (H : Type) → List (DataW H) → Bool := fun _ ds => decide (uptoBulkAll ds ≤ 1048576)
def OpenSpec.upto (s : _root_.Go.ChangeSpec) : _root_.Go.OpenSpec := { _root_.Go.OpenSpec.ofChange s with cond := some uptoSmall }

/-- 'laws.FnExactDivideOver', WHERE WHAT IT READS IS OF BULK AT MOST 1048576: true; the input reads as it did. -/
def fnExactDivideOverUptoRow : OpenClaim := { program := "ytcaknphahmdkbab", sum := "9a8d7c8d84720059d8b0ca230ae91a557aa464721a9a1fd209d13077e682a0a2", func := "loop.example/g01358/laws.FnExactDivideOver", spec := "fnExactDivideOver", unfollowed := true, recurses := true, apart := false, narrowed := true }
def FnExactDivideOverUptoSaid : Prop := fnExactDivideOverUptoRow.holds Try.pinned (OpenSpec.upto fnExactDivideOverSpec)

/-- 'laws.FnExactCommonOver', WHERE WHAT IT READS IS OF BULK AT MOST 1048576: true; the input reads as it did. -/
def fnExactCommonOverUptoRow : OpenClaim := { program := "ytcaknphahmdkbab", sum := "9a8d7c8d84720059d8b0ca230ae91a557aa464721a9a1fd209d13077e682a0a2", func := "loop.example/g01358/laws.FnExactCommonOver", spec := "fnExactCommonOver", unfollowed := true, recurses := true, apart := false, narrowed := true }
def FnExactCommonOverUptoSaid : Prop := fnExactCommonOverUptoRow.holds Try.pinned (OpenSpec.upto fnExactCommonOverSpec)

/-- 'laws.FnExactPowerOver', WHERE WHAT IT READS IS OF BULK AT MOST 1048576: true; the input reads as it did. -/
def fnExactPowerOverUptoRow : OpenClaim := { program := "ytcaknphahmdkbab", sum := "9a8d7c8d84720059d8b0ca230ae91a557aa464721a9a1fd209d13077e682a0a2", func := "loop.example/g01358/laws.FnExactPowerOver", spec := "fnExactPowerOver", unfollowed := true, recurses := true, apart := false, narrowed := true }
def FnExactPowerOverUptoSaid : Prop := fnExactPowerOverUptoRow.holds Try.pinned (OpenSpec.upto fnExactPowerOverSpec)

/-- 'laws.FnExactRootsOver', WHERE WHAT IT READS IS OF BULK AT MOST 1048576: true; the input reads as it did. -/
def fnExactRootsOverUptoRow : OpenClaim := { program := "ytcaknphahmdkbab", sum := "9a8d7c8d84720059d8b0ca230ae91a557aa464721a9a1fd209d13077e682a0a2", func := "loop.example/g01358/laws.FnExactRootsOver", spec := "fnExactRootsOver", unfollowed := true, recurses := true, apart := false, narrowed := true }
def FnExactRootsOverUptoSaid : Prop := fnExactRootsOverUptoRow.holds Try.pinned (OpenSpec.upto fnExactRootsOverSpec)

/-- 'laws.FnExactExactQuotient', WHERE WHAT IT READS IS OF BULK AT MOST 1048576: true; the input reads as it did. -/
def fnExactExactQuotientUptoRow : OpenClaim := { program := "ytcaknphahmdkbab", sum := "9a8d7c8d84720059d8b0ca230ae91a557aa464721a9a1fd209d13077e682a0a2", func := "loop.example/g01358/laws.FnExactExactQuotient", spec := "fnExactExactQuotient", unfollowed := true, recurses := true, apart := false, narrowed := true }
def FnExactExactQuotientUptoSaid : Prop := fnExactExactQuotientUptoRow.holds Try.pinned (OpenSpec.upto fnExactExactQuotientSpec)

/-- 'laws.FnExactWholeAt', WHERE WHAT IT READS IS OF BULK AT MOST 1048576: true; the input reads as it did. -/
def fnExactWholeAtUptoRow : OpenClaim := { program := "ytcaknphahmdkbab", sum := "9a8d7c8d84720059d8b0ca230ae91a557aa464721a9a1fd209d13077e682a0a2", func := "loop.example/g01358/laws.FnExactWholeAt", spec := "fnExactWholeAt", unfollowed := true, recurses := true, apart := false, narrowed := true }
def FnExactWholeAtUptoSaid : Prop := fnExactWholeAtUptoRow.holds Try.pinned (OpenSpec.upto fnExactWholeAtSpec)

/-- 'laws.FnExactSignAt', WHERE WHAT IT READS IS OF BULK AT MOST 1048576: true; the input reads as it did. -/
def fnExactSignAtUptoRow : OpenClaim := { program := "ytcaknphahmdkbab", sum := "9a8d7c8d84720059d8b0ca230ae91a557aa464721a9a1fd209d13077e682a0a2", func := "loop.example/g01358/laws.FnExactSignAt", spec := "fnExactSignAt", inPlace := ["math/bits.Sub64", "math/bits.Add64"], unfollowed := true, recurses := true, apart := false, narrowed := true }
def FnExactSignAtUptoSaid : Prop := fnExactSignAtUptoRow.holds Try.pinned (OpenSpec.upto fnExactSignAtSpec)

end Rows
end Go.Proofs.Ytcaknphahmdkbab
