/-
  No cell of these rows narrows 'for every input' (looked for: loops, veiled, ifaces, maps, wideKeys, modest, calm, conditions, laid).
  DERIVED. THE GIVEN ROWS OF THIS SEAT. 4 by the template 'for every input the law returns true; each argument reads behind the call as it read before'; 0 by the template 'total and deterministic' (their statements: YtdammgflmkamaaaTotals.lean).
  GIVEN WITH THE SEED: the statements are not yours to turn. If you find one false, say at which input.
  Laid BY PROGRAM, IN A SANDBOX (cutbox-rows.mjs): the forced cells as the released guide's own fill.sh prints them over the translation ce4afe27f57815a5… (all of the seat's roots in one cut). By AI agents, Wed Nov 11 2026. No macro, syntax, notation, axiom, sorry.
-/
import Derived.Test.YtdammgflmkamaaaChecked
import GoSem.Claim
import GoSem.ClaimJoined
import GoSem.ClaimMapViews
import Derived.JoinedTies
import Derived.KernelRfl
namespace Go.Proofs.Ytdammgflmkamaaa
/- THE CELL 'sum', in the pinned program and in every row, IS THE sha256 OF THE DUMP (.gsa) THAT YtdammgflmkamaaaProg.lean LOADS. Nothing in Lean hashes anything: it is a label: what it is worth is what the hold of that sum in a sandbox is worth. -/
noncomputable def Try.pinned : Pinned := { name := "ytdammgflmkamaaa", sum := "ce4afe27f57815a57453d1fc7163dffbba5db68038477a1f057cdf5dd23c0f11", checked := Try.checked }
namespace Rows
def none {H : Type} : Left H := { results := [], args := [] }

/-- 'laws.FnExactDivideOver': WHATEVER THE INPUT: true; the input reads as it did. -/
def fnExactDivideOverSpec : ChangeSpec := { name := "fnExactDivideOver", fn := fun _ => fun
  | [d1, d2, d3] => { results := [.lit (.bool true)], args := [d1, d2, d3] }
  | _ => none }
def fnExactDivideOverRow : OpenClaim := { program := "ytdammgflmkamaaa", sum := "ce4afe27f57815a57453d1fc7163dffbba5db68038477a1f057cdf5dd23c0f11", func := "loop.example/g01358/laws.FnExactDivideOver", spec := "fnExactDivideOver", unfollowed := true, recurses := true, apart := false }
def FnExactDivideOverSaid : Prop := fnExactDivideOverRow.holds Try.pinned (OpenSpec.ofChange fnExactDivideOverSpec)

/-- ITS FALSE NEIGHBOUR: 'it returns false'. Refute it at one input. -/
def fnExactDivideOverWrong : ChangeSpec := { name := "fnExactDivideOver", fn := fun _ => fun
  | [d1, d2, d3] => { results := [.lit (.bool false)], args := [d1, d2, d3] }
  | _ => none }
def FnExactDivideOverWrongFalsely : Prop := fnExactDivideOverRow.holds Try.pinned (OpenSpec.ofChange fnExactDivideOverWrong)

/-- 'laws.FnExactCyclotomicOf': WHATEVER THE INPUT: true; the input reads as it did. -/
def fnExactCyclotomicOfSpec : ChangeSpec := { name := "fnExactCyclotomicOf", fn := fun _ => fun
  | [d] => { results := [.lit (.bool true)], args := [d] }
  | _ => none }
def fnExactCyclotomicOfRow : OpenClaim := { program := "ytdammgflmkamaaa", sum := "ce4afe27f57815a57453d1fc7163dffbba5db68038477a1f057cdf5dd23c0f11", func := "loop.example/g01358/laws.FnExactCyclotomicOf", spec := "fnExactCyclotomicOf", unfollowed := true, recurses := true, apart := false }
def FnExactCyclotomicOfSaid : Prop := fnExactCyclotomicOfRow.holds Try.pinned (OpenSpec.ofChange fnExactCyclotomicOfSpec)

/-- ITS FALSE NEIGHBOUR: 'it returns false'. Refute it at one input. -/
def fnExactCyclotomicOfWrong : ChangeSpec := { name := "fnExactCyclotomicOf", fn := fun _ => fun
  | [d] => { results := [.lit (.bool false)], args := [d] }
  | _ => none }
def FnExactCyclotomicOfWrongFalsely : Prop := fnExactCyclotomicOfRow.holds Try.pinned (OpenSpec.ofChange fnExactCyclotomicOfWrong)

/-- 'laws.FnExactCommonWhole': WHATEVER THE INPUT: true; the input reads as it did. -/
def fnExactCommonWholeSpec : ChangeSpec := { name := "fnExactCommonWhole", fn := fun _ => fun
  | [d1, d2] => { results := [.lit (.bool true)], args := [d1, d2] }
  | _ => none }
def fnExactCommonWholeRow : OpenClaim := { program := "ytdammgflmkamaaa", sum := "ce4afe27f57815a57453d1fc7163dffbba5db68038477a1f057cdf5dd23c0f11", func := "loop.example/g01358/laws.FnExactCommonWhole", spec := "fnExactCommonWhole", unfollowed := true, recurses := true, apart := false }
def FnExactCommonWholeSaid : Prop := fnExactCommonWholeRow.holds Try.pinned (OpenSpec.ofChange fnExactCommonWholeSpec)

/-- ITS FALSE NEIGHBOUR: 'it returns false'. Refute it at one input. -/
def fnExactCommonWholeWrong : ChangeSpec := { name := "fnExactCommonWhole", fn := fun _ => fun
  | [d1, d2] => { results := [.lit (.bool false)], args := [d1, d2] }
  | _ => none }
def FnExactCommonWholeWrongFalsely : Prop := fnExactCommonWholeRow.holds Try.pinned (OpenSpec.ofChange fnExactCommonWholeWrong)

/-- 'laws.FnExactSquareFree': WHATEVER THE INPUT: true; the input reads as it did. -/
def fnExactSquareFreeSpec : ChangeSpec := { name := "fnExactSquareFree", fn := fun _ => fun
  | [d] => { results := [.lit (.bool true)], args := [d] }
  | _ => none }
def fnExactSquareFreeRow : OpenClaim := { program := "ytdammgflmkamaaa", sum := "ce4afe27f57815a57453d1fc7163dffbba5db68038477a1f057cdf5dd23c0f11", func := "loop.example/g01358/laws.FnExactSquareFree", spec := "fnExactSquareFree", unfollowed := true, recurses := true, apart := false }
def FnExactSquareFreeSaid : Prop := fnExactSquareFreeRow.holds Try.pinned (OpenSpec.ofChange fnExactSquareFreeSpec)

/-- ITS FALSE NEIGHBOUR: 'it returns false'. Refute it at one input. -/
def fnExactSquareFreeWrong : ChangeSpec := { name := "fnExactSquareFree", fn := fun _ => fun
  | [d] => { results := [.lit (.bool false)], args := [d] }
  | _ => none }
def FnExactSquareFreeWrongFalsely : Prop := fnExactSquareFreeRow.holds Try.pinned (OpenSpec.ofChange fnExactSquareFreeWrong)

/- THE SECOND FORM. 'bulk': how many values and letters a reading holds, each counted each time it is reached (what is shared counts as often as it is met; a slice's spare places count too). A statement '..UptoSaid' is the law's where the arguments, and the package variables that the reading takes, are together of bulk at most 1048576: NARROWER than '..Said'. Prove '..Said' where nothing that the law and all that it calls make is longer than what came in: it says more and counts as full. Else prove '..UptoSaid'. A law counts once. -/
mutual
def uptoBulk {H : Type} : DataW H → Nat
  | .lit (.string bytes) => bytes.length + 1
  | .lit _ => 1
  | .nil => 1
  | .ptr d => uptoBulk d + 1
  | .slice elems spare => uptoBulkAll elems + uptoBulkAll spare + 1
  | .agg parts => uptoBulkAll parts + 1
  | .iface _ d => uptoBulk d + 1
  | .map entries => uptoBulkEntries entries + 1
  | .held _ => 1
def uptoBulkAll {H : Type} : List (DataW H) → Nat
  | [] => 0
  | d :: r => uptoBulk d + uptoBulkAll r
def uptoBulkEntries {H : Type} : List (Lit × DataW H) → Nat
  | [] => 0
  | x :: r => uptoBulkEntry x + uptoBulkEntries r
def uptoBulkEntry {H : Type} : Lit × DataW H → Nat
  | (.string bytes, d) => bytes.length + uptoBulk d + 1
  | (_, d) => uptoBulk d + 1
 end
def uptoSmall : (H : Type) → List (DataW H) → Bool := fun _ ds => decide (uptoBulkAll ds ≤ 1048576)
def OpenSpec.upto (s : _root_.Go.ChangeSpec) : _root_.Go.OpenSpec := { _root_.Go.OpenSpec.ofChange s with cond := some uptoSmall }

/-- 'laws.FnExactDivideOver', WHERE WHAT IT READS IS OF BULK AT MOST 1048576: true; the input reads as it did. -/
def fnExactDivideOverUptoRow : OpenClaim := { program := "ytdammgflmkamaaa", sum := "ce4afe27f57815a57453d1fc7163dffbba5db68038477a1f057cdf5dd23c0f11", func := "loop.example/g01358/laws.FnExactDivideOver", spec := "fnExactDivideOver", unfollowed := true, recurses := true, apart := false, narrowed := true }
def FnExactDivideOverUptoSaid : Prop := fnExactDivideOverUptoRow.holds Try.pinned (OpenSpec.upto fnExactDivideOverSpec)

/-- 'laws.FnExactCyclotomicOf', WHERE WHAT IT READS IS OF BULK AT MOST 1048576: true; the input reads as it did. -/
def fnExactCyclotomicOfUptoRow : OpenClaim := { program := "ytdammgflmkamaaa", sum := "ce4afe27f57815a57453d1fc7163dffbba5db68038477a1f057cdf5dd23c0f11", func := "loop.example/g01358/laws.FnExactCyclotomicOf", spec := "fnExactCyclotomicOf", unfollowed := true, recurses := true, apart := false, narrowed := true }
def FnExactCyclotomicOfUptoSaid : Prop := fnExactCyclotomicOfUptoRow.holds Try.pinned (OpenSpec.upto fnExactCyclotomicOfSpec)

/-- 'laws.FnExactCommonWhole', WHERE WHAT IT READS IS OF BULK AT MOST 1048576: true; the input reads as it did. -/
def fnExactCommonWholeUptoRow : OpenClaim := { program := "ytdammgflmkamaaa", sum := "ce4afe27f57815a57453d1fc7163dffbba5db68038477a1f057cdf5dd23c0f11", func := "loop.example/g01358/laws.FnExactCommonWhole", spec := "fnExactCommonWhole", unfollowed := true, recurses := true, apart := false, narrowed := true }
def FnExactCommonWholeUptoSaid : Prop := fnExactCommonWholeUptoRow.holds Try.pinned (OpenSpec.upto fnExactCommonWholeSpec)

/-- 'laws.FnExactSquareFree', WHERE WHAT IT READS IS OF BULK AT MOST 1048576: true; the input reads as it did. -/
def fnExactSquareFreeUptoRow : OpenClaim := { program := "ytdammgflmkamaaa", sum := "ce4afe27f57815a57453d1fc7163dffbba5db68038477a1f057cdf5dd23c0f11", func := "loop.example/g01358/laws.FnExactSquareFree", spec := "fnExactSquareFree", unfollowed := true, recurses := true, apart := false, narrowed := true }
def FnExactSquareFreeUptoSaid : Prop := fnExactSquareFreeUptoRow.holds Try.pinned (OpenSpec.upto fnExactSquareFreeSpec)

end Rows
end Go.Proofs.Ytdammgflmkamaaa
