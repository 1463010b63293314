/-
  No cell of these rows narrows 'for every input' (looked for: loops, veiled, ifaces, maps, wideKeys, modest, calm, conditions, laid).
  DERIVED. THE GIVEN ROWS OF THIS SEAT. 4 by the template 'for every input the law returns true; each argument reads behind the call as it read before'; 0 by the template 'total and deterministic' (their statements: YtibpahkjjjhapaaTotals.lean).
  GIVEN WITH THE SEED: the statements are not yours to turn. If you find one false, say at which input.
  Laid BY PROGRAM, IN A SANDBOX (cutbox-rows.mjs): the forced cells as the released guide's own fill.sh prints them over the translation cfd69111b2702a2b… (all of the seat's roots in one cut). By AI agents, Wed Nov 11 2026. No macro, syntax, notation, axiom, sorry.
-/
import Derived.Test.YtibpahkjjjhapaaChecked
import GoSem.Claim
import GoSem.ClaimJoined
import GoSem.ClaimMapViews
import Derived.JoinedTies
import Derived.KernelRfl
namespace Go.Proofs.Ytibpahkjjjhapaa
/- THE CELL 'sum', in the pinned program and in every row, IS THE sha256 OF THE DUMP (.gsa) THAT YtibpahkjjjhapaaProg.lean LOADS. Nothing in Lean hashes anything: it is a label: what it is worth is what the hold of that sum in a sandbox is worth. -/
noncomputable def Try.pinned : Pinned := { name := "ytibpahkjjjhapaa", sum := "cfd69111b2702a2b83e4f6f7c5311269d309148736cd27c51d5a8f795bfd4188", checked := Try.checked }
namespace Rows
def none {H : Type} : Left H := { results := [], args := [] }

/-- 'laws.FnExactRuleOf': WHATEVER THE INPUT: true; the input reads as it did. -/
def fnExactRuleOfSpec : ChangeSpec := { name := "fnExactRuleOf", fn := fun _ => fun
  | [d1, d2] => { results := [.lit (.bool true)], args := [d1, d2] }
  | _ => none }
def fnExactRuleOfRow : OpenClaim := { program := "ytibpahkjjjhapaa", sum := "cfd69111b2702a2b83e4f6f7c5311269d309148736cd27c51d5a8f795bfd4188", func := "loop.example/g01358/laws.FnExactRuleOf", spec := "fnExactRuleOf", apart := false }
def FnExactRuleOfSaid : Prop := fnExactRuleOfRow.holds Try.pinned (OpenSpec.ofChange fnExactRuleOfSpec)

/-- ITS FALSE NEIGHBOUR: 'it returns false'. Refute it at one input. -/
def fnExactRuleOfWrong : ChangeSpec := { name := "fnExactRuleOf", fn := fun _ => fun
  | [d1, d2] => { results := [.lit (.bool false)], args := [d1, d2] }
  | _ => none }
def FnExactRuleOfWrongFalsely : Prop := fnExactRuleOfRow.holds Try.pinned (OpenSpec.ofChange fnExactRuleOfWrong)

/-- 'laws.FnExactFamilyAt': WHATEVER THE INPUT: true; the input reads as it did. -/
def fnExactFamilyAtSpec : ChangeSpec := { name := "fnExactFamilyAt", fn := fun _ => fun
  | [d1, d2, d3] => { results := [.lit (.bool true)], args := [d1, d2, d3] }
  | _ => none }
def fnExactFamilyAtRow : OpenClaim := { program := "ytibpahkjjjhapaa", sum := "cfd69111b2702a2b83e4f6f7c5311269d309148736cd27c51d5a8f795bfd4188", func := "loop.example/g01358/laws.FnExactFamilyAt", spec := "fnExactFamilyAt", inPlace := ["math.Float64bits", "math.Float64frombits"], apart := false }
def FnExactFamilyAtSaid : Prop := fnExactFamilyAtRow.holds Try.pinned (OpenSpec.ofChange fnExactFamilyAtSpec)

/-- ITS FALSE NEIGHBOUR: 'it returns false'. Refute it at one input. -/
def fnExactFamilyAtWrong : ChangeSpec := { name := "fnExactFamilyAt", fn := fun _ => fun
  | [d1, d2, d3] => { results := [.lit (.bool false)], args := [d1, d2, d3] }
  | _ => none }
def FnExactFamilyAtWrongFalsely : Prop := fnExactFamilyAtRow.holds Try.pinned (OpenSpec.ofChange fnExactFamilyAtWrong)

/-- 'laws.FnExactFamilyRow': WHATEVER THE INPUT: true; the input reads as it did. -/
def fnExactFamilyRowSpec : ChangeSpec := { name := "fnExactFamilyRow", fn := fun _ => fun
  | [d1, d2, d3] => { results := [.lit (.bool true)], args := [d1, d2, d3] }
  | _ => none }
def fnExactFamilyRowRow : OpenClaim := { program := "ytibpahkjjjhapaa", sum := "cfd69111b2702a2b83e4f6f7c5311269d309148736cd27c51d5a8f795bfd4188", func := "loop.example/g01358/laws.FnExactFamilyRow", spec := "fnExactFamilyRow", inPlace := ["math.Float64bits", "math.Float64frombits"], apart := false }
def FnExactFamilyRowSaid : Prop := fnExactFamilyRowRow.holds Try.pinned (OpenSpec.ofChange fnExactFamilyRowSpec)

/-- ITS FALSE NEIGHBOUR: 'it returns false'. Refute it at one input. -/
def fnExactFamilyRowWrong : ChangeSpec := { name := "fnExactFamilyRow", fn := fun _ => fun
  | [d1, d2, d3] => { results := [.lit (.bool false)], args := [d1, d2, d3] }
  | _ => none }
def FnExactFamilyRowWrongFalsely : Prop := fnExactFamilyRowRow.holds Try.pinned (OpenSpec.ofChange fnExactFamilyRowWrong)

/-- 'laws.FnExactFamilySum': WHATEVER THE INPUT: true; the input reads as it did. -/
def fnExactFamilySumSpec : ChangeSpec := { name := "fnExactFamilySum", fn := fun _ => fun
  | [d1, d2, d3] => { results := [.lit (.bool true)], args := [d1, d2, d3] }
  | _ => none }
def fnExactFamilySumRow : OpenClaim := { program := "ytibpahkjjjhapaa", sum := "cfd69111b2702a2b83e4f6f7c5311269d309148736cd27c51d5a8f795bfd4188", func := "loop.example/g01358/laws.FnExactFamilySum", spec := "fnExactFamilySum", inPlace := ["math.Float64bits", "math.Float64frombits"], unfollowed := true, recurses := true, apart := false }
def FnExactFamilySumSaid : Prop := fnExactFamilySumRow.holds Try.pinned (OpenSpec.ofChange fnExactFamilySumSpec)

/-- ITS FALSE NEIGHBOUR: 'it returns false'. Refute it at one input. -/
def fnExactFamilySumWrong : ChangeSpec := { name := "fnExactFamilySum", fn := fun _ => fun
  | [d1, d2, d3] => { results := [.lit (.bool false)], args := [d1, d2, d3] }
  | _ => none }
def FnExactFamilySumWrongFalsely : Prop := fnExactFamilySumRow.holds Try.pinned (OpenSpec.ofChange fnExactFamilySumWrong)

/- THE SECOND FORM. 'bulk': how many values and letters a reading holds, each counted each time it is reached (what is shared counts as often as it is met; a slice's spare places count too). A statement '..UptoSaid' is the law's where the arguments, and the package variables that the reading takes, are together of bulk at most 1048576: NARROWER than '..Said'. Prove '..Said' where nothing that the law and all that it calls make is longer than what came in: it says more and counts as full. Else prove '..UptoSaid'. A law counts once. -/
mutual
def uptoBulk {H : Type} : DataW H → Nat
  | .lit (.string bytes) => bytes.length + 1
  | .lit _ => 1
  | .nil => 1
  | .ptr d => uptoBulk d + 1
  | .slice elems spare => uptoBulkAll elems + uptoBulkAll spare + 1
  | .agg parts => uptoBulkAll parts + 1
  | .iface _ d => uptoBulk d + 1
  | .map entries => uptoBulkEntries entries + 1
  | .held _ => 1
def uptoBulkAll {H : Type} : List (DataW H) → Nat
  | [] => 0
  | d :: r => uptoBulk d + uptoBulkAll r
def uptoBulkEntries {H : Type} : List (Lit × DataW H) → Nat
  | [] => 0
  | x :: r => uptoBulkEntry x + uptoBulkEntries r
def uptoBulkEntry {H : Type} : Lit × DataW H → Nat
  | (.string bytes, d) => bytes.length + uptoBulk d + 1
  | (_, d) => uptoBulk d + 1
 end
def uptoSmall : (H : Type) → List (DataW H) → Bool := fun _ ds => decide (uptoBulkAll ds ≤ 1048576)
def OpenSpec.upto (s : _root_.Go.ChangeSpec) : _root_.Go.OpenSpec := { _root_.Go.OpenSpec.ofChange s with cond := some uptoSmall }

/-- 'laws.FnExactRuleOf', WHERE WHAT IT READS IS OF BULK AT MOST 1048576: true; the input reads as it did. -/
def fnExactRuleOfUptoRow : OpenClaim := { program := "ytibpahkjjjhapaa", sum := "cfd69111b2702a2b83e4f6f7c5311269d309148736cd27c51d5a8f795bfd4188", func := "loop.example/g01358/laws.FnExactRuleOf", spec := "fnExactRuleOf", apart := false, narrowed := true }
def FnExactRuleOfUptoSaid : Prop := fnExactRuleOfUptoRow.holds Try.pinned (OpenSpec.upto fnExactRuleOfSpec)

/-- 'laws.FnExactFamilyAt', WHERE WHAT IT READS IS OF BULK AT MOST 1048576: true; the input reads as it did. -/
def fnExactFamilyAtUptoRow : OpenClaim := { program := "ytibpahkjjjhapaa", sum := "cfd69111b2702a2b83e4f6f7c5311269d309148736cd27c51d5a8f795bfd4188", func := "loop.example/g01358/laws.FnExactFamilyAt", spec := "fnExactFamilyAt", inPlace := ["math.Float64bits", "math.Float64frombits"], apart := false, narrowed := true }
def FnExactFamilyAtUptoSaid : Prop := fnExactFamilyAtUptoRow.holds Try.pinned (OpenSpec.upto fnExactFamilyAtSpec)

/-- 'laws.FnExactFamilyRow', WHERE WHAT IT READS IS OF BULK AT MOST 1048576: true; the input reads as it did. -/
def fnExactFamilyRowUptoRow : OpenClaim := { program := "ytibpahkjjjhapaa", sum := "cfd69111b2702a2b83e4f6f7c5311269d309148736cd27c51d5a8f795bfd4188", func := "loop.example/g01358/laws.FnExactFamilyRow", spec := "fnExactFamilyRow", inPlace := ["math.Float64bits", "math.Float64frombits"], apart := false, narrowed := true }
def FnExactFamilyRowUptoSaid : Prop := fnExactFamilyRowUptoRow.holds Try.pinned (OpenSpec.upto fnExactFamilyRowSpec)

/-- 'laws.FnExactFamilySum', WHERE WHAT IT READS IS OF BULK AT MOST 1048576: true; the input reads as it did. -/
def fnExactFamilySumUptoRow : OpenClaim := { program := "ytibpahkjjjhapaa", sum := "cfd69111b2702a2b83e4f6f7c5311269d309148736cd27c51d5a8f795bfd4188", func := "loop.example/g01358/laws.FnExactFamilySum", spec := "fnExactFamilySum", inPlace := ["math.Float64bits", "math.Float64frombits"], unfollowed := true, recurses := true, apart := false, narrowed := true }
def FnExactFamilySumUptoSaid : Prop := fnExactFamilySumUptoRow.holds Try.pinned (OpenSpec.upto fnExactFamilySumSpec)

end Rows
end Go.Proofs.Ytibpahkjjjhapaa
