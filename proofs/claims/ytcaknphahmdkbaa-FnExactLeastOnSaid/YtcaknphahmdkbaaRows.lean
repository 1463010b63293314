/-
  No cell of these rows narrows 'for every input' (looked for: loops, veiled, ifaces, maps, wideKeys, modest, calm, conditions, laid).
  DERIVED. THE GIVEN ROWS OF THIS SEAT. 12 by the template 'for every input the law returns true; each argument reads behind the call as it read before'; 0 by the template 'total and deterministic' (their statements: YtcaknphahmdkbaaTotals.lean).
  GIVEN WITH THE SEED: the statements are not yours to turn. If you find one false, say at which input.
  Laid BY PROGRAM, IN A SANDBOX (cutbox-rows.mjs): the forced cells as the released guide's own fill.sh prints them over the translation c5bcf42194853f34… (all of the seat's roots in one cut). By AI agents, Wed Nov 11 2026. No macro, syntax, notation, axiom, sorry.
-/
import Derived.Test.YtcaknphahmdkbaaChecked
import GoSem.Claim
import GoSem.ClaimJoined
import GoSem.ClaimMapViews
import Derived.JoinedTies
import Derived.KernelRfl
namespace Go.Proofs.Ytcaknphahmdkbaa
/- THE CELL 'sum', in the pinned program and in every row, IS THE sha256 OF THE DUMP (.gsa) THAT YtcaknphahmdkbaaProg.lean LOADS. Nothing in Lean hashes anything: it is a label: what it is worth is what the hold of that sum in a sandbox is worth. -/
noncomputable def Try.pinned : Pinned := { name := "ytcaknphahmdkbaa", sum := "c5bcf42194853f347cc8c72acdfb3c2690dc4eed695847d4ad95e9a2d838e36c", checked := Try.checked }
namespace Rows
def none {H : Type} : Left H := { results := [], args := [] }

/-- 'laws.FnExactValidReal': WHATEVER THE INPUT: true; the input reads as it did. -/
def fnExactValidRealSpec : ChangeSpec := { name := "fnExactValidReal", fn := fun _ => fun
  | [d] => { results := [.lit (.bool true)], args := [d] }
  | _ => none }
def fnExactValidRealRow : OpenClaim := { program := "ytcaknphahmdkbaa", sum := "c5bcf42194853f347cc8c72acdfb3c2690dc4eed695847d4ad95e9a2d838e36c", func := "loop.example/g01358/laws.FnExactValidReal", spec := "fnExactValidReal", apart := false }
def FnExactValidRealSaid : Prop := fnExactValidRealRow.holds Try.pinned (OpenSpec.ofChange fnExactValidRealSpec)

/-- ITS FALSE NEIGHBOUR: 'it returns false'. Refute it at one input. -/
def fnExactValidRealWrong : ChangeSpec := { name := "fnExactValidReal", fn := fun _ => fun
  | [d] => { results := [.lit (.bool false)], args := [d] }
  | _ => none }
def FnExactValidRealWrongFalsely : Prop := fnExactValidRealRow.holds Try.pinned (OpenSpec.ofChange fnExactValidRealWrong)

/-- 'laws.FnExactSameReal': WHATEVER THE INPUT: true; the input reads as it did. -/
def fnExactSameRealSpec : ChangeSpec := { name := "fnExactSameReal", fn := fun _ => fun
  | [d1, d2] => { results := [.lit (.bool true)], args := [d1, d2] }
  | _ => none }
def fnExactSameRealRow : OpenClaim := { program := "ytcaknphahmdkbaa", sum := "c5bcf42194853f347cc8c72acdfb3c2690dc4eed695847d4ad95e9a2d838e36c", func := "loop.example/g01358/laws.FnExactSameReal", spec := "fnExactSameReal", apart := false }
def FnExactSameRealSaid : Prop := fnExactSameRealRow.holds Try.pinned (OpenSpec.ofChange fnExactSameRealSpec)

/-- ITS FALSE NEIGHBOUR: 'it returns false'. Refute it at one input. -/
def fnExactSameRealWrong : ChangeSpec := { name := "fnExactSameReal", fn := fun _ => fun
  | [d1, d2] => { results := [.lit (.bool false)], args := [d1, d2] }
  | _ => none }
def FnExactSameRealWrongFalsely : Prop := fnExactSameRealRow.holds Try.pinned (OpenSpec.ofChange fnExactSameRealWrong)

/-- 'laws.FnExactSignChanges': WHATEVER THE INPUT: true; the input reads as it did. -/
def fnExactSignChangesSpec : ChangeSpec := { name := "fnExactSignChanges", fn := fun _ => fun
  | [d] => { results := [.lit (.bool true)], args := [d] }
  | _ => none }
def fnExactSignChangesRow : OpenClaim := { program := "ytcaknphahmdkbaa", sum := "c5bcf42194853f347cc8c72acdfb3c2690dc4eed695847d4ad95e9a2d838e36c", func := "loop.example/g01358/laws.FnExactSignChanges", spec := "fnExactSignChanges", apart := false }
def FnExactSignChangesSaid : Prop := fnExactSignChangesRow.holds Try.pinned (OpenSpec.ofChange fnExactSignChangesSpec)

/-- ITS FALSE NEIGHBOUR: 'it returns false'. Refute it at one input. -/
def fnExactSignChangesWrong : ChangeSpec := { name := "fnExactSignChanges", fn := fun _ => fun
  | [d] => { results := [.lit (.bool false)], args := [d] }
  | _ => none }
def FnExactSignChangesWrongFalsely : Prop := fnExactSignChangesRow.holds Try.pinned (OpenSpec.ofChange fnExactSignChangesWrong)

/-- 'laws.FnExactMirrorReal': WHATEVER THE INPUT: true; the input reads as it did. -/
def fnExactMirrorRealSpec : ChangeSpec := { name := "fnExactMirrorReal", fn := fun _ => fun
  | [d] => { results := [.lit (.bool true)], args := [d] }
  | _ => none }
def fnExactMirrorRealRow : OpenClaim := { program := "ytcaknphahmdkbaa", sum := "c5bcf42194853f347cc8c72acdfb3c2690dc4eed695847d4ad95e9a2d838e36c", func := "loop.example/g01358/laws.FnExactMirrorReal", spec := "fnExactMirrorReal", apart := false }
def FnExactMirrorRealSaid : Prop := fnExactMirrorRealRow.holds Try.pinned (OpenSpec.ofChange fnExactMirrorRealSpec)

/-- ITS FALSE NEIGHBOUR: 'it returns false'. Refute it at one input. -/
def fnExactMirrorRealWrong : ChangeSpec := { name := "fnExactMirrorReal", fn := fun _ => fun
  | [d] => { results := [.lit (.bool false)], args := [d] }
  | _ => none }
def FnExactMirrorRealWrongFalsely : Prop := fnExactMirrorRealRow.holds Try.pinned (OpenSpec.ofChange fnExactMirrorRealWrong)

/-- 'laws.FnExactReachOf': WHATEVER THE INPUT: true; the input reads as it did. -/
def fnExactReachOfSpec : ChangeSpec := { name := "fnExactReachOf", fn := fun _ => fun
  | [d] => { results := [.lit (.bool true)], args := [d] }
  | _ => none }
def fnExactReachOfRow : OpenClaim := { program := "ytcaknphahmdkbaa", sum := "c5bcf42194853f347cc8c72acdfb3c2690dc4eed695847d4ad95e9a2d838e36c", func := "loop.example/g01358/laws.FnExactReachOf", spec := "fnExactReachOf", apart := false }
def FnExactReachOfSaid : Prop := fnExactReachOfRow.holds Try.pinned (OpenSpec.ofChange fnExactReachOfSpec)

/-- ITS FALSE NEIGHBOUR: 'it returns false'. Refute it at one input. -/
def fnExactReachOfWrong : ChangeSpec := { name := "fnExactReachOf", fn := fun _ => fun
  | [d] => { results := [.lit (.bool false)], args := [d] }
  | _ => none }
def FnExactReachOfWrongFalsely : Prop := fnExactReachOfRow.holds Try.pinned (OpenSpec.ofChange fnExactReachOfWrong)

/-- 'laws.FnExactValidGap': WHATEVER THE INPUT: true; the input reads as it did. -/
def fnExactValidGapSpec : ChangeSpec := { name := "fnExactValidGap", fn := fun _ => fun
  | [d] => { results := [.lit (.bool true)], args := [d] }
  | _ => none }
def fnExactValidGapRow : OpenClaim := { program := "ytcaknphahmdkbaa", sum := "c5bcf42194853f347cc8c72acdfb3c2690dc4eed695847d4ad95e9a2d838e36c", func := "loop.example/g01358/laws.FnExactValidGap", spec := "fnExactValidGap", apart := false }
def FnExactValidGapSaid : Prop := fnExactValidGapRow.holds Try.pinned (OpenSpec.ofChange fnExactValidGapSpec)

/-- ITS FALSE NEIGHBOUR: 'it returns false'. Refute it at one input. -/
def fnExactValidGapWrong : ChangeSpec := { name := "fnExactValidGap", fn := fun _ => fun
  | [d] => { results := [.lit (.bool false)], args := [d] }
  | _ => none }
def FnExactValidGapWrongFalsely : Prop := fnExactValidGapRow.holds Try.pinned (OpenSpec.ofChange fnExactValidGapWrong)

/-- 'laws.FnExactMiddleOf': WHATEVER THE INPUT: true; the input reads as it did. -/
def fnExactMiddleOfSpec : ChangeSpec := { name := "fnExactMiddleOf", fn := fun _ => fun
  | [d] => { results := [.lit (.bool true)], args := [d] }
  | _ => none }
def fnExactMiddleOfRow : OpenClaim := { program := "ytcaknphahmdkbaa", sum := "c5bcf42194853f347cc8c72acdfb3c2690dc4eed695847d4ad95e9a2d838e36c", func := "loop.example/g01358/laws.FnExactMiddleOf", spec := "fnExactMiddleOf", apart := false }
def FnExactMiddleOfSaid : Prop := fnExactMiddleOfRow.holds Try.pinned (OpenSpec.ofChange fnExactMiddleOfSpec)

/-- ITS FALSE NEIGHBOUR: 'it returns false'. Refute it at one input. -/
def fnExactMiddleOfWrong : ChangeSpec := { name := "fnExactMiddleOf", fn := fun _ => fun
  | [d] => { results := [.lit (.bool false)], args := [d] }
  | _ => none }
def FnExactMiddleOfWrongFalsely : Prop := fnExactMiddleOfRow.holds Try.pinned (OpenSpec.ofChange fnExactMiddleOfWrong)

/-- 'laws.FnExactLeastOn': WHATEVER THE INPUT: true; the input reads as it did. -/
def fnExactLeastOnSpec : ChangeSpec := { name := "fnExactLeastOn", fn := fun _ => fun
  | [d1, d2, d3] => { results := [.lit (.bool true)], args := [d1, d2, d3] }
  | _ => none }
def fnExactLeastOnRow : OpenClaim := { program := "ytcaknphahmdkbaa", sum := "c5bcf42194853f347cc8c72acdfb3c2690dc4eed695847d4ad95e9a2d838e36c", func := "loop.example/g01358/laws.FnExactLeastOn", spec := "fnExactLeastOn", unfollowed := true, recurses := true, apart := false }
def FnExactLeastOnSaid : Prop := fnExactLeastOnRow.holds Try.pinned (OpenSpec.ofChange fnExactLeastOnSpec)

/-- ITS FALSE NEIGHBOUR: 'it returns false'. Refute it at one input. -/
def fnExactLeastOnWrong : ChangeSpec := { name := "fnExactLeastOn", fn := fun _ => fun
  | [d1, d2, d3] => { results := [.lit (.bool false)], args := [d1, d2, d3] }
  | _ => none }
def FnExactLeastOnWrongFalsely : Prop := fnExactLeastOnRow.holds Try.pinned (OpenSpec.ofChange fnExactLeastOnWrong)

/-- 'laws.FnExactRealOfRoots': WHATEVER THE INPUT: true; the input reads as it did. -/
def fnExactRealOfRootsSpec : ChangeSpec := { name := "fnExactRealOfRoots", fn := fun _ => fun
  | [d] => { results := [.lit (.bool true)], args := [d] }
  | _ => none }
def fnExactRealOfRootsRow : OpenClaim := { program := "ytcaknphahmdkbaa", sum := "c5bcf42194853f347cc8c72acdfb3c2690dc4eed695847d4ad95e9a2d838e36c", func := "loop.example/g01358/laws.FnExactRealOfRoots", spec := "fnExactRealOfRoots", apart := false }
def FnExactRealOfRootsSaid : Prop := fnExactRealOfRootsRow.holds Try.pinned (OpenSpec.ofChange fnExactRealOfRootsSpec)

/-- ITS FALSE NEIGHBOUR: 'it returns false'. Refute it at one input. -/
def fnExactRealOfRootsWrong : ChangeSpec := { name := "fnExactRealOfRoots", fn := fun _ => fun
  | [d] => { results := [.lit (.bool false)], args := [d] }
  | _ => none }
def FnExactRealOfRootsWrongFalsely : Prop := fnExactRealOfRootsRow.holds Try.pinned (OpenSpec.ofChange fnExactRealOfRootsWrong)

/-- 'laws.FnExactDivideRoot': WHATEVER THE INPUT: true; the input reads as it did. -/
def fnExactDivideRootSpec : ChangeSpec := { name := "fnExactDivideRoot", fn := fun _ => fun
  | [d1, d2, d3] => { results := [.lit (.bool true)], args := [d1, d2, d3] }
  | _ => none }
def fnExactDivideRootRow : OpenClaim := { program := "ytcaknphahmdkbaa", sum := "c5bcf42194853f347cc8c72acdfb3c2690dc4eed695847d4ad95e9a2d838e36c", func := "loop.example/g01358/laws.FnExactDivideRoot", spec := "fnExactDivideRoot", unfollowed := true, recurses := true, apart := false }
def FnExactDivideRootSaid : Prop := fnExactDivideRootRow.holds Try.pinned (OpenSpec.ofChange fnExactDivideRootSpec)

/-- ITS FALSE NEIGHBOUR: 'it returns false'. Refute it at one input. -/
def fnExactDivideRootWrong : ChangeSpec := { name := "fnExactDivideRoot", fn := fun _ => fun
  | [d1, d2, d3] => { results := [.lit (.bool false)], args := [d1, d2, d3] }
  | _ => none }
def FnExactDivideRootWrongFalsely : Prop := fnExactDivideRootRow.holds Try.pinned (OpenSpec.ofChange fnExactDivideRootWrong)

/-- 'laws.FnExactOftenRoot': WHATEVER THE INPUT: true; the input reads as it did. -/
def fnExactOftenRootSpec : ChangeSpec := { name := "fnExactOftenRoot", fn := fun _ => fun
  | [d1, d2, d3] => { results := [.lit (.bool true)], args := [d1, d2, d3] }
  | _ => none }
def fnExactOftenRootRow : OpenClaim := { program := "ytcaknphahmdkbaa", sum := "c5bcf42194853f347cc8c72acdfb3c2690dc4eed695847d4ad95e9a2d838e36c", func := "loop.example/g01358/laws.FnExactOftenRoot", spec := "fnExactOftenRoot", unfollowed := true, recurses := true, apart := false }
def FnExactOftenRootSaid : Prop := fnExactOftenRootRow.holds Try.pinned (OpenSpec.ofChange fnExactOftenRootSpec)

/-- ITS FALSE NEIGHBOUR: 'it returns false'. Refute it at one input. -/
def fnExactOftenRootWrong : ChangeSpec := { name := "fnExactOftenRoot", fn := fun _ => fun
  | [d1, d2, d3] => { results := [.lit (.bool false)], args := [d1, d2, d3] }
  | _ => none }
def FnExactOftenRootWrongFalsely : Prop := fnExactOftenRootRow.holds Try.pinned (OpenSpec.ofChange fnExactOftenRootWrong)

/-- 'laws.FnExactRatioRoots': WHATEVER THE INPUT: true; the input reads as it did. -/
def fnExactRatioRootsSpec : ChangeSpec := { name := "fnExactRatioRoots", fn := fun _ => fun
  | [d] => { results := [.lit (.bool true)], args := [d] }
  | _ => none }
def fnExactRatioRootsRow : OpenClaim := { program := "ytcaknphahmdkbaa", sum := "c5bcf42194853f347cc8c72acdfb3c2690dc4eed695847d4ad95e9a2d838e36c", func := "loop.example/g01358/laws.FnExactRatioRoots", spec := "fnExactRatioRoots", unfollowed := true, recurses := true, apart := false }
def FnExactRatioRootsSaid : Prop := fnExactRatioRootsRow.holds Try.pinned (OpenSpec.ofChange fnExactRatioRootsSpec)

/-- ITS FALSE NEIGHBOUR: 'it returns false'. Refute it at one input. -/
def fnExactRatioRootsWrong : ChangeSpec := { name := "fnExactRatioRoots", fn := fun _ => fun
  | [d] => { results := [.lit (.bool false)], args := [d] }
  | _ => none }
def FnExactRatioRootsWrongFalsely : Prop := fnExactRatioRootsRow.holds Try.pinned (OpenSpec.ofChange fnExactRatioRootsWrong)

/- THE SECOND FORM. 'bulk': how many values and letters a reading holds, each counted each time it is reached (what is shared counts as often as it is met; a slice's spare places count too). A statement '..UptoSaid' is the law's where the arguments, and the package variables that the reading takes, are together of bulk at most 1048576: NARROWER than '..Said'. Prove '..Said' where nothing that the law and all that it calls make is longer than what came in: it says more and counts as full. Else prove '..UptoSaid'. A law counts once. -/
mutual
def uptoBulk {H : Type} : DataW H → Nat
  | .lit (.string bytes) => bytes.length + 1
  | .lit _ => 1
  | .nil => 1
  | .ptr d => uptoBulk d + 1
  | .slice elems spare => uptoBulkAll elems + uptoBulkAll spare + 1
  | .agg parts => uptoBulkAll parts + 1
  | .iface _ d => uptoBulk d + 1
  | .map entries => uptoBulkEntries entries + 1
  | .held _ => 1
def uptoBulkAll {H : Type} : List (DataW H) → Nat
  | [] => 0
  | d :: r => uptoBulk d + uptoBulkAll r
def uptoBulkEntries {H : Type} : List (Lit × DataW H) → Nat
  | [] => 0
  | x :: r => uptoBulkEntry x + uptoBulkEntries r
def uptoBulkEntry {H : Type} : Lit × DataW H → Nat
  | (.string bytes, d) => bytes.length + uptoBulk d + 1
  | (_, d) => uptoBulk d + 1
 end
def uptoSmall : (H : Type) → List (DataW H) → Bool := fun _ ds => decide (uptoBulkAll ds ≤ 1048576)
def OpenSpec.upto (s : _root_.Go.ChangeSpec) : _root_.Go.OpenSpec := { _root_.Go.OpenSpec.ofChange s with cond := some uptoSmall }

/-- 'laws.FnExactValidReal', WHERE WHAT IT READS IS OF BULK AT MOST 1048576: true; the input reads as it did. -/
def fnExactValidRealUptoRow : OpenClaim := { program := "ytcaknphahmdkbaa", sum := "c5bcf42194853f347cc8c72acdfb3c2690dc4eed695847d4ad95e9a2d838e36c", func := "loop.example/g01358/laws.FnExactValidReal", spec := "fnExactValidReal", apart := false, narrowed := true }
def FnExactValidRealUptoSaid : Prop := fnExactValidRealUptoRow.holds Try.pinned (OpenSpec.upto fnExactValidRealSpec)

/-- 'laws.FnExactSameReal', WHERE WHAT IT READS IS OF BULK AT MOST 1048576: true; the input reads as it did. -/
def fnExactSameRealUptoRow : OpenClaim := { program := "ytcaknphahmdkbaa", sum := "c5bcf42194853f347cc8c72acdfb3c2690dc4eed695847d4ad95e9a2d838e36c", func := "loop.example/g01358/laws.FnExactSameReal", spec := "fnExactSameReal", apart := false, narrowed := true }
def FnExactSameRealUptoSaid : Prop := fnExactSameRealUptoRow.holds Try.pinned (OpenSpec.upto fnExactSameRealSpec)

/-- 'laws.FnExactSignChanges', WHERE WHAT IT READS IS OF BULK AT MOST 1048576: true; the input reads as it did. -/
def fnExactSignChangesUptoRow : OpenClaim := { program := "ytcaknphahmdkbaa", sum := "c5bcf42194853f347cc8c72acdfb3c2690dc4eed695847d4ad95e9a2d838e36c", func := "loop.example/g01358/laws.FnExactSignChanges", spec := "fnExactSignChanges", apart := false, narrowed := true }
def FnExactSignChangesUptoSaid : Prop := fnExactSignChangesUptoRow.holds Try.pinned (OpenSpec.upto fnExactSignChangesSpec)

/-- 'laws.FnExactMirrorReal', WHERE WHAT IT READS IS OF BULK AT MOST 1048576: true; the input reads as it did. -/
def fnExactMirrorRealUptoRow : OpenClaim := { program := "ytcaknphahmdkbaa", sum := "c5bcf42194853f347cc8c72acdfb3c2690dc4eed695847d4ad95e9a2d838e36c", func := "loop.example/g01358/laws.FnExactMirrorReal", spec := "fnExactMirrorReal", apart := false, narrowed := true }
def FnExactMirrorRealUptoSaid : Prop := fnExactMirrorRealUptoRow.holds Try.pinned (OpenSpec.upto fnExactMirrorRealSpec)

/-- 'laws.FnExactReachOf', WHERE WHAT IT READS IS OF BULK AT MOST 1048576: true; the input reads as it did. -/
def fnExactReachOfUptoRow : OpenClaim := { program := "ytcaknphahmdkbaa", sum := "c5bcf42194853f347cc8c72acdfb3c2690dc4eed695847d4ad95e9a2d838e36c", func := "loop.example/g01358/laws.FnExactReachOf", spec := "fnExactReachOf", apart := false, narrowed := true }
def FnExactReachOfUptoSaid : Prop := fnExactReachOfUptoRow.holds Try.pinned (OpenSpec.upto fnExactReachOfSpec)

/-- 'laws.FnExactValidGap', WHERE WHAT IT READS IS OF BULK AT MOST 1048576: true; the input reads as it did. -/
def fnExactValidGapUptoRow : OpenClaim := { program := "ytcaknphahmdkbaa", sum := "c5bcf42194853f347cc8c72acdfb3c2690dc4eed695847d4ad95e9a2d838e36c", func := "loop.example/g01358/laws.FnExactValidGap", spec := "fnExactValidGap", apart := false, narrowed := true }
def FnExactValidGapUptoSaid : Prop := fnExactValidGapUptoRow.holds Try.pinned (OpenSpec.upto fnExactValidGapSpec)

/-- 'laws.FnExactMiddleOf', WHERE WHAT IT READS IS OF BULK AT MOST 1048576: true; the input reads as it did. -/
def fnExactMiddleOfUptoRow : OpenClaim := { program := "ytcaknphahmdkbaa", sum := "c5bcf42194853f347cc8c72acdfb3c2690dc4eed695847d4ad95e9a2d838e36c", func := "loop.example/g01358/laws.FnExactMiddleOf", spec := "fnExactMiddleOf", apart := false, narrowed := true }
def FnExactMiddleOfUptoSaid : Prop := fnExactMiddleOfUptoRow.holds Try.pinned (OpenSpec.upto fnExactMiddleOfSpec)

/-- 'laws.FnExactLeastOn', WHERE WHAT IT READS IS OF BULK AT MOST 1048576: true; the input reads as it did. -/
def fnExactLeastOnUptoRow : OpenClaim := { program := "ytcaknphahmdkbaa", sum := "c5bcf42194853f347cc8c72acdfb3c2690dc4eed695847d4ad95e9a2d838e36c", func := "loop.example/g01358/laws.FnExactLeastOn", spec := "fnExactLeastOn", unfollowed := true, recurses := true, apart := false, narrowed := true }
def FnExactLeastOnUptoSaid : Prop := fnExactLeastOnUptoRow.holds Try.pinned (OpenSpec.upto fnExactLeastOnSpec)

/-- 'laws.FnExactRealOfRoots', WHERE WHAT IT READS IS OF BULK AT MOST 1048576: true; the input reads as it did. -/
def fnExactRealOfRootsUptoRow : OpenClaim := { program := "ytcaknphahmdkbaa", sum := "c5bcf42194853f347cc8c72acdfb3c2690dc4eed695847d4ad95e9a2d838e36c", func := "loop.example/g01358/laws.FnExactRealOfRoots", spec := "fnExactRealOfRoots", apart := false, narrowed := true }
def FnExactRealOfRootsUptoSaid : Prop := fnExactRealOfRootsUptoRow.holds Try.pinned (OpenSpec.upto fnExactRealOfRootsSpec)

/-- 'laws.FnExactDivideRoot', WHERE WHAT IT READS IS OF BULK AT MOST 1048576: true; the input reads as it did. -/
def fnExactDivideRootUptoRow : OpenClaim := { program := "ytcaknphahmdkbaa", sum := "c5bcf42194853f347cc8c72acdfb3c2690dc4eed695847d4ad95e9a2d838e36c", func := "loop.example/g01358/laws.FnExactDivideRoot", spec := "fnExactDivideRoot", unfollowed := true, recurses := true, apart := false, narrowed := true }
def FnExactDivideRootUptoSaid : Prop := fnExactDivideRootUptoRow.holds Try.pinned (OpenSpec.upto fnExactDivideRootSpec)

/-- 'laws.FnExactOftenRoot', WHERE WHAT IT READS IS OF BULK AT MOST 1048576: true; the input reads as it did. -/
def fnExactOftenRootUptoRow : OpenClaim := { program := "ytcaknphahmdkbaa", sum := "c5bcf42194853f347cc8c72acdfb3c2690dc4eed695847d4ad95e9a2d838e36c", func := "loop.example/g01358/laws.FnExactOftenRoot", spec := "fnExactOftenRoot", unfollowed := true, recurses := true, apart := false, narrowed := true }
def FnExactOftenRootUptoSaid : Prop := fnExactOftenRootUptoRow.holds Try.pinned (OpenSpec.upto fnExactOftenRootSpec)

/-- 'laws.FnExactRatioRoots', WHERE WHAT IT READS IS OF BULK AT MOST 1048576: true; the input reads as it did. -/
def fnExactRatioRootsUptoRow : OpenClaim := { program := "ytcaknphahmdkbaa", sum := "c5bcf42194853f347cc8c72acdfb3c2690dc4eed695847d4ad95e9a2d838e36c", func := "loop.example/g01358/laws.FnExactRatioRoots", spec := "fnExactRatioRoots", unfollowed := true, recurses := true, apart := false, narrowed := true }
def FnExactRatioRootsUptoSaid : Prop := fnExactRatioRootsUptoRow.holds Try.pinned (OpenSpec.upto fnExactRatioRootsSpec)

end Rows
end Go.Proofs.Ytcaknphahmdkbaa
