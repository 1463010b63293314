/- A call that starts no goroutine leaves none. -/
import Derived.Test.YtibpahkjjjhapacRows
import Derived.WalkKit
import Derived.ProofKit
import Derived.Conc.Holds
namespace Go.Proofs.Ytibpahkjjjhapac.leav
open Go.RowKit Go.ChangeShapes Go.WideShapes Go.ChangeAt

theorem leaving_of_alone {P : Program} {m : Machine} {w : World} {t : Trace} (h : aloneAtReturn P m w t) : leavingAtReturn P m w t := by
  refine ⟨h.2.1, ⟨fun g hg => ⟨0, ?_⟩, h.1.2⟩, h.2.2⟩
  have h1 := h.1.1
  unfold Machine.othersDone at h1
  have h2 := List.all_eq_true.1 h1 g hg
  show g.status = .finished
  cases hs : g.status <;> first | rfl | (rw [hs] at h2; cases h2)
theorem leaving_of_handed {a : Assume} {C : Checked} {os : Os} {f : FuncId} {r : Reach} {Pre : World → Array Value → Prop} {Post : World → Array Value → Value → World → Prop} (h : ReturnsInHanded a C os f r Pre Post) : ReturnsInLeavingWide a C os f r Pre Post :=
  fun enter => ReturnsInOpen.mono (fun _ _ _ x => leaving_of_alone x) (fun _ x => x) (h enter)
end Go.Proofs.Ytibpahkjjjhapac.leav
