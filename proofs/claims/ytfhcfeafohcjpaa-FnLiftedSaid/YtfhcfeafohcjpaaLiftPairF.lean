/- LiftPair: what both sides answer, for the law's walk. -/
import Derived.Test.YtfhcfeafohcjpaaLiN
import Derived.Test.YtfhcfeafohcjpaaLiM
import Derived.Test.YtfhcfeafohcjpaaW3
namespace Go.Proofs.Ytfhcfeafohcjpaa.fLiftPair
open Go.RowKit Go.Pl Go.Proofs.Ytfhcfeafohcjpaa.wh
theorem Ans2J.s {R R2 : List Int} {ok : Bool} {w : World} {e : Ending} {w' : World} (h : Ans2J R R2 ok w e w') : Ans2S R R2 ok w e w' := by
  obtain ⟨v, v2, h1, ⟨wm, hm, h2, h3⟩, h4⟩ := h
  exact ⟨v, v2, h1, h2.wide (Nat.le_refl _) hm.2, h3.wide hm.1 (Nat.le_refl _), h4⟩
theorem len2 (P G H : List Int) (p : Int) : (R P G H p).length ≤ 40 ∧ (R2 P G H p).length ≤ 40 := len P G H p
end Go.Proofs.Ytfhcfeafohcjpaa.fLiftPair
