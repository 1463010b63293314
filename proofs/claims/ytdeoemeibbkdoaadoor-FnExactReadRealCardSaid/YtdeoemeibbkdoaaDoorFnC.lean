/- How a function that answers a whole returns; copies of lists. -/
import Derived.Test.YtdeoemeibbkdoaaDoorFnB
namespace Go.Proofs.YtdeoemeibbkdoaaDoor.wh
open Go.RowKit Go.Pl

/-- what is returned out of the result's box r -/
theorem out_yes {w W1 w5 : World} {r : Nat} {s x : Value} {R : List Int} {ok : Bool} (hB : Below w.heap.size w W1) (h1 : w.heap.size ≤ r) (h2 : r < W1.heap.size) (hX : Bx w5 r x) (ho : Own w5 W1.heap.size w5.heap.size s R) (hb : Below W1.heap.size W1 w5) :
    AnsI R ok w (.returned (.tuple #[.agg #[s], .bool ok])) (w5.setCell ⟨r, 0, none⟩ s) ∧ (w5.setCell ⟨r, 0, none⟩ s).cell? ⟨r, 0, none⟩ = some s :=
  ⟨⟨_, rfl, ⟨_, rfl, (ho.setBelow h2 s).wide hB.size (by simp)⟩, (hB.trans (hb.mono hB.size)).setCell h1 _⟩, (hX.set s).cell⟩
theorem out_no {w w5 : World} {r : Nat} {x : Value} (hB : Below w.heap.size w w5) (h1 : w.heap.size ≤ r) (hX : Bx w5 r x) :
    AnsI [] false w (.returned (.tuple #[.agg #[.slice none 0 0], .bool false])) (w5.setCell ⟨r, 0, none⟩ (.slice none 0 0)) ∧ (w5.setCell ⟨r, 0, none⟩ (.slice none 0 0)).cell? ⟨r, 0, none⟩ = some (.slice none 0 0) :=
  ⟨⟨_, rfl, OwW.zero _ _ _, hB.setCell h1 _⟩, (hX.set _).cell⟩

end Go.Proofs.YtdeoemeibbkdoaaDoor.wh
