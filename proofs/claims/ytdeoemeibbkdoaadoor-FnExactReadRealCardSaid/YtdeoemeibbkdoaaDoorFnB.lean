/- Zeros left out, and wholes made of terms: both sides. -/
import Derived.Test.YtdeoemeibbkdoaaDoorFnA
import Derived.Laws.ResultCell
import Derived.Maps.AppendAt
namespace Go.Proofs.YtdeoemeibbkdoaaDoor.wh
open Go.RowKit Go.Pl

theorem map_take_get {L : List Int} {k j : Nat} {u : Value} (h : ((L.take k).map (Value.int .i64))[j]? = some u) : ∃ z, L[j]? = some z ∧ u = .int .i64 z ∧ j < k := by
  rw [List.getElem?_map, List.getElem?_take] at h
  split at h
  · cases hz : L[j]? with
    | none => rw [hz] at h; cases h
    | some z =>
      rw [hz] at h
      exact ⟨z, rfl, (Option.some.inj h).symm, by assumption⟩
  · cases h
theorem one_of_map {L : List Int} : ∀ u ∈ L.map (Value.int .i64), u.oneCell' = true := by
  intro u hu
  obtain ⟨z, _, rfl⟩ := List.mem_map.1 hu
  rfl

theorem gv_own {w : World} {lo hi : Nat} {v : Value} {L : List Int} (h : Own w lo hi v (trim L)) (hv : val (trim L) = true) : Own w lo hi v (gv L) := by
  rw [gv_yes hv]; exact h
theorem Own.setBelow {w : World} {lo hi : Nat} {v : Value} {L : List Int} (h : Own w lo hi v L) {b j : Nat} (hb : b < lo) (u : Value) : Own (w.setCell ⟨b, j, none⟩ u) lo hi v L :=
  h.stay fun k h1 _ _ => Below.heap_setCell _ _ _ _ (by show k ≠ b; omega)

end Go.Proofs.YtdeoemeibbkdoaaDoor.wh
