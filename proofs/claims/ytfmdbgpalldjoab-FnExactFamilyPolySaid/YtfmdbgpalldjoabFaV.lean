/- The values of a family at a number: both sides make them. -/
import Derived.Test.YtfmdbgpalldjoabFaR
import Derived.Test.YtfmdbgpalldjoabFaF
import Derived.OwnWalk
import Derived.Deep.LoopGhost
import Derived.Outline
namespace Go.Proofs.Ytfmdbgpalldjoab.fa
open Go.RowKit Go.Fl Go.Fa Go.Proofs.Ytfmdbgpalldjoab.fls

/-- a list of n values in memory of its own -/
def VAns (n : Nat) (F : Nat → Nat) (w : World) (e : Ending) (w' : World) : Prop :=
  ∃ g cap L, e = .returned (.slice (some ⟨g, 0, none⟩) n cap) ∧ w'.ownsRow w.heap.size 31 1 (.slice (some ⟨g, 0, none⟩) n cap) n L ∧ FL L n F ∧ Below w.heap.size w w'

theorem one_own (w : World) (b : Nat) : (w.alloc (.cells #[.float .f32 b] 31)).ownsRow w.heap.size 31 1 (.slice (some ⟨w.heap.size, 0, none⟩) 1 1) 1 [.float .f32 b] :=
  ⟨rfl, .inr ⟨w.heap.size, 1, #[.float .f32 b], rfl, Nat.le_refl _, heap_alloc_new w _, by simp, by decide, rfl, rfl⟩⟩
theorem one_float (w : World) (u : Value) : ∀ j v, [u][j]? = some v → (w.alloc (.cells #[u] 31)).cell? ((⟨w.heap.size, 0, none⟩ : Addr).add j) = some v := by
  have ho : (w.alloc (.cells #[u] 31)).ownsRow w.heap.size 31 1 (.slice (some ⟨w.heap.size, 0, none⟩) 1 1) 1 [u] :=
    ⟨rfl, .inr ⟨w.heap.size, 1, #[u], rfl, Nat.le_refl _, heap_alloc_new w _, by omega, by decide, rfl, rfl⟩⟩
  intro j v hj
  have hl : j < 1 := by
    have := (List.getElem?_eq_some_iff.1 hj).1
    simpa using this
  rw [Addr.add_lit, Nat.zero_add, ho.cellAt j (by omega)]
  exact hj
theorem own_shape {w : World} {B n : Nat} {v : Value} {xs : List Value} (h : w.ownsRow B 31 1 v n xs) (hn : 0 < n) : ∃ g cap, v = .slice (some ⟨g, 0, none⟩) n cap := by
  rcases h.2 with ⟨_, h0⟩ | ⟨g, cap, cur, rfl, _⟩
  · omega
  · exact ⟨g, cap, rfl⟩
theorem FL.one (F : Nat → Nat) (h : F 0 = 1065353216) : FL [.float .f32 1065353216] 1 F := FL.snoc (L := []) (FL.nil F) (by rw [h]; exact Sm.refl _ _)

end Go.Proofs.Ytfmdbgpalldjoab.fa
