/- Lists of texts in memory of the call's own. -/
import Derived.Test.YtdeoemeibbkdoaaDoorRows
import Derived.WalkKit
import Derived.WalkLawsBesides
import Derived.Lib.SmallJoins
import Derived.Test.YtdeoemeibbkdoaaDoorDecW
import Derived.Test.YtdeoemeibbkdoaaDoorIlsD
namespace Go.Proofs.YtdeoemeibbkdoaaDoor.own
open Go.RowKit Go.Lib Go.Proofs.YtdeoemeibbkdoaaDoor.ils

theorem info_s : (Tryd.prog.info? 9).map (fun i => (i.zero, i.size, i.bytes)) = some (some (.string ⟨#[]⟩), 1, 16) := by kernel_rfl
theorem one_new (w : World) (u : Value) : ∀ j v, [u][j]? = some v → (w.alloc (.cells #[u] 9)).cell? ((⟨w.heap.size, 0, none⟩ : Addr).add j) = some v := by
  have ho : (w.alloc (.cells #[u] 9)).ownsRow w.heap.size 9 1 (.slice (some ⟨w.heap.size, 0, none⟩) 1 1) 1 [u] :=
    ⟨rfl, .inr ⟨w.heap.size, 1, #[u], rfl, Nat.le_refl _, heap_alloc_new w _, by omega, by decide, rfl, rfl⟩⟩
  intro j v hj
  have hl : j < 1 := by
    have := (List.getElem?_eq_some_iff.1 hj).1
    simpa using this
  rw [Addr.add_lit, Nat.zero_add, ho.cellAt j (by omega)]
  exact hj
theorem own_below {w w' : World} {B e g n cap : Nat} {xs : List Value} (h : w.ownsRow B e 1 (.slice (some ⟨g, 0, none⟩) n cap) n xs) (hb : Below w.heap.size w w') : w'.ownsRow B e 1 (.slice (some ⟨g, 0, none⟩) n cap) n xs := by
  have hl := ils.own_lt h
  refine ⟨h.1, ?_⟩
  rcases h.2 with ⟨h', _⟩ | ⟨g', cap', cur, h', hB, hg, r⟩
  · simp at h'
  · have h2 := h'
    simp only [Value.slice.injEq, Option.some.injEq, Addr.mk.injEq, and_true] at h2
    obtain ⟨rfl, _⟩ := h2
    exact .inr ⟨g, cap', cur, h', hB, by rw [hb.block g hl]; exact hg, r⟩
end Go.Proofs.YtdeoemeibbkdoaaDoor.own
