/- Lists of 32-bit numbers: what a slice of them holds; the copy that the exact laws make. -/
import Derived.Test.YtnodnopolhdfhaaDoorRows
import Derived.WalkKit
import Derived.WalkLawsBesides
import Derived.Deep.Draws
import Derived.Test.YtnodnopolhdfhaaDoorFlB
namespace Go.Proofs.YtnodnopolhdfhaaDoor.fls
open Go.RowKit Go.Fl

/-- the slice v holds n numbers, f 0, f 1, .. -/
def Fls (w : World) (v : Value) (n : Nat) (f : Nat → Nat) : Prop :=
  ∃ ao cap, v = .slice ao n cap ∧ n ≤ 9223372036854775807 ∧ (n ≠ 0 → ∃ b off, ao = some ⟨b, off, none⟩ ∧ b < w.heap.size ∧ ∀ k, k < n → w.cell? ⟨b, off + k, none⟩ = some (.float .f32 (f k)))

theorem Fls.below {w w' : World} {v : Value} {n : Nat} {f : Nat → Nat} (h : Fls w v n f) (hb : Below w.heap.size w w') : Fls w' v n f := by
  obtain ⟨ao, cap, rfl, hn, hc⟩ := h
  refine ⟨ao, cap, rfl, hn, fun h0 => ?_⟩
  obtain ⟨b, off, rfl, hlt, hcell⟩ := hc h0
  exact ⟨b, off, rfl, Nat.lt_of_lt_of_le hlt hb.size, fun k hk => (hb.cell hlt).trans (hcell k hk)⟩

theorem info_f : (Tryd.prog.info? 24).map (fun i => (i.zero, i.size, i.bytes)) = some (some (.float .f32 0), 1, 4) := by kernel_rfl

theorem store_float {w : World} {a : Addr} {b : Nat} {u : Value} (h : w.cell? a = some u) (hf : w.frozen? a = false) : (store a (.float .f32 b)).run Tryd.prog w = .ok () (w.setCell a (.float .f32 b)) := by
  rw [run_store _ _ _ _ _ rfl]
  simp [h, hf]

theorem own_lt {w : World} {base e size g n cap m : Nat} {xs : List Value} (h : w.ownsRow base e size (.slice (some ⟨g, 0, none⟩) n cap) m xs) : g < w.heap.size := by
  rcases h.2 with ⟨h', _⟩ | ⟨g', cap', cur, h', _, hg, _⟩
  · simp at h'
  · simp only [Value.slice.injEq, Option.some.injEq, Addr.mk.injEq, and_true] at h'
    obtain ⟨rfl, _⟩ := h'
    exact (Array.getElem?_eq_some_iff.1 hg).1

end Go.Proofs.YtnodnopolhdfhaaDoor.fls
