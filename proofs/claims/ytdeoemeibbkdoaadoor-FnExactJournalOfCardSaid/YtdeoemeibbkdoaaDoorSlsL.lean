/- What a slice of texts that came in gives; that it reads behind the call as before it. -/
import Derived.Test.YtdeoemeibbkdoaaDoorSlsW
import Derived.Test.YtdeoemeibbkdoaaDoorPost
import Derived.ProofKit
import Derived.OpenShut
import Derived.WideKeyArgs
import Derived.Deep.Slices
import Derived.Deep.Strs
namespace Go.Proofs.YtdeoemeibbkdoaaDoor.sls
open Go.RowKit Go.ChangeShapes Go.WideShapes Go.ChangeAt Go.Deep

theorem cells_str : Tryd.prog.cellsOf 9 = 1 := by kernel_rfl
theorem laid : laidOutB Tryd.prog = true := by kernel_rfl
section
variable {H : Type} {enc : TypeId × Value → H}

theorem open_gen {P : Program} {t e : TypeId} (ht : P.underlying t = some (.slice e)) (he : P.underlying e = some .string) (hce : P.cellsOf e = 1) {W : World} {base : Nat} {v : Value} {d : DataW H} {p : List MemPlace}
    (hval : Value.okWide P W .any base t v) (h : DataW.Trod enc P W 0 (fun _ => true) true t v d p) : ∃ n f, Sls W v n f ∧ ∀ k, k < n → (f k).size ≤ 9223372036854775807 := by
  obtain ⟨a1, len, cap, rfl⟩ := okWide_slice ht hval
  obtain ⟨fuel, hf⟩ := h
  rcases open_strs ht he hce hf with ⟨hcs, hx⟩ | ⟨a, len', cap', m, Sx, hcs, _, hl, hm, hmm, hx, hcell⟩
  · simp [Value.cells] at hcs
    obtain ⟨rfl, rfl, rfl⟩ := hcs
    exact ⟨0, fun _ => ⟨#[]⟩, ⟨none, 0, rfl, by omega, fun h => absurd rfl h⟩, fun k hk => by omega⟩
  · simp [Value.cells] at hcs
    obtain ⟨rfl, rfl, rfl⟩ := hcs
    simp only [if_true] at hmm
    have hml : maxLen = 9223372036854775807 := rfl
    refine ⟨len, Sx, ⟨some a, cap, rfl, by omega, fun h0 => ?_⟩, fun k hk => by have := (hcell k (by omega)).2; omega⟩
    obtain ⟨ab, ao, spot⟩ := a
    have hc0 := (hcell 0 (by omega)).1
    have hspot : spot = none := by simpa [Addr.add] using World.cell?_spot hc0
    subst hspot
    have hlt : ab < W.heap.size := by
      rw [Addr.add_lit] at hc0
      simp only [World.cell?] at hc0
      rcases hb : W.heap[ab]? with _ | o
      · simp [hb] at hc0
      · exact (Array.getElem?_eq_some_iff.1 hb).1
    refine ⟨ab, ao, rfl, hlt, fun k hk => ?_⟩
    have hc := (hcell k (by omega)).1
    rw [Addr.add_lit] at hc
    exact hc

set_option maxRecDepth 100000 in
theorem open_sls {W : World} {base : Nat} {v : Value} {d : DataW H} {p : List MemPlace} (hval : Value.okWide Tryd.prog W .any base 38 v) (h : DataW.Trod enc Tryd.prog W 0 (fun _ => true) true 38 v d p) : ∃ n f, Sls W v n f ∧ ∀ k, k < n → (f k).size ≤ 9223372036854775807 :=
  open_gen Tryd.underlying38 Tryd.underlying9 cells_str hval h

/-- an argument reads behind the call as before it -/
theorem kept {t : TypeId} (hr : Tryd.prog.readableRec t = true) (hrow : t < Tryd.prog.types.size) {W W' : World} {sp : Nat → Bool} {v : Value} {d : DataW H} {p : List MemPlace}
    (h : DataW.Trod enc Tryd.prog W 0 (fun _ => true) true t v d p) (hb : Below W.heap.size W W') (hlt : ∀ x ∈ p, x.block < W.heap.size) (hs : ∀ x ∈ p, sp x.block = true) : DataW.Trod enc Tryd.prog W' 0 sp true t v d p :=
  WideElems.Trod_stays laid hr hrow h (fun x hx => hb.same (hlt x hx)) hs
end
end Go.Proofs.YtdeoemeibbkdoaaDoor.sls
