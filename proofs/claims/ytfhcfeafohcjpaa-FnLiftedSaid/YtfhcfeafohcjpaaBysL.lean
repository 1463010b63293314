/- What a slice of bytes that came in gives; that it reads behind the call as before it. -/
import Derived.Test.YtfhcfeafohcjpaaBysW
import Derived.Test.YtfhcfeafohcjpaaPost
import Derived.ProofKit
import Derived.OpenShut
import Derived.WideKeyArgs
namespace Go.Proofs.Ytfhcfeafohcjpaa.bys
open Go.RowKit Go.ChangeShapes Go.WideShapes Go.ChangeAt

theorem cells_u8 : Try.prog.cellsOf 5 = 1 := by kernel_rfl
theorem laid : laidOutB Try.prog = true := by kernel_rfl
section
variable {H : Type} {enc : TypeId × Value → H}

set_option maxRecDepth 100000 in
theorem open_bys {W : World} {base : Nat} {v : Value} {d : DataW H} {p : List MemPlace} (hval : Value.okWide Try.prog W .any base 39 v) (h : DataW.Trod enc Try.prog W 0 (fun _ => true) true 39 v d p) : Bys W v := by
  obtain ⟨a1, len, cap, rfl⟩ := okWide_slice Try.underlying39 hval
  obtain ⟨fuel, hf⟩ := h
  rcases open_ints Try.underlying39 Try.underlying5 cells_u8 hf with ⟨hcs, hx⟩ | ⟨a, len', cap', zs, hcs, _, hl, hm, hz, hx, hcell, hwz⟩
  · simp [Value.cells] at hcs
    obtain ⟨rfl, rfl, rfl⟩ := hcs
    exact .inl ⟨_, _, rfl⟩
  · simp [Value.cells] at hcs
    obtain ⟨rfl, rfl, rfl⟩ := hcs
    simp only [if_true] at hz
    by_cases h0 : len = 0
    · subst h0
      exact .inl ⟨_, _, rfl⟩
    · obtain ⟨ab, ao, spot⟩ := a
      have hspot : spot = none := by simpa [Addr.add] using World.cell?_spot (hcell 0 (by omega))
      subst hspot
      refine .inr ⟨ab, ao, len, cap, fun k => zs[k]?.getD 0, rfl, ?_, by omega, fun k hk => ?_⟩
      · have : maxLen = 9223372036854775807 := rfl
        omega
      · have hc := hcell k (by omega)
        rw [Addr.add_lit] at hc
        have hb := range_u8 hwz k
        rw [List.getD_eq_getElem?_getD] at hc
        exact ⟨hc, hb.1, hb.2⟩

/-- an argument reads behind the call as before it -/
theorem kept {t : TypeId} (hr : Try.prog.readableRec t = true) (hrow : t < Try.prog.types.size) {W W' : World} {sp : Nat → Bool} {v : Value} {d : DataW H} {p : List MemPlace}
    (h : DataW.Trod enc Try.prog W 0 (fun _ => true) true t v d p) (hb : Below W.heap.size W W') (hlt : ∀ x ∈ p, x.block < W.heap.size) (hs : ∀ x ∈ p, sp x.block = true) : DataW.Trod enc Try.prog W' 0 sp true t v d p :=
  WideElems.Trod_stays laid hr hrow h (fun x hx => hb.same (hlt x hx)) hs
end
end Go.Proofs.Ytfhcfeafohcjpaa.bys
