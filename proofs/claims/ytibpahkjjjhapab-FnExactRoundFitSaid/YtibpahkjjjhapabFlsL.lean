/- What a slice of 32-bit numbers that came in gives; that it reads behind the call as before it. -/
import Derived.Test.YtibpahkjjjhapabFlsW
import Derived.Test.YtibpahkjjjhapabPost
import Derived.ProofKit
import Derived.OpenShut
import Derived.WideKeyArgs
import Derived.Deep.Slices
namespace Go.Proofs.Ytibpahkjjjhapab.fls
open Go.RowKit Go.ChangeShapes Go.WideShapes Go.ChangeAt Go.Deep

theorem cells_f32 : Try.prog.cellsOf 42 = 1 := by kernel_rfl
theorem laid : laidOutB Try.prog = true := by kernel_rfl
section
variable {H : Type} {enc : TypeId × Value → H}

theorem trod_float {P : Program} {t : TypeId} {k : FloatKind} (ht : P.underlying t = some (.float k)) {w : World} {base fuel : Nat} {spare : Nat → Bool} {held : Bool} {cs : List Value} {x : DataW H × List MemPlace} (h : DataW.trod enc P w base spare held fuel t cs = some x) : ∃ b, cs = [.float k b] := by
  cases fuel with
  | zero => simp [DataW.trod] at h
  | succ n =>
    unfold DataW.trod at h
    rw [ht] at h
    split at h <;> simp_all

theorem open_gen {P : Program} {t e : TypeId} (ht : P.underlying t = some (.slice e)) (he : P.underlying e = some (.float .f32)) (hce : P.cellsOf e = 1) {W : World} {base : Nat} {v : Value} {d : DataW H} {p : List MemPlace} (hval : Value.okWide P W .any base t v) (h : DataW.Trod enc P W 0 (fun _ => true) true t v d p) : ∃ n f, Fls W v n f := by
  obtain ⟨a1, len, cap, rfl⟩ := okWide_slice ht hval
  obtain ⟨fuel, hf⟩ := h
  rcases open_slice1 ht hce hf with ⟨hcs, hx⟩ | ⟨a, len', cap', m, n, V, D, Pl, hcs, _, hl, hm, hmm, hx, hcell⟩
  · simp [Value.cells] at hcs
    obtain ⟨rfl, rfl, rfl⟩ := hcs
    exact ⟨0, fun _ => 0, none, 0, rfl, by omega, fun h => absurd rfl h⟩
  · simp [Value.cells] at hcs
    obtain ⟨rfl, rfl, rfl⟩ := hcs
    simp only [if_true] at hmm
    have hml : maxLen = 9223372036854775807 := rfl
    refine ⟨len, fun k => match V k with | .float _ b => b | _ => 0, some a, cap, rfl, by omega, fun h0 => ?_⟩
    obtain ⟨ab, ao, spot⟩ := a
    have hc0 := (hcell 0 (by omega)).1
    have hspot : spot = none := by simpa [Addr.add] using World.cell?_spot hc0
    subst hspot
    have hlt : ab < W.heap.size := by
      rw [Addr.add_lit] at hc0
      simp only [World.cell?] at hc0
      rcases hb : W.heap[ab]? with _ | o
      · simp [hb] at hc0
      · exact (Array.getElem?_eq_some_iff.1 hb).1
    refine ⟨ab, ao, rfl, hlt, fun k hk => ?_⟩
    obtain ⟨hc, htr⟩ := hcell k (by omega)
    rw [Addr.add_lit] at hc
    obtain ⟨b, hb⟩ := trod_float he htr
    have hb' : V k = .float .f32 b := by simpa using hb
    rw [hc]
    simp only [hb']

set_option maxRecDepth 100000 in
theorem open_fls {W : World} {base : Nat} {v : Value} {d : DataW H} {p : List MemPlace} (hval : Value.okWide Try.prog W .any base 22 v) (h : DataW.Trod enc Try.prog W 0 (fun _ => true) true 22 v d p) : ∃ n f, Fls W v n f :=
  open_gen Try.underlying22 Try.underlying42 cells_f32 hval h

/-- an argument reads behind the call as before it -/
theorem kept {t : TypeId} (hr : Try.prog.readableRec t = true) (hrow : t < Try.prog.types.size) {W W' : World} {sp : Nat → Bool} {v : Value} {d : DataW H} {p : List MemPlace}
    (h : DataW.Trod enc Try.prog W 0 (fun _ => true) true t v d p) (hb : Below W.heap.size W W') (hlt : ∀ x ∈ p, x.block < W.heap.size) (hs : ∀ x ∈ p, sp x.block = true) : DataW.Trod enc Try.prog W' 0 sp true t v d p :=
  WideElems.Trod_stays laid hr hrow h (fun x hx => hb.same (hlt x hx)) hs
end
end Go.Proofs.Ytibpahkjjjhapab.fls
