/- What a whole that came in, and a list of 64-bit integers, gives; that it reads behind the call as before it. -/
import Derived.Test.YtfhcfeafohcjpaaWw
import Derived.ProofKit
import Derived.OpenShut
import Derived.WideKeyArgs
import Derived.Deep.Slices
import Derived.ChangeSame
import Derived.Lib.SmallJoins
namespace Go.Proofs.Ytfhcfeafohcjpaa.wh
open Go.RowKit Go.ChangeShapes Go.WideShapes Go.ChangeAt Go.Deep Go.Joins

theorem cells_i64 : Try.prog.cellsOf 2 = 1 := by kernel_rfl
theorem laid : laidOutB Try.prog = true := by kernel_rfl
section
variable {H : Type} {enc : TypeId × Value → H}

theorem trod_i {P : Program} {t : TypeId} {k : IntKind} (ht : P.underlying t = some (.int k)) {w : World} {base fuel : Nat} {spare : Nat → Bool} {held : Bool} {cs : List Value} {x : DataW H × List MemPlace} (h : DataW.trod enc P w base spare held fuel t cs = some x) : ∃ b, cs = [.int k b] := by
  cases fuel with
  | zero => simp [DataW.trod] at h
  | succ n =>
    unfold DataW.trod at h
    rw [ht] at h
    split at h <;> simp_all

theorem open_gen {P : Program} {t e : TypeId} (ht : P.underlying t = some (.slice e)) (he : P.underlying e = some (.int .i64)) (hce : P.cellsOf e = 1) {W : World} {v : Value} {fuel : Nat} {y : DataW H × List MemPlace} (hf : DataW.trod enc P W 0 (fun _ => true) true fuel t [v] = some y) : ∃ L, Ls W v L := by
  rcases open_slice1 ht hce hf with ⟨hcs, hx⟩ | ⟨a, len', cap', m, n, V, D, Pl, hcs, _, hl, hm, hmm, hx, hcell⟩
  · simp at hcs
    subst hcs
    exact ⟨[], none, 0, rfl, by simp, by simp, fun h => absurd rfl h⟩
  · simp at hcs
    subst hcs
    simp only [if_true] at hmm
    have hml : maxLen = 9223372036854775807 := rfl
    refine ⟨(List.range len').map fun k => (match V k with | .int _ b => b | _ => 0), some a, cap', by simp, by simp; omega, by simp; omega, fun h0 => ?_⟩
    simp only [List.length_map, List.length_range] at h0
    obtain ⟨ab, ao, spot⟩ := a
    have hc0 := (hcell 0 (by omega)).1
    have hspot : spot = none := by simpa [Addr.add] using World.cell?_spot hc0
    subst hspot
    have hlt : ab < W.heap.size := by
      rw [Addr.add_lit] at hc0
      simp only [World.cell?] at hc0
      rcases hb : W.heap[ab]? with _ | o
      · simp [hb] at hc0
      · exact (Array.getElem?_eq_some_iff.1 hb).1
    refine ⟨ab, ao, rfl, hlt, fun k z hk => ?_⟩
    have hkl : k < len' := by
      have := (List.getElem?_eq_some_iff.1 hk).1
      simpa using this
    rw [List.getElem?_map, List.getElem?_range hkl] at hk
    simp only [Option.map_some, Option.some.injEq] at hk
    obtain ⟨hc, htr⟩ := hcell k (by omega)
    rw [Addr.add_lit] at hc
    obtain ⟨b, hb⟩ := trod_i he htr
    have hb' : V k = .int .i64 b := by simpa using hb
    rw [hc, ← hk]
    simp only [hb']

set_option maxRecDepth 100000 in
theorem open_ls {W : World} {base : Nat} {v : Value} {d : DataW H} {p : List MemPlace} (hval : Value.okWide Try.prog W .any base 22 v) (h : DataW.Trod enc Try.prog W 0 (fun _ => true) true 22 v d p) : ∃ L, Ls W v L := by
  obtain ⟨a1, len, cap, rfl⟩ := okWide_slice Try.underlying22 hval
  obtain ⟨fuel, hf⟩ := h
  exact open_gen Try.underlying22 Try.underlying2 cells_i64 (by simpa [Value.cells] using hf)

theorem open_agg1 {P : Program} {w : World} {base : Nat} {spare : Nat → Bool} {held : Bool} {r : Reach} {b0 : Nat} {t : TypeId} {f0 : Field} {v : Value} {d : DataW H} {p : List MemPlace} (hs : P.underlying t = some (.struct #[f0])) (hone : oneCellFields P #[f0] = true) (hC : P.cellsOf t = 1)
    (hv : Value.okWide P w r b0 t v) (h : DataW.Trod enc P w base spare held t v d p) :
    ∃ (v0 : Value) (y0 : DataW H × List MemPlace) (n : Nat), v = .agg #[v0] ∧ d = .agg [y0.1] ∧ p = y0.2 ∧ DataW.trod enc P w base spare held n f0.type [v0] = some y0 := by
  obtain ⟨cs, rfl, hsz⟩ := okWide_struct hs hv
  obtain ⟨l⟩ := cs
  match l, hsz.trans hC with
  | [c0], _ =>
    obtain ⟨fuel, hf⟩ := h
    obtain ⟨y0, n, hx, _, h0⟩ := trod_struct1 hs hf
    obtain ⟨o0, k0⟩ := hone_of hone 0 f0 rfl
    simp only [Prod.mk.injEq] at hx
    exact ⟨c0, y0, n, rfl, hx.1, hx.2, by simpa [Value.cells, o0, k0] using h0⟩

set_option maxRecDepth 100000 in
theorem open_whole {W : World} {base : Nat} {v : Value} {d : DataW H} {p : List MemPlace} (hval : Value.okWide Try.prog W .any base 24 v) (h : DataW.Trod enc Try.prog W 0 (fun _ => true) true 24 v d p) : ∃ L, Wh W v L := by
  obtain ⟨v0, y0, n, rfl, _, _, h0⟩ := open_agg1 Try.underlying24 (by kernel_rfl) (by kernel_rfl) hval h
  obtain ⟨L, hL⟩ := open_gen Try.underlying22 Try.underlying2 cells_i64 h0
  exact ⟨L, v0, rfl, hL⟩

/-- an argument reads behind the call as before it -/
theorem kept {t : TypeId} (hr : Try.prog.readableRec t = true) (hrow : t < Try.prog.types.size) {W W' : World} {sp : Nat → Bool} {v : Value} {d : DataW H} {p : List MemPlace}
    (h : DataW.Trod enc Try.prog W 0 (fun _ => true) true t v d p) (hb : Below W.heap.size W W') (hlt : ∀ x ∈ p, x.block < W.heap.size) (hs : ∀ x ∈ p, sp x.block = true) : DataW.Trod enc Try.prog W' 0 sp true t v d p :=
  WideElems.Trod_stays laid hr hrow h (fun x hx => hb.same (hlt x hx)) hs
end
end Go.Proofs.Ytfhcfeafohcjpaa.wh
