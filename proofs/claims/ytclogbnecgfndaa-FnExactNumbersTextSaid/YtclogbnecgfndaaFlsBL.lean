/- What a slice of 32-bit numbers that came in gives, with the bound on their bits; a call that starts no goroutine leaves none. -/
import Derived.Test.YtclogbnecgfndaaFlsL
import Derived.Test.YtclogbnecgfndaaBitsW
import Derived.Conc.Holds
namespace Go.Proofs.Ytclogbnecgfndaa.fls
open Go.RowKit Go.ChangeShapes Go.WideShapes Go.ChangeAt Go.Deep

theorem leaving_of_alone {P : Program} {m : Machine} {w : World} {t : Trace} (h : aloneAtReturn P m w t) : leavingAtReturn P m w t := by
  refine ⟨h.2.1, ⟨fun g hg => ⟨0, ?_⟩, h.1.2⟩, h.2.2⟩
  have h1 := h.1.1
  unfold Machine.othersDone at h1
  have h2 := List.all_eq_true.1 h1 g hg
  show g.status = .finished
  cases hs : g.status <;> first | rfl | (rw [hs] at h2; cases h2)
theorem leaving_of_handed {a : Assume} {C : Checked} {os : Os} {f : FuncId} {r : Reach} {Pre : World → Array Value → Prop} {Post : World → Array Value → Value → World → Prop} (h : ReturnsInHanded a C os f r Pre Post) : ReturnsInLeavingWide a C os f r Pre Post :=
  fun enter => ReturnsInOpen.mono (fun _ _ _ x => leaving_of_alone x) (fun _ x => x) (h enter)

section
variable {H : Type} {enc : TypeId × Value → H}

theorem trod_floatb {P : Program} {t : TypeId} {k : FloatKind} (ht : P.underlying t = some (.float k)) {w : World} {base fuel : Nat} {spare : Nat → Bool} {held : Bool} {cs : List Value} {x : DataW H × List MemPlace} (h : DataW.trod enc P w base spare held fuel t cs = some x) : ∃ b, cs = [.float k b] ∧ (Lit.float k b).wf = true := by
  cases fuel with
  | zero => simp [DataW.trod] at h
  | succ n =>
    unfold DataW.trod at h
    rw [ht] at h
    split at h <;> simp_all

theorem open_genb {P : Program} {t e : TypeId} (ht : P.underlying t = some (.slice e)) (he : P.underlying e = some (.float .f32)) (hce : P.cellsOf e = 1) {W : World} {base : Nat} {v : Value} {d : DataW H} {p : List MemPlace} (hval : Value.okWide P W .any base t v) (h : DataW.Trod enc P W 0 (fun _ => true) true t v d p) : ∃ n f, Fls W v n f ∧ ∀ k, k < n → (f k : Int) ≤ 4294967295 := by
  obtain ⟨a1, len, cap, rfl⟩ := okWide_slice ht hval
  obtain ⟨fuel, hf⟩ := h
  rcases open_slice1 ht hce hf with ⟨hcs, hx⟩ | ⟨a, len', cap', m, n, V, D, Pl, hcs, _, hl, hm, hmm, hx, hcell⟩
  · simp [Value.cells] at hcs
    obtain ⟨rfl, rfl, rfl⟩ := hcs
    exact ⟨0, fun _ => 0, ⟨none, 0, rfl, by omega, fun h => absurd rfl h⟩, fun k hk => by omega⟩
  · simp [Value.cells] at hcs
    obtain ⟨rfl, rfl, rfl⟩ := hcs
    simp only [if_true] at hmm
    have hml : maxLen = 9223372036854775807 := rfl
    refine ⟨len, fun k => match V k with | .float _ b => b | _ => 0, ⟨some a, cap, rfl, by omega, fun h0 => ?_⟩, fun k hk => ?_⟩
    · obtain ⟨ab, ao, spot⟩ := a
      have hc0 := (hcell 0 (by omega)).1
      have hspot : spot = none := by simpa [Addr.add] using World.cell?_spot hc0
      subst hspot
      have hlt : ab < W.heap.size := by
        rw [Addr.add_lit] at hc0
        simp only [World.cell?] at hc0
        rcases hb : W.heap[ab]? with _ | o
        · simp [hb] at hc0
        · exact (Array.getElem?_eq_some_iff.1 hb).1
      refine ⟨ab, ao, rfl, hlt, fun k hk => ?_⟩
      obtain ⟨hc, htr⟩ := hcell k (by omega)
      rw [Addr.add_lit] at hc
      obtain ⟨b, hb, _⟩ := trod_floatb he htr
      have hb' : V k = .float .f32 b := by simpa using hb
      rw [hc]
      simp only [hb']
    · obtain ⟨hc, htr⟩ := hcell k (by omega)
      obtain ⟨b, hb, hw⟩ := trod_floatb he htr
      have hb' : V k = .float .f32 b := by simpa using hb
      simp only [hb']
      exact bits.f32_le hw

set_option maxRecDepth 100000 in
theorem open_flsb {W : World} {base : Nat} {v : Value} {d : DataW H} {p : List MemPlace} (hval : Value.okWide Try.prog W .any base 59 v) (h : DataW.Trod enc Try.prog W 0 (fun _ => true) true 59 v d p) : ∃ n f, Fls W v n f ∧ ∀ k, k < n → (f k : Int) ≤ 4294967295 :=
  open_genb Try.underlying59 Try.underlying41 cells_f32 hval h
end
end Go.Proofs.Ytclogbnecgfndaa.fls
