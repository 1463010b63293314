/- How a function that answers a whole returns; copies of lists. -/
import Derived.Test.YtfhcfeafohcjpaaFnB
namespace Go.Proofs.Ytfhcfeafohcjpaa.wh
open Go.RowKit Go.Pl

/-- what is returned out of the result's box r -/
theorem out_yes {w W1 w5 : World} {r : Nat} {s x : Value} {R : List Int} {ok : Bool} (hB : Below w.heap.size w W1) (h1 : w.heap.size ≤ r) (h2 : r < W1.heap.size) (hX : Bx w5 r x) (ho : Own w5 W1.heap.size w5.heap.size s R) (hb : Below W1.heap.size W1 w5) :
    AnsI R ok w (.returned (.tuple #[.agg #[s], .bool ok])) (w5.setCell ⟨r, 0, none⟩ s) ∧ (w5.setCell ⟨r, 0, none⟩ s).cell? ⟨r, 0, none⟩ = some s :=
  ⟨⟨_, rfl, ⟨_, rfl, (ho.setBelow h2 s).wide hB.size (by simp)⟩, (hB.trans (hb.mono hB.size)).setCell h1 _⟩, (hX.set s).cell⟩
theorem out_no {w w5 : World} {r : Nat} {x : Value} (hB : Below w.heap.size w w5) (h1 : w.heap.size ≤ r) (hX : Bx w5 r x) :
    AnsI [] false w (.returned (.tuple #[.agg #[.slice none 0 0], .bool false])) (w5.setCell ⟨r, 0, none⟩ (.slice none 0 0)) ∧ (w5.setCell ⟨r, 0, none⟩ (.slice none 0 0)).cell? ⟨r, 0, none⟩ = some (.slice none 0 0) :=
  ⟨⟨_, rfl, OwW.zero _ _ _, hB.setCell h1 _⟩, (hX.set _).cell⟩

set_option maxRecDepth 100000 in
theorem clone_any {v : Value} {L : List Int} {w : World} (h : Ls w v L) (h0 : L ≠ []) (hL : L.length ≤ 2097152) :
    Calls Try.prog 95 #[v] w fun e w' => ∃ v', e = .returned v' ∧ Own w' w.heap.size w'.heap.size v' L ∧ Below w.heap.size w w' := by
  obtain ⟨i0, hi, hz0, hz1, hz2⟩ := info_parts info_i
  obtain ⟨ao, cap, rfl, hn, hcap, hc⟩ := h
  have hp := len_pos h0
  obtain ⟨b, off, rfl, hbw, hcell⟩ := hc (by omega)
  have start : Hid ((w.alloc (.cells #[] 2)).ownsRow w.heap.size 2 1 (.slice (some ⟨w.heap.size, 0, none⟩) 0 0) 0 []) :=
    ⟨rfl, .inr ⟨w.heap.size, 0, #[], rfl, Nat.le_refl _, heap_alloc_new w _, by simp, by decide, rfl, rfl⟩⟩
  have news : Hid (∀ j u, (L.map (Value.int .i64))[j]? = some u → (w.alloc (.cells #[] 2)).cell? ((⟨b, off, none⟩ : Addr).add j) = some u) := fun j u hu => by
    rw [List.getElem?_map] at hu
    cases hz : L[j]? with
    | none => rw [hz] at hu; cases hu
    | some z =>
      rw [hz] at hu
      rw [Addr.add_lit, (new1 w _).cell (p := ⟨b, off + j, none⟩) hbw, ← Option.some.inj hu]
      exact hcell j z hz
  obtain ⟨n, hnn⟩ : ∃ n, n = L.length := ⟨_, rfl⟩
  have len : Hid ((L.map (Value.int .i64)).length = n * 1) := by show _ = _; rw [List.length_map]; omega
  have done : Hid (∀ v' w1, w1.ownsRow w.heap.size 2 1 v' (0 + n) ([] ++ L.map (Value.int .i64)) → (w.alloc (.cells #[] 2)).grownBy w1 (some w.heap.size) → Own w1 w.heap.size w1.heap.size v' L ∧ Below w.heap.size w w1) := fun v' w1 ho hg => by
    rw [Nat.zero_add, List.nil_append, hnn] at ho
    exact ⟨Own.of_row ho hn (Nat.le_refl _), (new1 w _).grown hg (by simp) (fun j hj => by injection hj with hj; omega)⟩
  rw [← hnn] at hn hcap hp hL
  simp only [← hnn]
  clear hnn hc hcell hbw h0
  have q : (binOp .eql 22 (.slice (some ⟨b, off, none⟩) n cap) (.slice none 0 0)).run Try.prog w = .ok (.bool false) w := Lib.run_eql_slice_nil w _ _ _ n cap 0 0 Try.underlying22
  go_enter Try.func95, Try.ntmps95
  go_wp2_with (first | (at_builtin; refine wpList_append_own _ rfl (.tmp 5) (.tmp 6) 22 rfl w.heap.size 2 i0 (.int .i64 0) 1 8 Try.underlying22 hi hz0 hz1 hz2 rfl (by decide) _ 0 [] rfl start.out ⟨b, off, none⟩ n cap _ rfl len.out news.out one_of_map (by unfold maxLen; omega) (by omega) (by simp) ?_; intro v' w1 hown' hgrow _))
  go_ret
  exact ⟨_, rfl, done.out _ _ hown' hgrow⟩
end Go.Proofs.Ytfhcfeafohcjpaa.wh
