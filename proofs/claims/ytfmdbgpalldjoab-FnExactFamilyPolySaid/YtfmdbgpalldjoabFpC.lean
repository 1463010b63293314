/- Lists of complex numbers without imaginary parts: the model makes one, looks whether all are finite, trims it, and gives the polynomial. -/
import Derived.Test.YtfmdbgpalldjoabFpQ
import Derived.Test.YtfmdbgpalldjoabFpS
namespace Go.Proofs.Ytfmdbgpalldjoab.fp
open Go.RowKit Go.Fl Go.Fa Go.Fp Go.Proofs.Ytfmdbgpalldjoab.fls Go.Proofs.Ytfmdbgpalldjoab.fa Go.Proofs.Ytfmdbgpalldjoab.fin

theorem info_c : (Try.prog.info? 63).map (fun i => (i.zero, i.size, i.bytes)) = some (some (.complex .f32 0 0), 1, 8) := by kernel_rfl
theorem one_cplx (w : World) (u : Value) : ∀ j v, [u][j]? = some v → (w.alloc (.cells #[u] 63)).cell? ((⟨w.heap.size, 0, none⟩ : Addr).add j) = some v := by
  have ho : (w.alloc (.cells #[u] 63)).ownsRow w.heap.size 63 1 (.slice (some ⟨w.heap.size, 0, none⟩) 1 1) 1 [u] :=
    ⟨rfl, .inr ⟨w.heap.size, 1, #[u], rfl, Nat.le_refl _, heap_alloc_new w _, by omega, by decide, rfl, rfl⟩⟩
  intro j v hj
  have hl : j < 1 := by
    have := (List.getElem?_eq_some_iff.1 hj).1
    simpa using this
  rw [Addr.add_lit, Nat.zero_add, ho.cellAt j (by omega)]
  exact hj
/-- the first n of a list, as complex numbers -/
def cl (f : Nat → Nat) (n : Nat) : List Value := (List.range n).map fun k => .complex .f32 (f k) 0
theorem cl_succ (f : Nat → Nat) (n : Nat) : cl f (n + 1) = cl f n ++ [.complex .f32 (f n) 0] := by
  unfold cl
  rw [List.range_succ, List.map_append]
  rfl
theorem cl_len (f : Nat → Nat) (n : Nat) : (cl f n).length = n := by unfold cl; simp
theorem cown_shape {w : World} {B n : Nat} {v : Value} {xs : List Value} (h : w.ownsRow B 63 1 v n xs) (hn : 0 < n) : ∃ g cap, v = .slice (some ⟨g, 0, none⟩) n cap := by
  rcases h.2 with ⟨_, h0⟩ | ⟨g, cap, cur, rfl, _⟩
  · omega
  · exact ⟨g, cap, rfl⟩
theorem cown_ge {w : World} {B e g n cap : Nat} {xs : List Value} (h : w.ownsRow B e 1 (.slice (some ⟨g, 0, none⟩) n cap) n xs) : B ≤ g := own_ge2 h

set_option maxRecDepth 100000 in
set_option maxHeartbeats 1600000 in
theorem scx_any {v : Value} {n : Nat} {f : Nat → Nat} {w : World} (h : Fls w v n f) (hn : n ≤ 100) : Calls Try.prog 17 #[v] w fun e w' => ∃ g cap, e = .returned (.slice (some ⟨g, 0, none⟩) n cap) ∧ w'.ownsRow w.heap.size 63 1 (.slice (some ⟨g, 0, none⟩) n cap) n (cl f n) ∧ Below w.heap.size w w' := by
  obtain ⟨i0, hi, hz0, hz1, hz2⟩ := info_parts info_c
  obtain ⟨ao, cap, rfl, _, hc⟩ := h
  have HC : Hid (n ≠ 0 → ∃ b off, ao = some ⟨b, off, none⟩ ∧ b < w.heap.size ∧ ∀ k, k < n → w.cell? ⟨b, off + k, none⟩ = some (.float .f32 (f k))) := hc
  clear hc
  have start : Hid ((w.alloc (.cells #[] 63)).ownsRow w.heap.size 63 1 (.slice (some ⟨w.heap.size, 0, none⟩) 0 0) 0 (cl f 0)) :=
    ⟨rfl, .inr ⟨w.heap.size, 0, #[], rfl, Nat.le_refl _, heap_alloc_new w _, by simp, by decide, rfl, rfl⟩⟩
  have startB : Hid (Below w.heap.size w (w.alloc (.cells #[] 63))) := (Below.refl _ _).alloc (Nat.le_refl _) _
  go_enter Try.func17, Try.ntmps17
  go_wp2_with fail
  go_loopw [3, 4] (fun u i wr => ∃ (k g c : Nat), k ≤ n ∧ u = .slice (some ⟨g, 0, none⟩) k c ∧ i = .int .i64 k ∧ Hid (w.heap.size ≤ g) ∧ Hid (wr.ownsRow w.heap.size 63 1 (.slice (some ⟨g, 0, none⟩) k c) k (cl f k)) ∧ Hid (Below w.heap.size w wr)) (fun _ i _ => n - (RowKit.intOf i).toNat)
  case atStart => exact ⟨0, _, _, by omega, rfl, rfl, Nat.le_refl _, start, startB⟩
  case round =>
    obtain ⟨k, g, c, hk, rfl, rfl, hg, ho, hb⟩ := hrel
    by_cases hlt : k < n
    · obtain ⟨b, off, rfl, hbl, hcell⟩ := HC.out (by omega)
      have e1 : wr.cell? ⟨b, off + k, none⟩ = some (.float .f32 (f k)) := (hb.out.cell hbl).trans (hcell k hlt)
      have SZ := Lib.hid hb.out.size
      have HS : Hid (cl f (k + 1) = cl f k ++ [.complex .f32 (f k) 0]) := cl_succ f k
      clear HC hcell hbl
      generalize f k = z at *
      go_wp2_with (first | (at_builtin; refine wpList_append_own _ rfl (.tmp 12) (.tmp 18) 22 rfl w.heap.size 63 i0 (.complex .f32 0 0) 1 8 Try.underlying22 hi hz0 hz1 hz2 rfl (by decide) _ k _ rfl (ho.out.alloc _) ⟨wr.heap.size, 0, none⟩ 1 1 [_] rfl rfl (one_cplx wr _) (by intro u hu; rw [List.mem_singleton] at hu; subst hu; rfl) (by unfold maxLen; omega) (by omega) (by have := SZ.out; simp; omega) ?_; intro v' w3 hown' hgrow _))
      have hge : Hid (_ ≤ g) := hg
      obtain ⟨g', cap', rfl⟩ := cown_shape hown' (by omega)
      have HO5 : Hid (w3.ownsRow w.heap.size 63 1 (.slice (some ⟨g', 0, none⟩) (k + 1) cap') (k + 1) (cl f (k + 1))) := by show _; rw [HS.out]; exact hown'
      have HB5 := Lib.hid ((hb.out.alloc (by have := SZ.out; simp; omega) _).grown hgrow (by have := SZ.out; simp; omega) (by intro j hj; have hj' : some g = some j := hj; injection hj' with hj'; have := hg.out; omega))
      have HG5 := Lib.hid (cown_ge hown')
      clear hown' hgrow ho hb HS
      go_roundw
      case rel => exact ⟨k + 1, g', cap', by omega, rfl, by go_num, HG5, HO5, HB5⟩
      case measure => simp [RowKit.intOf]; omega
    · obtain rfl : k = n := by omega
      go_wp2_with fail
      go_ret
      exact ⟨g, c, rfl, ho.out, hb.out⟩
end Go.Proofs.Ytfmdbgpalldjoab.fp
