/- Signs of terms: the model's lists of numbers of any size. -/
import Derived.Test.YtdammgflmkamaabScN
namespace Go.Proofs.Ytdammgflmkamaab.wh
open Go.RowKit Go.Pl

theorem row_below {w w' : World} {base : Nat} {e : TypeId} {size : Nat} {v : Value} {n : Nat} {xs : List Value} (h : w.ownsRow base e size v n xs) (hb : Below w.heap.size w w') : w'.ownsRow base e size v n xs := by
  refine ⟨h.1, ?_⟩
  rcases h.2 with h2 | ⟨g, cap, cur, hv, hbs, hg, r⟩
  · exact .inl h2
  · exact .inr ⟨g, cap, cur, hv, hbs, by rw [hb.block g (Array.getElem?_eq_some_iff.1 hg).1]; exact hg, r⟩
theorem cell_two_new (w : World) (x y : Value) (t : TypeId) : ∀ j u, [x, y][j]? = some u → (w.alloc (.cells #[x, y] t)).cell? ((⟨w.heap.size, 0, none⟩ : Addr).add j) = some u := by
  intro j u hj
  have h := heap_alloc_new w (.cells #[x, y] t (0, 0))
  match j, hj with
  | 0, hj =>
    rw [Addr.add_lit, cell_of_row _ _ _ _ _ _ h]
    simpa using hj
  | 1, hj =>
    rw [Addr.add_lit, cell_of_row _ _ _ _ _ _ h]
    simpa using hj
theorem row_shape {w : World} {B : Nat} {e : TypeId} {size n : Nat} {v : Value} {xs : List Value} (h : w.ownsRow B e size v n xs) (hn : n ≠ 0) : ∃ g cap, v = .slice (some ⟨g, 0, none⟩) n cap ∧ B ≤ g := by
  rcases h.2 with ⟨_, h0⟩ | ⟨g, cap, cur, hv, hB, _⟩
  · exact absurd h0 hn
  · exact ⟨g, cap, hv, hB⟩
/-- the cells of k numbers -/
def Fx (L : List Int) (k : Nat) (xs : List Value) : Prop := xs.length = k * 2 ∧ ∀ j z, j < k → L[j]? = some z → ∃ ao cap, xs[j * 2]? = some (.bool (decide (z < 0))) ∧ xs[j * 2 + 1]? = some (.slice ao (if z = 0 then 0 else 1) cap)
theorem Fx.snoc {L : List Int} {k : Nat} {xs : List Value} {z : Int} {ao : Option Addr} {cap : Nat} (h : Fx L k xs) (hz : L[k]? = some z) : Fx L (k + 1) (xs ++ [.bool (decide (z < 0)), .slice ao (if z = 0 then 0 else 1) cap]) := by
  have hl := h.1
  refine ⟨by simp; omega, fun j y hj hy => ?_⟩
  by_cases e : j = k
  · subst e
    rw [hz] at hy
    obtain rfl := Option.some.inj hy
    refine ⟨ao, cap, ?_, ?_⟩
    · rw [List.getElem?_append_right (by omega), show j * 2 - xs.length = 0 by omega]; rfl
    · rw [List.getElem?_append_right (by omega), show j * 2 + 1 - xs.length = 1 by omega]; rfl
  · obtain ⟨a, c, h1, h2⟩ := h.2 j y (by omega) hy
    exact ⟨a, c, by rw [List.getElem?_append_left (by omega)]; exact h1, by rw [List.getElem?_append_left (by omega)]; exact h2⟩
theorem info_b : (Try.prog.info? 73).map (fun i => (i.zero, i.size, i.bytes)) = some (some (.agg #[.bool false, .slice none 0 0]), 2, 32) := by kernel_rfl

theorem sgnv_any {v : Value} {x : Int} (h : Bg v x) (w : World) :
    Calls Try.prog 44 #[v] w fun e w' => e = .returned (.int .i64 (sgn x)) ∧ Below w.heap.size w w' := by
  obtain ⟨ao, cap, rfl⟩ := h
  have key : ∀ (b : Bool) (l : Nat) (y : Int), (l = 0 ∧ y = 0 ∨ l = 1 ∧ b = true ∧ y = -1 ∨ l = 1 ∧ b = false ∧ y = 1) → Calls Try.prog 44 #[.agg #[.bool b, .slice ao l cap]] w fun e w' => e = .returned (.int .i64 y) ∧ Below w.heap.size w w' := by
    rintro b l y (⟨rfl, rfl⟩ | ⟨rfl, rfl, rfl⟩ | ⟨rfl, rfl, rfl⟩)
    all_goals
      go_enter Try.func44, Try.ntmps44
      go_wp2
      go_ret
      exact ⟨rfl, new1 _ _⟩
  refine key _ _ _ ?_
  unfold sgn
  by_cases h1 : x < 0
  · rw [if_pos h1, if_neg (by omega), decide_eq_true h1]; exact .inr (.inl ⟨rfl, rfl, rfl⟩)
  · rw [if_neg h1, decide_eq_false h1]
    by_cases h2 : x = 0
    · rw [if_pos h2, if_pos h2]; exact .inl ⟨rfl, rfl⟩
    · rw [if_neg h2, if_neg h2]; exact .inr (.inr ⟨rfl, rfl, rfl⟩)

set_option maxRecDepth 100000 in
set_option maxHeartbeats 1600000 in
theorem wide_any {b : Nat} {s : Value} {L : List Int} {w : World} (hb : w.cell? ⟨b, 0, none⟩ = some s) (hbl : b < w.heap.size) (h : Ls w s L) (hl : L.length ≤ 17) (hr : inR (-1000) 1000 L) :
    Calls Try.prog 24 #[.pointer (some ⟨b, 0, none⟩)] w fun e w' => ∃ g cap xs, e = .returned (.slice (some ⟨g, 0, none⟩) L.length cap) ∧ w'.ownsRow w.heap.size 73 2 (.slice (some ⟨g, 0, none⟩) L.length cap) L.length xs ∧ Fx L L.length xs ∧ Below w.heap.size w w' := by
  obtain ⟨i0, hi, hz0, hz1, hz2⟩ := info_parts info_b
  obtain ⟨ao, cap, rfl⟩ := h.shape
  obtain ⟨_, hcap, hc⟩ := h.use
  have HC : Hid (L.length ≠ 0 → ∃ b off, ao = some ⟨b, off, none⟩ ∧ b < w.heap.size ∧ ∀ (k : Nat) (z : Int), L[k]? = some z → w.cell? ⟨b, off + k, none⟩ = some (.int .i64 z)) := hc
  have HR : Hid (inR (-1000) 1000 L) := hr
  obtain ⟨n, hn⟩ : ∃ n, n = L.length := ⟨_, rfl⟩
  have HN : Hid (n = L.length) := hn
  rw [← hn] at hcap hl hb ⊢
  have HBX : Hid (∀ W, Below w.heap.size w W → W.cell? ⟨b, 0, none⟩ = some (.slice ao n cap)) := fun W hW => (hW.cell (p := ⟨b, 0, none⟩) hbl).trans hb
  have start : Hid ((w.alloc (.cells #[] 73)).ownsRow w.heap.size 73 2 (.slice (some ⟨w.heap.size, 0, none⟩) 0 0) 0 []) :=
    ⟨rfl, .inr ⟨w.heap.size, 0, #[], rfl, Nat.le_refl _, heap_alloc_new w _, by simp, by decide, rfl, rfl⟩⟩
  have startB : Hid (Below w.heap.size w (w.alloc (.cells #[] 73))) := new1 _ _
  have startF : Hid (Fx L 0 []) := ⟨rfl, fun j z hj => by omega⟩
  clear hc h hr hn hbl hb
  go_enter Try.func24, Try.ntmps24
  go_wp2_with fail
  go_loopw [3, 4] (fun o t wr => ∃ (k g cp : Nat) (xs : List Value), k ≤ n ∧ o = .slice (some ⟨g, 0, none⟩) k cp ∧ t = .int .i64 k ∧ Hid (w.heap.size ≤ g) ∧ Hid (wr.ownsRow w.heap.size 73 2 (.slice (some ⟨g, 0, none⟩) k cp) k xs) ∧ Hid (Fx L k xs) ∧ Hid (Below w.heap.size w wr)) (fun _ t _ => n - (intOf t).toNat)
  case atStart => exact ⟨0, _, _, _, by omega, rfl, rfl, Nat.le_refl _, start, startF, startB⟩
  case round =>
    obtain ⟨k, g, cp, xs, hk, rfl, rfl, hg, ho, hf, hbl⟩ := hrel
    clear start startB startF
    have eb := HBX.out wr hbl.out
    by_cases hlt : k < n
    · obtain ⟨z, hz⟩ := get_some L k (by have := HN.out; omega)
      obtain ⟨b0, off, rfl, hbw, hcell⟩ := HC.out (by have := HN.out; omega)
      have e1 : wr.cell? ⟨b0, off + k, none⟩ = some (.int .i64 z) := (hbl.out.cell (p := ⟨b0, off + k, none⟩) hbw).trans (hcell k z hz)
      have HZ : Hid (L[k]? = some z) := hz
      have hzr := HR.out.get hz
      have HNUM : Hid (-1000 ≤ z ∧ z ≤ 1000) := hzr
      clear hcell hz hzr hbw
      go_wp2_with fail
      refine (num_any z HNUM.out _).mono ?_
      rintro e w2 ⟨v, rfl, ⟨va, vc, rfl⟩, b2⟩
      have HF2 : Hid (Fx L (k + 1) (xs ++ [.bool (decide (z < 0)), .slice va (if z = 0 then 0 else 1) vc])) := hf.out.snoc HZ.out
      have B2 : Hid (Below w.heap.size w w2) := hbl.out.trans (b2.mono hbl.out.size)
      have O2 : Hid (w2.ownsRow w.heap.size 73 2 (.slice (some ⟨g, 0, none⟩) k cp) k xs) := row_below ho.out b2
      have HS : Hid (w.heap.size ≤ w2.heap.size) := B2.out.size
      clear b2 ho hf eb e1
      generalize decide (z < 0) = vb at *
      generalize (if z = 0 then 0 else 1) = vl at *
      go_wp2_with (first | (at_builtin; refine wpList_append_own _ rfl (.tmp 15) (.tmp 24) 50 rfl w.heap.size 73 i0 (.agg #[.bool false, .slice none 0 0]) 2 32 Try.underlying50 hi hz0 hz1 hz2 rfl (by decide) _ k _ rfl (O2.out.alloc _) ⟨w2.heap.size, 0, none⟩ 1 1 [.bool vb, .slice va vl vc] rfl rfl (cell_two_new w2 _ _ _) (by intro u hu; rcases List.mem_cons.1 hu with rfl | hu; rfl; rw [List.mem_singleton] at hu; subst hu; rfl) (by unfold maxLen; omega) (by omega) (by have := HS.out; simp; omega) ?_; intro v' w3 hown' hgrow _))
      obtain ⟨g', cap', rfl, hg'⟩ := row_shape hown' (by omega)
      have HG : Hid (w.heap.size ≤ g') := hg'
      have HO : Hid (w3.ownsRow w.heap.size 73 2 (.slice (some ⟨g', 0, none⟩) (k + 1) cap') (k + 1) (xs ++ [.bool vb, .slice va vl vc])) := hown'
      have HB : Hid (Below w.heap.size w w3) := (B2.out.alloc HS.out _).grown hgrow (by have := HS.out; simp; omega) (by intro j hj; have hj' : some g = some j := hj; injection hj' with hj'; have := hg.out; omega)
      clear hown' hgrow hg'
      go_roundw
      case rel => exact ⟨k + 1, g', cap', _, by omega, rfl, by go_num, HG, HO, HF2, HB⟩
      case measure => simp [RowKit.intOf]; omega
    · obtain rfl : n = k := by omega
      go_wp2_with fail
      go_ret
      exact ⟨g, cp, xs, rfl, ho.out, hf.out, hbl.out⟩

set_option maxRecDepth 100000 in
set_option maxHeartbeats 1600000 in
theorem signs_any {g cap : Nat} {xs : List Value} {L : List Int} {w : World} {base : Nat} (hrow : w.ownsRow base 73 2 (.slice (some ⟨g, 0, none⟩) L.length cap) L.length xs) (hf : Fx L L.length xs) (hl : L.length ≤ 17) :
    Calls Try.prog 23 #[.slice (some ⟨g, 0, none⟩) L.length cap] w fun e w' => ∃ v, e = .returned v ∧ Own w' w.heap.size w'.heap.size v (L.map sgn) ∧ Below w.heap.size w w' := by
  obtain ⟨i0, hi, hz0, hz1, hz2⟩ := info_parts info_i
  obtain ⟨cur, hcapn, hg, hcells⟩ : ∃ cur : Array Value, L.length ≤ cap ∧ w.heap[g]? = some (.cells cur 73 (0, 0)) ∧ ∀ j u, xs[j]? = some u → cur[j]? = some u := by
    rcases hrow.2 with ⟨h, _⟩ | ⟨g2, cap2, cur, hv, _, hg, hcp, _, hsz, hx⟩
    · simp at h
    · simp only [Value.slice.injEq, Option.some.injEq, Addr.mk.injEq, and_true] at hv
      obtain ⟨rfl, _, rfl⟩ := hv
      refine ⟨cur, hcp, hg, fun j u hu => ?_⟩
      have hlx := hrow.1
      rw [← hx] at hu
      rw [List.getElem?_take] at hu
      split at hu
      · simpa using hu
      · cases hu
  have HCE : Hid (∀ W, Below w.heap.size w W → ∀ j u, xs[j]? = some u → W.cell? ⟨g, j, none⟩ = some u) := fun W hW j u hu => by
    have h1 := (hW.block g (Array.getElem?_eq_some_iff.1 hg).1).trans hg
    rw [cell_of_row _ _ _ _ _ _ h1]
    exact hcells j u hu
  have HF : Hid (Fx L L.length xs) := hf
  obtain ⟨n, hn⟩ : ∃ n, n = L.length := ⟨_, rfl⟩
  have HN : Hid (n = L.length) := hn
  rw [← hn] at hcapn hl ⊢
  have start : Hid ((w.alloc (.cells #[] 2)).ownsRow w.heap.size 2 1 (.slice (some ⟨w.heap.size, 0, none⟩) 0 0) 0 (((L.map sgn).take 0).map (Value.int .i64))) :=
    ⟨rfl, .inr ⟨w.heap.size, 0, #[], rfl, Nat.le_refl _, heap_alloc_new w _, by simp, by decide, rfl, rfl⟩⟩
  have startB : Hid (Below w.heap.size w (w.alloc (.cells #[] 2))) := new1 _ _
  clear hrow hf hn hg hcells
  go_enter Try.func23, Try.ntmps23
  go_wp2_with fail
  go_loopw [3, 4] (fun o t wr => ∃ (k q cp : Nat), k ≤ n ∧ o = .slice (some ⟨q, 0, none⟩) k cp ∧ t = .int .i64 k ∧ Hid (w.heap.size ≤ q) ∧ Hid (wr.ownsRow w.heap.size 2 1 (.slice (some ⟨q, 0, none⟩) k cp) k (((L.map sgn).take k).map (Value.int .i64))) ∧ Hid (Below w.heap.size w wr)) (fun _ t _ => n - (intOf t).toNat)
  case atStart => exact ⟨0, _, _, by omega, rfl, rfl, Nat.le_refl _, start, startB⟩
  case round =>
    obtain ⟨k, q, cp, hk, rfl, rfl, hq, ho, hbl⟩ := hrel
    clear start startB
    by_cases hlt : k < n
    · obtain ⟨z, hz⟩ := get_some L k (by have := HN.out; omega)
      obtain ⟨va, vc, h1, h2⟩ := HF.out.2 k z (by have := HN.out; omega) hz
      have e1 := HCE.out wr hbl.out _ _ h1
      have e2 := HCE.out wr hbl.out _ _ h2
      have hzz : Hid (((L.map sgn).take k).map (Value.int .i64) ++ [Value.int .i64 (sgn z)] = ((L.map sgn).take (k + 1)).map (Value.int .i64)) := by
        show _ = _
        rw [List.take_add_one, List.getElem?_map, hz]; simp
      have HBG : Hid (Bg (.agg #[.bool (decide (z < 0)), .slice va (if z = 0 then 0 else 1) vc]) z) := ⟨va, vc, rfl⟩
      clear h1 h2 hz
      obtain ⟨vb, hvb⟩ : ∃ b, b = decide (z < 0) := ⟨_, rfl⟩
      obtain ⟨vl, hvl⟩ : ∃ l, l = (if z = 0 then 0 else 1) := ⟨_, rfl⟩
      rw [← hvb] at e1 HBG
      rw [← hvl] at e2 HBG
      clear hvb hvl
      go_wp2_with fail
      refine (sgnv_any HBG.out _).mono ?_
      rintro e w2 ⟨rfl, b2⟩
      have B2 : Hid (Below w.heap.size w w2) := hbl.out.trans (b2.mono hbl.out.size)
      have O2 : Hid (w2.ownsRow w.heap.size 2 1 (.slice (some ⟨q, 0, none⟩) k cp) k (((L.map sgn).take k).map (Value.int .i64))) := row_below ho.out b2
      have HS : Hid (w.heap.size ≤ w2.heap.size) := B2.out.size
      clear b2 ho e1 e2
      generalize sgn z = y at *
      go_wp2_with (first | (at_builtin; refine wpList_append_own _ rfl (.tmp 12) (.tmp 18) 22 rfl w.heap.size 2 i0 (.int .i64 0) 1 8 Try.underlying22 hi hz0 hz1 hz2 rfl (by decide) _ k _ rfl (O2.out.alloc _) ⟨w2.heap.size, 0, none⟩ 1 1 [.int .i64 _] rfl rfl (cell_one_new w2 _ _) (by intro u hu; rw [List.mem_singleton] at hu; subst hu; rfl) (by unfold maxLen; omega) (by omega) (by have := HS.out; simp; omega) ?_; intro v' w3 hown' hgrow _))
      obtain ⟨g', cap', rfl, hg'⟩ := row_shape hown' (by omega)
      rw [hzz.out] at hown'
      have HG : Hid (w.heap.size ≤ g') := hg'
      have HO : Hid (w3.ownsRow w.heap.size 2 1 (.slice (some ⟨g', 0, none⟩) (k + 1) cap') (k + 1) (((L.map sgn).take (k + 1)).map (Value.int .i64))) := hown'
      have HB : Hid (Below w.heap.size w w3) := (B2.out.alloc HS.out _).grown hgrow (by have := HS.out; simp; omega) (by intro j hj; have hj' : some q = some j := hj; injection hj' with hj'; have := hq.out; omega)
      clear hown' hgrow hg'
      go_roundw
      case rel => exact ⟨k + 1, g', cap', by omega, rfl, by go_num, HG, HO, HB⟩
      case measure => simp [RowKit.intOf]; omega
    · obtain rfl : n = k := by omega
      have ho' := ho.out
      have hml : (L.map sgn).length = n := by rw [List.length_map]; exact HN.out.symm
      rw [List.take_of_length_le (by omega)] at ho'
      have HO : Hid (Own wr w.heap.size wr.heap.size (.slice (some ⟨q, 0, none⟩) n cp) (L.map sgn)) := by
        have h2 : wr.ownsRow w.heap.size 2 1 (.slice (some ⟨q, 0, none⟩) n cp) (L.map sgn).length ((L.map sgn).map (Value.int .i64)) := by rw [hml]; exact ho'
        exact Own.of_row h2 (by omega) (Nat.le_refl _)
      clear ho ho' hi hz0 hz1 hz2 hml
      go_wp2_with fail
      go_ret
      exact ⟨_, rfl, HO.out, hbl.out⟩
end Go.Proofs.Ytdammgflmkamaab.wh
