/- Resultants: the rows, pure; lists of rows in memory; what the model's resultant answers. -/
import Derived.Test.YtbbdhbamooaloabDtM
import Derived.Test.YtbbdhbamooaloabFnP
import Derived.Maps.AppendAt
namespace Go.Pl
/-- a row with the terms, the highest one first, from the place off on: k of them are there -/
def fl (A : List Int) (off N k : Nat) : List Int := (List.range N).map fun c => if off + (A.length - 1) < c + k ∧ c ≤ off + (A.length - 1) then at' A (off + (A.length - 1) - c) else 0
theorem fl_len (A : List Int) (off N k : Nat) : (fl A off N k).length = N := by simp [fl]
theorem fl_at (A : List Int) (off N k : Nat) {c : Nat} (h : c < N) : (fl A off N k)[c]? = some (if off + (A.length - 1) < c + k ∧ c ≤ off + (A.length - 1) then at' A (off + (A.length - 1) - c) else 0) := by
  unfold fl
  rw [List.getElem?_map, List.getElem?_range h]
  rfl
theorem fl_zero (A : List Int) (off N : Nat) : fl A off N 0 = List.replicate N 0 := by
  refine List.ext_getElem? fun c => ?_
  by_cases h : c < N
  · rw [fl_at A off N 0 h, if_neg (by omega), List.getElem?_replicate_of_lt h]
  · rw [List.getElem?_eq_none (by rw [fl_len]; omega), List.getElem?_eq_none (by simp; omega)]
theorem fl_set {A : List Int} {off N k : Nat} (hk : k < A.length) : (fl A off N k).set (off + (A.length - 1) - k) (at' A k) = fl A off N (k + 1) := by
  refine List.ext_getElem? fun c => ?_
  by_cases h : c < N
  · rw [fl_at A off N (k + 1) h]
    by_cases e : c = off + (A.length - 1) - k
    · rw [e, List.getElem?_set_self (by rw [fl_len]; omega), if_pos ⟨by omega, by omega⟩, show off + (A.length - 1) - (off + (A.length - 1) - k) = k by omega]
    · rw [List.getElem?_set_ne (fun e' => e e'.symm), fl_at A off N k h]
      congr 1
      by_cases h2 : off + (A.length - 1) < c + k ∧ c ≤ off + (A.length - 1)
      · rw [if_pos h2, if_pos ⟨by omega, h2.2⟩]
      · rw [if_neg h2, if_neg (by omega)]
  · rw [List.getElem?_eq_none (by rw [List.length_set, fl_len]; omega), List.getElem?_eq_none (by rw [fl_len]; omega)]
/-- the row i of the square of the terms of two -/
def rwN (A B : List Int) : Nat := (A.length - 1) + (B.length - 1)
def sy (A B : List Int) (i : Nat) : List Int := if i < B.length - 1 then fl A i (rwN A B) A.length else fl B (i - (B.length - 1)) (rwN A B) B.length
def SY (A B : List Int) : List (List Int) := (List.range (rwN A B)).map (sy A B)
/-- the resultant -/
def rsl (A B : List Int) : Int := dt (SY A B) (List.range (rwN A B))
theorem sy_len (A B : List Int) (i : Nat) : (sy A B i).length = rwN A B := by unfold sy; split <;> exact fl_len _ _ _ _
theorem SY_len (A B : List Int) : (SY A B).length = rwN A B := by simp [SY]
theorem SY_get {A B : List Int} {i : Nat} (h : i < rwN A B) : (SY A B)[i]? = some (sy A B i) := by unfold SY; rw [List.getElem?_map, List.getElem?_range h]; rfl
theorem fl_in {A : List Int} (h : inR (-20) 20 A) (off N k j : Nat) : -20 ≤ at' (fl A off N k) j ∧ at' (fl A off N k) j ≤ 20 := by
  by_cases hj : j < N
  · rw [at_get (fl_at A off N k hj)]
    split
    · exact h.at (by omega) (by omega) _
    · omega
  · rw [at_out (by rw [fl_len]; omega)]; omega
theorem SY_rb {A B : List Int} (ha : inR (-20) 20 A) (hb : inR (-20) 20 B) : Rb 20 (SY A B) := fun r hr j => by
  obtain ⟨i, _, rfl⟩ := List.mem_map.1 hr
  unfold sy
  split
  · exact fl_in ha _ _ _ j
  · exact fl_in hb _ _ _ j
end Go.Pl
namespace Go.Proofs.Ytbbdhbamooaloab.res
open Go.RowKit Go.Pl Go.Proofs.Ytbbdhbamooaloab.wh

theorem info_r : (Try.prog.info? 31).map (fun i => (i.zero, i.size, i.bytes)) = some (some (.slice none 0 0), 1, 24) := by kernel_rfl
/-- the values xs: each a row of f, in a block of its own, none of them g or g' -/
def Rws (w0 g g' : Nat) (w : World) (xs : List Value) (f : Nat → List Int) : Prop :=
  ∀ k, k < xs.length → ∃ s p, xs[k]? = some s ∧ w0 ≤ p ∧ p < w.heap.size ∧ p ≠ g ∧ p ≠ g' ∧ wh.Own w p (p + 1) s (f k)
theorem Rws.move {w0 g g' h h' : Nat} {w w' : World} {xs : List Value} {f : Nat → List Int} (H : Rws w0 g g' w xs f) (hz : w.heap.size ≤ w'.heap.size) (hs : ∀ k, k < w.heap.size → k ≠ g → k ≠ g' → w'.heap[k]? = w.heap[k]?)
    (h1 : h = g ∨ w.heap.size ≤ h) (h2 : h' = g' ∨ w.heap.size ≤ h') : Rws w0 h h' w' xs f := fun k hk => by
  obtain ⟨s, p, a1, a2, a3, a4, a5, a6⟩ := H k hk
  exact ⟨s, p, a1, a2, by omega, by omega, by omega, wh.Own.stay a6 fun j j1 j2 _ => by rw [show j = p by omega]; exact hs p a3 a4 a5⟩
theorem Rws.add {w0 g g' p : Nat} {w : World} {xs : List Value} {f : Nat → List Int} {s : Value} (H : Rws w0 g g' w xs f) (h1 : w0 ≤ p) (h2 : p < w.heap.size) (h3 : p ≠ g) (h4 : p ≠ g') (ho : wh.Own w p (p + 1) s (f xs.length)) : Rws w0 g g' w (xs ++ [s]) f := fun k hk => by
  by_cases h : k < xs.length
  · obtain ⟨s', p', a1, a2⟩ := H k h
    exact ⟨s', p', by rw [List.getElem?_append_left h]; exact a1, a2⟩
  · have e : k = xs.length := by simp at hk; omega
    subst e
    exact ⟨s, p, by simp, h1, h2, h3, h4, ho⟩
theorem Rws.rd {w0 g g' n c e : Nat} {w : World} {xs : List Value} {f : Nat → List Int} (H : Rws w0 g g' w xs f) (hr : w.ownsRow w0 e 1 (.slice (some ⟨g, 0, none⟩) n c) n xs) (hn : n ≤ 1000) : RdWs w w.heap.size (.slice (some ⟨g, 0, none⟩) n c) ((List.range n).map f) := by
  have hl : ((List.range n).map f).length = n := by simp
  have hxl : xs.length = n := by have := hr.1; simpa using this
  rcases hr.2 with ⟨h', _⟩ | ⟨g1, cap, cur, h', hB, hc, hm, h5, h6, h7⟩
  · simp at h'
  · simp only [Value.slice.injEq, Option.some.injEq, Addr.mk.injEq, and_true] at h'
    obtain ⟨rfl, _, rfl⟩ := h'
    refine ⟨some ⟨g, 0, none⟩, c, by rw [hl], by omega, by rw [hl]; omega, fun _ => ⟨g, 0, rfl, (Array.getElem?_eq_some_iff.1 hc).1, fun k L hk => ?_⟩⟩
    have hkn : k < n := by have := (List.getElem?_eq_some_iff.1 hk).1; omega
    rw [List.getElem?_map, List.getElem?_range hkn] at hk
    obtain rfl : f k = L := by simpa using hk
    obtain ⟨s, p, a1, a2, a3, _, _, a6⟩ := H k (by omega)
    refine ⟨s, ?_, a6.rd.up (by omega)⟩
    rw [Nat.zero_add, cell_of_row w g k cur _ _ hc]
    rw [← h7, List.getElem?_take, if_pos (by omega)] at a1
    simpa using a1
theorem row_same {w w' : World} {base e size n c m g : Nat} {xs : List Value} (h : w.ownsRow base e size (.slice (some ⟨g, 0, none⟩) n c) m xs) (hb : w'.heap[g]? = w.heap[g]?) : w'.ownsRow base e size (.slice (some ⟨g, 0, none⟩) n c) m xs := by
  refine ⟨h.1, ?_⟩
  rcases h.2 with h | ⟨g1, cap, cur, hv, h1, h2, h3⟩
  · exact .inl h
  · refine .inr ⟨g1, cap, cur, hv, h1, ?_, h3⟩
    simp only [Value.slice.injEq, Option.some.injEq, Addr.mk.injEq, and_true] at hv
    rw [← hv.1, hb, hv.1]
    exact h2
theorem row_lt {w : World} {base e size n c m g : Nat} {xs : List Value} (h : w.ownsRow base e size (.slice (some ⟨g, 0, none⟩) n c) m xs) : g < w.heap.size ∧ base ≤ g := by
  rcases h.2 with ⟨h', _⟩ | ⟨g1, cap, cur, hv, h1, h2, h3⟩
  · simp at h'
  · simp only [Value.slice.injEq, Option.some.injEq, Addr.mk.injEq, and_true] at hv
    rw [hv.1]
    exact ⟨(Array.getElem?_eq_some_iff.1 h2).1, h1⟩
theorem made_row {w : World} {base e n : Nat} {v : Value} (h : w.ownsRow base e 1 v n (madeCells (Value.int .i64 0).cells (n * 1)).toList) : w.ownsRow base e 1 v n ((List.replicate n (0 : Int)).map (Value.int .i64)) := by
  rw [← rep_map]; exact h
theorem own_row1 {w : World} {lo g c : Nat} {L : List Int} (h : w.ownsRow lo 2 1 (.slice (some ⟨g, 0, none⟩) L.length c) L.length (L.map (Value.int .i64))) (hn : L.length ≤ 9223372036854775807) : wh.Own w g (g + 1) (.slice (some ⟨g, 0, none⟩) L.length c) L := by
  refine ⟨hn, ?_⟩
  rcases h.2 with ⟨h', _⟩ | ⟨g1, cap, cur, h', hB, hg, hc, hm, hs, hr⟩
  · simp at h'
  · simp only [Value.slice.injEq, Option.some.injEq, Addr.mk.injEq, and_true, true_and] at h'
    obtain ⟨rfl, rfl⟩ := h'
    refine .inr ⟨g, c, cur, rfl, by omega, Nat.le_refl _, by omega, hg, by omega, by omega, fun k z hk => ?_⟩
    have hkl : k < L.length := (List.getElem?_eq_some_iff.1 hk).1
    have h1 : (L.map (Value.int .i64))[k]? = some (.int .i64 z) := by rw [List.getElem?_map, hk]; rfl
    rw [← hr, List.getElem?_take, if_pos (by omega)] at h1
    simpa using h1
theorem rows_step {w0 g7 g8 g7' g8' i : Nat} {wr wa wx wc : World} {xs : List Value} {f : Nat → List Int} {s : Value} (hrw : Rws w0 g7 g8 wr xs f) (l7 : g7 < wr.heap.size) (hne : g7 ≠ g8) (hl : xs.length = i)
    (KA : ∀ k, k < wr.heap.size → k ≠ g8 → wa.heap[k]? = wr.heap[k]?) (ZA : wr.heap.size ≤ wa.heap.size) (G8 : g8' = g8 ∨ wr.heap.size ≤ g8') (l8 : g8' < wa.heap.size)
    (KX : ∀ k, k < wa.heap.size → wx.heap[k]? = wa.heap[k]?) (ZX : wa.heap.size < wx.heap.size)
    (KC : ∀ k, k < wx.heap.size → k ≠ g7 → wc.heap[k]? = wx.heap[k]?) (ZC : wx.heap.size ≤ wc.heap.size) (G7 : g7' = g7 ∨ wx.heap.size ≤ g7')
    (ho : wh.Own wx wa.heap.size (wa.heap.size + 1) s (f i)) (h0 : w0 ≤ wr.heap.size) :
    Rws w0 g7' g8' wc (xs ++ [s]) f ∧ g7' ≠ g8' ∧ wc.heap[g8']? = wa.heap[g8']? := by
  refine ⟨?_, by omega, ?_⟩
  · refine Rws.add (p := wa.heap.size) (Rws.move hrw (by omega) (fun k hk h1 h2 => ?_) (by omega) (by omega)) (by omega) (by omega) (by omega) (by omega) ?_
    · rw [KC k (by omega) h1, KX k (by omega), KA k hk h2]
    · rw [hl]
      exact wh.Own.stay ho fun j j1 j2 _ => by rw [show j = wa.heap.size by omega]; exact KC _ ZX (by omega)
  · rw [KC _ (by omega) (by omega), KX _ l8]
theorem ix_succ (i : Nat) : (ix (List.range i)).map (Value.int .i64) ++ [Value.int .i64 (i : Int)] = (ix (List.range (i + 1))).map (Value.int .i64) := by
  unfold ix
  rw [List.range_succ, List.map_append, List.map_append]; rfl
/-- what one append leaves: the row's block is the old one or new, all other blocks are as they were -/
theorem app_at {w w' : World} {base e size m : Nat} {g : Nat} {v : Value} {xs : List Value} (h : w'.ownsRow base e size v m xs) (hg : w.grownBy w' (some g)) (hn : v ≠ .slice none 0 0) (ha : v.ownBlock = some g ∨ v.ownBlock = some w.heap.size) :
    ∃ g' c', v = .slice (some ⟨g', 0, none⟩) m c' ∧ (g' = g ∨ g' = w.heap.size) ∧ w.heap.size ≤ w'.heap.size ∧ ∀ k, k < w.heap.size → k ≠ g → w'.heap[k]? = w.heap[k]? := by
  obtain ⟨g', c', rfl, _⟩ := own_some h hn
  refine ⟨g', c', rfl, ?_, hg.size, fun k hk hne => hg.block k hk fun e => hne (by injection e)⟩
  rcases ha with h1 | h1
  · left; have t : some g' = some g := h1; injection t
  · right; have t : some g' = some w.heap.size := h1; injection t

set_option maxRecDepth 100000 in
set_option maxHeartbeats 8000000 in
theorem sres_any {A B : List Int} {va vb : Value} {w : World} (ha : Ls w va A) (hb : Ls w vb B) (sa : 2 ≤ A.length ∧ A.length ≤ 5 ∧ inR (-20) 20 A) (sb : 2 ≤ B.length ∧ B.length ≤ 5 ∧ inR (-20) 20 B) :
    Calls Try.prog 43 #[va, vb] w fun e w' => e = .returned (.int .i64 (rsl A B)) ∧ Below w.heap.size w w' := by
  obtain ⟨i0, hi, hz0, hz1, hz2⟩ := info_parts info_n
  obtain ⟨i1, hi1, hy0, hy1, hy2⟩ := info_parts info_r
  obtain ⟨i2, hi2, hx0, hx1, hx2⟩ := info_parts info_i
  have SA : Hid (inR (-20) 20 A) := sa.2.2
  have SB : Hid (inR (-20) 20 B) := sb.2.2
  obtain ⟨m, hm⟩ : ∃ m, A.length = m + 1 := ⟨A.length - 1, by omega⟩
  obtain ⟨n, hn⟩ : ∃ n, B.length = n + 1 := ⟨B.length - 1, by omega⟩
  have HM : Hid (A.length = m + 1) := hm
  have HN : Hid (B.length = n + 1) := hn
  have hm4 : 1 ≤ m ∧ m ≤ 4 := by omega
  have hn4 : 1 ≤ n ∧ n ≤ 4 := by omega
  have HNN : Hid (rwN A B = m + n) := by show _ = _; unfold rwN; omega
  obtain ⟨_, _, rfl, _, hca, hqa⟩ := ha
  obtain ⟨ba, fa, rfl, hba, ea⟩ := hqa (by omega)
  obtain ⟨_, _, rfl, _, hcb, hqb⟩ := hb
  obtain ⟨bb, fb, rfl, hbb, eb⟩ := hqb (by omega)
  have EA : Hid (∀ wr, Below w.heap.size w wr → ∀ k : Nat, k < m + 1 → wr.cell? ⟨ba, fa + k, none⟩ = some (.int .i64 (at' A k))) := fun wr b k hk => (b.cell (p := ⟨ba, fa + k, none⟩) hba).trans (ea k _ (at_some A k (by have := HM.out; omega)))
  have EB : Hid (∀ wr, Below w.heap.size w wr → ∀ k : Nat, k < n + 1 → wr.cell? ⟨bb, fb + k, none⟩ = some (.int .i64 (at' B k))) := fun wr b k hk => (b.cell (p := ⟨bb, fb + k, none⟩) hbb).trans (eb k _ (at_some B k (by have := HN.out; omega)))
  rw [hm, hn]
  have cm : ((m + 1 : Nat) : Int) - 1 = m := by omega
  have cn : ((n + 1 : Nat) : Int) - 1 = n := by omega
  have start7 : Hid (((w.alloc (.cells #[] 31)).alloc (.cells #[] 3)).ownsRow w.heap.size 31 1 (.slice (some ⟨w.heap.size, 0, none⟩) 0 0) 0 []) :=
    row_same (w := w.alloc (.cells #[] 31)) ⟨rfl, .inr ⟨w.heap.size, 0, #[], rfl, Nat.le_refl _, heap_alloc_new w _, by simp, by decide, rfl, rfl⟩⟩ ((new1 (w.alloc (.cells #[] 31)) _).block _ (by simp))
  have start8 : Hid (((w.alloc (.cells #[] 31)).alloc (.cells #[] 3)).ownsRow w.heap.size 3 1 (.slice (some ⟨w.heap.size + 1, 0, none⟩) 0 0) 0 []) :=
    ⟨rfl, .inr ⟨w.heap.size + 1, 0, #[], rfl, by omega, by have := heap_alloc_new (w.alloc (.cells #[] 31)) (.cells #[] 3); simpa using this, by simp, by decide, rfl, rfl⟩⟩
  have startB : Hid (Below w.heap.size w ((w.alloc (.cells #[] 31)).alloc (.cells #[] 3))) := new2 _ _ _
  clear ea eb hqa hqb hm hn sa sb
  go_enter Try.func43, Try.ntmps43
  go_wp2_with fail
  go_loopw [7, 8, 9] (fun r c i wr => ∃ (k g7 c7 g8 c8 : Nat) (xs : List Value), k ≤ m + n ∧ r = .slice (some ⟨g7, 0, none⟩) k c7 ∧ c = .slice (some ⟨g8, 0, none⟩) k c8 ∧ i = .int .i64 (k : Int) ∧ Hid (wr.ownsRow w.heap.size 31 1 (.slice (some ⟨g7, 0, none⟩) k c7) k xs) ∧ Hid (wr.ownsRow w.heap.size 3 1 (.slice (some ⟨g8, 0, none⟩) k c8) k ((ix (List.range k)).map (Value.int .i64))) ∧ Hid (g7 ≠ g8) ∧ Hid (Rws w.heap.size g7 g8 wr xs (sy A B)) ∧ Hid (Below w.heap.size w wr)) (fun _ _ i _ => m + n - (intOf i).toNat)
  case atStart => exact ⟨0, _, _, _, _, [], by omega, rfl, rfl, rfl, start7, start8, (by show w.heap.size ≠ w.heap.size + 1; omega), fun k hk => by simp at hk, startB⟩
  case round =>
    obtain ⟨i, g7, c7, g8, c8, xs, hik, rfl, rfl, rfl, h7, h8, hne, hrw, hbw⟩ := hrel
    obtain ⟨wq, hwq⟩ : ∃ x, x = wr := ⟨_, rfl⟩
    subst hwq
    clear start7 start8 startB
    by_cases hlt : i < m + n
    · have HS : Hid (w.heap.size ≤ wq.heap.size) := hbw.out.size
      have r8 : Hid ((wq.alloc (.cells #[.int .i64 (i : Int)] 3)).ownsRow w.heap.size 3 1 (.slice (some ⟨g8, 0, none⟩) i c8) i ((ix (List.range i)).map (Value.int .i64))) := h8.out.alloc _
      by_cases hin : i < n
      · go_wp2_with (first
          | (at_builtin; refine wpList_append_own_at _ rfl (.tmp 28) (.tmp 30) 92 rfl w.heap.size 3 i0 (.int .i64 0) 1 8 Try.underlying92 hi hz0 hz1 hz2 rfl (by decide) _ i _ rfl r8.out ⟨wq.heap.size, 0, none⟩ 1 1 [.int .i64 _] rfl rfl (cell_one_new wq _ _) (by intro u hu; rw [List.mem_singleton] at hu; subst hu; rfl) (by unfold maxLen; omega) (by omega) (by have := HS.out; simp; omega) ?_; intro v1 wa hown1 hgrow1 hnil hat; have hn9 : v1 ≠ .slice none 0 0 := (fun e => by have t : Value.slice (some ⟨g8, 0, none⟩) i c8 = Value.slice none 0 0 := (hnil.1 e).1; simp at t); have hat9 : v1.ownBlock = some g8 ∨ v1.ownBlock = some (wq.alloc (.cells #[.int .i64 (i : Int)] 3)).heap.size := hat; have hgr9 : (wq.alloc (.cells #[.int .i64 (i : Int)] 3)).grownBy wa (some g8) := hgrow1; obtain ⟨g8', c8', rfl, hg8, hsa, hka⟩ := app_at hown1 hgr9 hn9 hat9; have ZA : Hid (wq.heap.size ≤ wa.heap.size) := (by simp at hsa; show _ ≤ _; omega); have G8 : Hid (g8' = g8 ∨ wq.heap.size ≤ g8') := (by simp at hg8; show _ ∨ _; omega); have KA : Hid (∀ k, k < wq.heap.size → k ≠ g8 → wa.heap[k]? = wq.heap[k]?) := (fun k hk hne9 => (hka k (by simp; omega) hne9).trans ((new1 wq _).block k hk)); have R8 : Hid (wa.ownsRow w.heap.size 3 1 (.slice (some ⟨g8', 0, none⟩) (i + 1) c8') (i + 1) ((ix (List.range i)).map (Value.int .i64) ++ [.int .i64 (i : Int)])) := hown1; have BWA : Hid (Below w.heap.size w wa) := ((hbw.out.alloc HS.out _).grown hgr9 (by have := HS.out; simp; omega) (by intro j hj; injection hj with hj; have := (row_lt h8.out).2; omega)); clear hown1 hgrow1 hnil hat hn9 hat9 hgr9 hg8 hsa hka r8)
          | (refine wpList_make_full _ rfl (.tmp 34) (.tmp 34) 31 rfl wa.heap.size 2 i2 (.int .i64 0) 1 Try.underlying31 hi2 hx0 hx1 .i64 .i64 _ _ (m + n) rfl rfl (by omega) (by omega) (by rw [hx2]; omega) (by unfold maxLen; omega) (Nat.le_refl _) ?_; intro wb hownb hgrowb; have ZB : Hid (wa.heap.size ≤ wb.heap.size) := hgrowb.size; have KB : Hid (∀ k, k < wa.heap.size → wb.heap[k]? = wa.heap[k]?) := (fun k hk => hgrowb.block k hk (by intro h; cases h)); have RG : Hid (wb.ownsRow wa.heap.size 2 1 (.slice (some ⟨wa.heap.size, 0, none⟩) (m + n) (m + n)) (m + n) ((List.replicate (m + n) (0 : Int)).map (Value.int .i64))) := made_row hownb; have BWB : Hid (Below w.heap.size w wb) := BWA.out.grown hgrowb (by have := BWA.out.size; omega) (by intro j hj; cases hj); clear hownb hgrowb))
        go_loopw [41] (fun q wx => ∃ k : Nat, k ≤ m + 1 ∧ q = .int .i64 (k : Int) ∧ Hid (wx.ownsRow wa.heap.size 2 1 (.slice (some ⟨wa.heap.size, 0, none⟩) (m + n) (m + n)) (m + n) ((fl A i (m + n) k).map (Value.int .i64))) ∧ Hid (Turned wa.heap.size (wa.heap.size + 1) wb wx)) (fun q _ => m + 1 - (intOf q).toNat)
        case atStart => exact ⟨0, by omega, rfl, by rw [fl_zero]; exact RG, Turned.refl _ _ _⟩
        case round =>
          obtain ⟨k, hk, rfl, ho, ht⟩ := hrel
          obtain ⟨wx, hwx⟩ : ∃ x, x = wr := ⟨_, rfl⟩
          subst hwx
          by_cases hkl : k < m + 1
          · have hbx : Below w.heap.size w wx := BWB.out.trans (ht.out.below (by have := HS.out; have := ZA.out; omega) BWB.out.size)
            have e1 := EA.out _ hbx k hkl
            obtain ⟨j, hj⟩ : ∃ j, i + m = j + k := ⟨i + m - k, by omega⟩
            have q9 : (i : Int) + m - k = j := by omega
            have hjn : j < m + n := by omega
            have e2 : wx.cell? ⟨wa.heap.size, j, none⟩ = ((fl A i (m + n) k).map (Value.int .i64))[j]? := ho.out.cellAt j (by omega)
            obtain ⟨u, hu⟩ : ∃ u, ((fl A i (m + n) k).map (Value.int .i64))[j]? = some u := ⟨_, List.getElem?_eq_getElem (by rw [List.length_map, fl_len]; omega)⟩
            rw [hu] at e2
            have e3 : wx.frozen? ⟨wa.heap.size, j, none⟩ = false := ho.out.frozenAt j
            have hst := store_int (b := at' A k) e2 e3
            have HO : Hid ((wx.setCell ⟨wa.heap.size, j, none⟩ (.int .i64 (at' A k))).ownsRow wa.heap.size 2 1 (.slice (some ⟨wa.heap.size, 0, none⟩) (m + n) (m + n)) (m + n) ((fl A i (m + n) (k + 1)).map (Value.int .i64))) := by
              have t := (ho.out.stored j (.int .i64 (at' A k))).1
              rw [← List.map_set] at t
              have f := fl_set (A := A) (off := i) (N := m + n) (k := k) (by have := HM.out; omega)
              rw [show i + (A.length - 1) - k = j by have := HM.out; omega] at f
              rw [f] at t
              exact t
            have HT : Hid (Turned wa.heap.size (wa.heap.size + 1) wb (wx.setCell ⟨wa.heap.size, j, none⟩ (.int .i64 (at' A k)))) := ht.out.setCell (Nat.le_refl _) (by omega) _
            obtain ⟨z, hz⟩ : ∃ z, at' A k = z := ⟨_, rfl⟩
            rw [hz] at e1 HO HT hst
            clear hu ho ht hbx hz hj
            go_wp2_with fail
            go_roundw
            case rel => exact ⟨k + 1, by omega, by go_num, HO, HT⟩
            case measure => simp [intOf]; omega
          · obtain rfl : k = m + 1 := by omega
            have RX : Hid (wx.ownsRow wa.heap.size 2 1 (.slice (some ⟨wa.heap.size, 0, none⟩) (m + n) (m + n)) (m + n) ((sy A B i).map (Value.int .i64))) := by
              have e : sy A B i = fl A i (m + n) (m + 1) := by
                unfold sy
                rw [if_pos (by have := HN.out; omega), HM.out, HNN.out]
              rw [e]; exact ho.out
            have OX : Hid (wh.Own wx wa.heap.size (wa.heap.size + 1) (.slice (some ⟨wa.heap.size, 0, none⟩) (m + n) (m + n)) (sy A B i)) := by
              have hl : (sy A B i).length = m + n := by rw [sy_len]; exact HNN.out
              have t := RX.out
              rw [← hl] at t
              have t2 := own_row1 t (by omega)
              rw [hl] at t2; exact t2
            have BWX : Hid (Below w.heap.size w wx) := BWB.out.trans (ht.out.below (by have := HS.out; have := ZA.out; omega) BWB.out.size)
            have KX : Hid (∀ k, k < wa.heap.size → wx.heap[k]? = wa.heap[k]?) := fun k hk => (ht.out.block k (by have := ZB.out; omega) (by omega)).trans (KB.out k hk)
            have ZX : Hid (wa.heap.size < wx.heap.size) := (row_lt RX.out).1
            have l7 := row_lt h7.out
            have L7 : Hid (g7 < wq.heap.size) := l7.1
            have r7 : Hid ((wx.alloc (.cells #[.slice (some ⟨wa.heap.size, 0, none⟩) (m + n) (m + n)] 31)).ownsRow w.heap.size 31 1 (.slice (some ⟨g7, 0, none⟩) i c7) i xs) := (row_same h7.out (by rw [KX.out g7 (by have := ZA.out; omega), KA.out g7 l7.1 hne.out])).alloc _
            have xl : Hid (xs.length = i) := by have t9 := h7.out.1; simp at t9; exact t9
            have HS9 : Hid (w.heap.size ≤ wx.heap.size) := BWX.out.size
            have HG7 : Hid (w.heap.size ≤ g7) := l7.2
            clear ho ht l7 RX RG
            go_wp2_with (first
              | (at_builtin; refine wpList_append_own_at _ rfl (.tmp 75) (.tmp 77) 74 rfl w.heap.size 31 i1 (.slice none 0 0) 1 24 Try.underlying74 hi1 hy0 hy1 hy2 rfl (by decide) _ i xs rfl r7.out ⟨wx.heap.size, 0, none⟩ 1 1 [.slice (some ⟨wa.heap.size, 0, none⟩) (m + n) (m + n)] rfl rfl (cell_one_new wx _ _) (by intro u hu; rw [List.mem_singleton] at hu; subst hu; rfl) (by unfold maxLen; omega) (by omega) (by have := HS9.out; simp; omega) ?_; intro v1 wc hown1 hgrow1 hnil hat; have hn9 : v1 ≠ .slice none 0 0 := (fun e => by have t : Value.slice (some ⟨g7, 0, none⟩) i c7 = Value.slice none 0 0 := (hnil.1 e).1; simp at t); have hat9 : v1.ownBlock = some g7 ∨ v1.ownBlock = some (wx.alloc (.cells #[.slice (some ⟨wa.heap.size, 0, none⟩) (m + n) (m + n)] 31)).heap.size := hat; have hgr9 : (wx.alloc (.cells #[.slice (some ⟨wa.heap.size, 0, none⟩) (m + n) (m + n)] 31)).grownBy wc (some g7) := hgrow1; obtain ⟨g7', c7', rfl, hg7, hsa, hka⟩ := app_at hown1 hgr9 hn9 hat9; have BWC : Hid (Below w.heap.size w wc) := ((BWX.out.alloc HS9.out _).grown hgr9 (by have := HS9.out; simp; omega) (by intro j hj; injection hj with hj; have := HG7.out; omega)); have R7 : Hid (wc.ownsRow w.heap.size 31 1 (.slice (some ⟨g7', 0, none⟩) (i + 1) c7') (i + 1) (xs ++ [.slice (some ⟨wa.heap.size, 0, none⟩) (m + n) (m + n)])) := hown1; have ST : Hid _ := rows_step (g7' := g7') (g8' := g8') (wx := wx) (wc := wc) hrw.out L7.out hne.out xl.out KA.out ZA.out G8.out (row_lt R8.out).1 KX.out ZX.out (fun k hk hne9 => (hka k (by simp; omega) hne9).trans ((new1 wx _).block k hk)) (by simp at hsa; omega) (by simp at hg7; omega) OX.out HS.out; clear hown1 hgrow1 hnil hat hn9 hat9 hgr9 hg7 hsa hka r7))
            have R8' : Hid (wc.ownsRow w.heap.size 3 1 (.slice (some ⟨g8', 0, none⟩) (i + 1) c8') (i + 1) ((ix (List.range (i + 1))).map (Value.int .i64))) := by
              rw [← ix_succ]
              exact row_same R8.out ST.out.2.2
            have S1 : Hid _ := ST.out.1
            have S2 : Hid _ := ST.out.2.1
            clear ST R8 OX BWX KX ZX L7 xl HS9 HG7 KA ZA KB ZB G8 BWA BWB
            go_wp2_with fail
            go_roundw
            case rel => exact ⟨i + 1, g7', c7', g8', c8', _, by omega, rfl, rfl, by go_num, R7, R8', S2, S1, BWC⟩
            case measure => simp [intOf]; omega
      · obtain ⟨o, ho9⟩ : ∃ o, i = n + o := ⟨i - n, by omega⟩
        have q1 : (i : Int) - n = o := by omega
        have q2 : (o : Int) + n = i := by omega
        have HO9 : Hid (i = n + o) := ho9
        clear ho9
        go_wp2_with (first
          | (at_builtin; refine wpList_append_own_at _ rfl (.tmp 28) (.tmp 30) 92 rfl w.heap.size 3 i0 (.int .i64 0) 1 8 Try.underlying92 hi hz0 hz1 hz2 rfl (by decide) _ i _ rfl r8.out ⟨wq.heap.size, 0, none⟩ 1 1 [.int .i64 _] rfl rfl (cell_one_new wq _ _) (by intro u hu; rw [List.mem_singleton] at hu; subst hu; rfl) (by unfold maxLen; omega) (by omega) (by have := HS.out; simp; omega) ?_; intro v1 wa hown1 hgrow1 hnil hat; have hn9 : v1 ≠ .slice none 0 0 := (fun e => by have t : Value.slice (some ⟨g8, 0, none⟩) i c8 = Value.slice none 0 0 := (hnil.1 e).1; simp at t); have hat9 : v1.ownBlock = some g8 ∨ v1.ownBlock = some (wq.alloc (.cells #[.int .i64 (i : Int)] 3)).heap.size := hat; have hgr9 : (wq.alloc (.cells #[.int .i64 (i : Int)] 3)).grownBy wa (some g8) := hgrow1; obtain ⟨g8', c8', rfl, hg8, hsa, hka⟩ := app_at hown1 hgr9 hn9 hat9; have ZA : Hid (wq.heap.size ≤ wa.heap.size) := (by simp at hsa; show _ ≤ _; omega); have G8 : Hid (g8' = g8 ∨ wq.heap.size ≤ g8') := (by simp at hg8; show _ ∨ _; omega); have KA : Hid (∀ k, k < wq.heap.size → k ≠ g8 → wa.heap[k]? = wq.heap[k]?) := (fun k hk hne9 => (hka k (by simp; omega) hne9).trans ((new1 wq _).block k hk)); have R8 : Hid (wa.ownsRow w.heap.size 3 1 (.slice (some ⟨g8', 0, none⟩) (i + 1) c8') (i + 1) ((ix (List.range i)).map (Value.int .i64) ++ [.int .i64 (i : Int)])) := hown1; have BWA : Hid (Below w.heap.size w wa) := ((hbw.out.alloc HS.out _).grown hgr9 (by have := HS.out; simp; omega) (by intro j hj; injection hj with hj; have := (row_lt h8.out).2; omega)); clear hown1 hgrow1 hnil hat hn9 hat9 hgr9 hg8 hsa hka r8)
          | (refine wpList_make_full _ rfl (.tmp 34) (.tmp 34) 31 rfl wa.heap.size 2 i2 (.int .i64 0) 1 Try.underlying31 hi2 hx0 hx1 .i64 .i64 _ _ (m + n) rfl rfl (by omega) (by omega) (by rw [hx2]; omega) (by unfold maxLen; omega) (Nat.le_refl _) ?_; intro wb hownb hgrowb; have ZB : Hid (wa.heap.size ≤ wb.heap.size) := hgrowb.size; have KB : Hid (∀ k, k < wa.heap.size → wb.heap[k]? = wa.heap[k]?) := (fun k hk => hgrowb.block k hk (by intro h; cases h)); have RG : Hid (wb.ownsRow wa.heap.size 2 1 (.slice (some ⟨wa.heap.size, 0, none⟩) (m + n) (m + n)) (m + n) ((List.replicate (m + n) (0 : Int)).map (Value.int .i64))) := made_row hownb; have BWB : Hid (Below w.heap.size w wb) := BWA.out.grown hgrowb (by have := BWA.out.size; omega) (by intro j hj; cases hj); clear hownb hgrowb))
        go_loopw [58] (fun q wx => ∃ k : Nat, k ≤ n + 1 ∧ q = .int .i64 (k : Int) ∧ Hid (wx.ownsRow wa.heap.size 2 1 (.slice (some ⟨wa.heap.size, 0, none⟩) (m + n) (m + n)) (m + n) ((fl B o (m + n) k).map (Value.int .i64))) ∧ Hid (Turned wa.heap.size (wa.heap.size + 1) wb wx)) (fun q _ => n + 1 - (intOf q).toNat)
        case atStart => exact ⟨0, by omega, rfl, by rw [fl_zero]; exact RG, Turned.refl _ _ _⟩
        case round =>
          obtain ⟨k, hk, rfl, ho, ht⟩ := hrel
          obtain ⟨wx, hwx⟩ : ∃ x, x = wr := ⟨_, rfl⟩
          subst hwx
          by_cases hkl : k < n + 1
          · have hbx : Below w.heap.size w wx := BWB.out.trans (ht.out.below (by have := HS.out; have := ZA.out; omega) BWB.out.size)
            have e1 := EB.out _ hbx k hkl
            obtain ⟨j, hj⟩ : ∃ j, o + n = j + k := ⟨o + n - k, by omega⟩
            have q9 : (i : Int) - k = j := by omega
            have hjn : j < m + n := by omega
            have e2 : wx.cell? ⟨wa.heap.size, j, none⟩ = ((fl B o (m + n) k).map (Value.int .i64))[j]? := ho.out.cellAt j (by omega)
            obtain ⟨u, hu⟩ : ∃ u, ((fl B o (m + n) k).map (Value.int .i64))[j]? = some u := ⟨_, List.getElem?_eq_getElem (by rw [List.length_map, fl_len]; omega)⟩
            rw [hu] at e2
            have e3 : wx.frozen? ⟨wa.heap.size, j, none⟩ = false := ho.out.frozenAt j
            have hst := store_int (b := at' B k) e2 e3
            have HO : Hid ((wx.setCell ⟨wa.heap.size, j, none⟩ (.int .i64 (at' B k))).ownsRow wa.heap.size 2 1 (.slice (some ⟨wa.heap.size, 0, none⟩) (m + n) (m + n)) (m + n) ((fl B o (m + n) (k + 1)).map (Value.int .i64))) := by
              have t := (ho.out.stored j (.int .i64 (at' B k))).1
              rw [← List.map_set] at t
              have f := fl_set (A := B) (off := o) (N := m + n) (k := k) (by have := HN.out; omega)
              rw [show o + (B.length - 1) - k = j by have := HN.out; omega] at f
              rw [f] at t
              exact t
            have HT : Hid (Turned wa.heap.size (wa.heap.size + 1) wb (wx.setCell ⟨wa.heap.size, j, none⟩ (.int .i64 (at' B k)))) := ht.out.setCell (Nat.le_refl _) (by omega) _
            obtain ⟨z, hz⟩ : ∃ z, at' B k = z := ⟨_, rfl⟩
            rw [hz] at e1 HO HT hst
            clear hu ho ht hbx hz hj
            go_wp2_with fail
            go_roundw
            case rel => exact ⟨k + 1, by omega, by go_num, HO, HT⟩
            case measure => simp [intOf]; omega
          · obtain rfl : k = n + 1 := by omega
            have RX : Hid (wx.ownsRow wa.heap.size 2 1 (.slice (some ⟨wa.heap.size, 0, none⟩) (m + n) (m + n)) (m + n) ((sy A B i).map (Value.int .i64))) := by
              have e : sy A B i = fl B o (m + n) (n + 1) := by
                unfold sy
                rw [if_neg (by have := HN.out; have := HO9.out; omega), HN.out, HNN.out, show i - (n + 1 - 1) = o by have := HO9.out; omega]
              rw [e]; exact ho.out
            have OX : Hid (wh.Own wx wa.heap.size (wa.heap.size + 1) (.slice (some ⟨wa.heap.size, 0, none⟩) (m + n) (m + n)) (sy A B i)) := by
              have hl : (sy A B i).length = m + n := by rw [sy_len]; exact HNN.out
              have t := RX.out
              rw [← hl] at t
              have t2 := own_row1 t (by omega)
              rw [hl] at t2; exact t2
            have BWX : Hid (Below w.heap.size w wx) := BWB.out.trans (ht.out.below (by have := HS.out; have := ZA.out; omega) BWB.out.size)
            have KX : Hid (∀ k, k < wa.heap.size → wx.heap[k]? = wa.heap[k]?) := fun k hk => (ht.out.block k (by have := ZB.out; omega) (by omega)).trans (KB.out k hk)
            have ZX : Hid (wa.heap.size < wx.heap.size) := (row_lt RX.out).1
            have l7 := row_lt h7.out
            have L7 : Hid (g7 < wq.heap.size) := l7.1
            have r7 : Hid ((wx.alloc (.cells #[.slice (some ⟨wa.heap.size, 0, none⟩) (m + n) (m + n)] 31)).ownsRow w.heap.size 31 1 (.slice (some ⟨g7, 0, none⟩) i c7) i xs) := (row_same h7.out (by rw [KX.out g7 (by have := ZA.out; omega), KA.out g7 l7.1 hne.out])).alloc _
            have xl : Hid (xs.length = i) := by have t9 := h7.out.1; simp at t9; exact t9
            have HS9 : Hid (w.heap.size ≤ wx.heap.size) := BWX.out.size
            have HG7 : Hid (w.heap.size ≤ g7) := l7.2
            clear ho ht l7 RX RG
            go_wp2_with (first
              | (at_builtin; refine wpList_append_own_at _ rfl (.tmp 75) (.tmp 77) 74 rfl w.heap.size 31 i1 (.slice none 0 0) 1 24 Try.underlying74 hi1 hy0 hy1 hy2 rfl (by decide) _ i xs rfl r7.out ⟨wx.heap.size, 0, none⟩ 1 1 [.slice (some ⟨wa.heap.size, 0, none⟩) (m + n) (m + n)] rfl rfl (cell_one_new wx _ _) (by intro u hu; rw [List.mem_singleton] at hu; subst hu; rfl) (by unfold maxLen; omega) (by omega) (by have := HS9.out; simp; omega) ?_; intro v1 wc hown1 hgrow1 hnil hat; have hn9 : v1 ≠ .slice none 0 0 := (fun e => by have t : Value.slice (some ⟨g7, 0, none⟩) i c7 = Value.slice none 0 0 := (hnil.1 e).1; simp at t); have hat9 : v1.ownBlock = some g7 ∨ v1.ownBlock = some (wx.alloc (.cells #[.slice (some ⟨wa.heap.size, 0, none⟩) (m + n) (m + n)] 31)).heap.size := hat; have hgr9 : (wx.alloc (.cells #[.slice (some ⟨wa.heap.size, 0, none⟩) (m + n) (m + n)] 31)).grownBy wc (some g7) := hgrow1; obtain ⟨g7', c7', rfl, hg7, hsa, hka⟩ := app_at hown1 hgr9 hn9 hat9; have BWC : Hid (Below w.heap.size w wc) := ((BWX.out.alloc HS9.out _).grown hgr9 (by have := HS9.out; simp; omega) (by intro j hj; injection hj with hj; have := HG7.out; omega)); have R7 : Hid (wc.ownsRow w.heap.size 31 1 (.slice (some ⟨g7', 0, none⟩) (i + 1) c7') (i + 1) (xs ++ [.slice (some ⟨wa.heap.size, 0, none⟩) (m + n) (m + n)])) := hown1; have ST : Hid _ := rows_step (g7' := g7') (g8' := g8') (wx := wx) (wc := wc) hrw.out L7.out hne.out xl.out KA.out ZA.out G8.out (row_lt R8.out).1 KX.out ZX.out (fun k hk hne9 => (hka k (by simp; omega) hne9).trans ((new1 wx _).block k hk)) (by simp at hsa; omega) (by simp at hg7; omega) OX.out HS.out; clear hown1 hgrow1 hnil hat hn9 hat9 hgr9 hg7 hsa hka r7))
            have R8' : Hid (wc.ownsRow w.heap.size 3 1 (.slice (some ⟨g8', 0, none⟩) (i + 1) c8') (i + 1) ((ix (List.range (i + 1))).map (Value.int .i64))) := by
              rw [← ix_succ]
              exact row_same R8.out ST.out.2.2
            have S1 : Hid _ := ST.out.1
            have S2 : Hid _ := ST.out.2.1
            clear ST R8 OX BWX KX ZX L7 xl HS9 HG7 KA ZA KB ZB G8 BWA BWB
            go_wp2_with fail
            go_roundw
            case rel => exact ⟨i + 1, g7', c7', g8', c8', _, by omega, rfl, rfl, by go_num, R7, R8', S2, S1, BWC⟩
            case measure => simp [intOf]; omega
    · obtain rfl : i = m + n := by omega
      have hsy : (List.range (m + n)).map (sy A B) = SY A B := by unfold SY; rw [HNN.out]
      have hsl : (SY A B).length = m + n := by rw [SY_len, HNN.out]
      have RD := hrw.out.rd h7.out (by omega)
      rw [hsy] at RD
      have LC : Ls wq (.slice (some ⟨g8, 0, none⟩) (m + n) c8) (ix (List.range (m + n))) := by
        have hl : (ix (List.range (m + n))).length = m + n := by rw [ix_len, List.length_range]
        refine ls_of_row (base := w.heap.size) (e := 3) ?_ (by rw [hl]; omega)
        rw [hl]; exact h8.out
      have CC : Hid (Calls Try.prog 64 #[.slice (some ⟨g7, 0, none⟩) (m + n) c7, .slice (some ⟨g8, 0, none⟩) (m + n) c8] wq fun e w' => e = .returned (.int .i64 (dt (SY A B) (List.range (m + n)))) ∧ Below wq.heap.size wq w') := minor_any (SY A B) (List.range (m + n)) RD LC (by rw [List.length_range, hsl]) (by omega) (SY_rb SA.out SB.out) (fun r hr c hc => by
        obtain ⟨j, _, rfl⟩ := List.mem_map.1 hr
        rw [sy_len, HNN.out]
        exact List.mem_range.1 hc)
      have HE : Hid (dt (SY A B) (List.range (m + n)) = rsl A B) := by show _ = _; unfold rsl; rw [HNN.out]
      clear RD LC hsy hsl h7 h8 hrw
      go_wp2_with fail
      refine CC.out.mono ?_
      rintro e wz ⟨rfl, b⟩
      have BZ : Hid (Below w.heap.size w wz) := hbw.out.trans (b.mono hbw.out.size)
      rw [HE.out]
      clear b CC HE
      go_wp2_with fail
      go_ret
      exact ⟨rfl, BZ.out⟩
end Go.Proofs.Ytbbdhbamooaloab.res
