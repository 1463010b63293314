/- Resultants: the program's rows: slices.Reverse over a row, movedRows. -/
import Derived.Test.YtbbdhbamooaloabDtR
import Derived.Laws.CopyOwn
namespace Go.Pl
/-- a row with the terms from the place off on; k of them at each end have changed places -/
def sw (A : List Int) (off N k : Nat) : List Int := (List.range N).map fun c => if off ≤ c ∧ c ≤ off + (A.length - 1) then (if c < off + k ∨ off + (A.length - 1) < c + k then at' A (off + (A.length - 1) - c) else at' A (c - off)) else 0
theorem sw_len (A : List Int) (off N k : Nat) : (sw A off N k).length = N := by simp [sw]
theorem sw_get (A : List Int) (off N k : Nat) {c : Nat} (h : c < N) : (sw A off N k)[c]? = some (if off ≤ c ∧ c ≤ off + (A.length - 1) then (if c < off + k ∨ off + (A.length - 1) < c + k then at' A (off + (A.length - 1) - c) else at' A (c - off)) else 0) := by
  unfold sw
  rw [List.getElem?_map, List.getElem?_range h]
  rfl
theorem sw_step {A : List Int} {off N k : Nat} (hk : k + k < A.length - 1) :
    ((sw A off N k).set (off + k) (at' A (A.length - 1 - k))).set (off + (A.length - 1 - k)) (at' A k) = sw A off N (k + 1) := by
  refine List.ext_getElem? fun c => ?_
  by_cases h : c < N
  · rw [sw_get A off N (k + 1) h]
    by_cases e : c = off + (A.length - 1 - k)
    · rw [e, List.getElem?_set_self (by rw [List.length_set, sw_len]; omega), if_pos ⟨by omega, by omega⟩, if_pos (by omega), show off + (A.length - 1) - (off + (A.length - 1 - k)) = k by omega]
    · rw [List.getElem?_set_ne (fun e' => e e'.symm)]
      by_cases e2 : c = off + k
      · rw [e2, List.getElem?_set_self (by rw [sw_len]; omega), if_pos ⟨by omega, by omega⟩, if_pos (by omega), show off + (A.length - 1) - (off + k) = A.length - 1 - k by omega]
      · rw [List.getElem?_set_ne (fun e' => e2 e'.symm), sw_get A off N k h]
        congr 1
        by_cases h1 : off ≤ c ∧ c ≤ off + (A.length - 1)
        · rw [if_pos h1, if_pos h1]
          by_cases h2 : c < off + k ∨ off + (A.length - 1) < c + k
          · rw [if_pos h2, if_pos (by omega)]
          · rw [if_neg h2, if_neg (by omega)]
        · rw [if_neg h1, if_neg h1]
  · rw [List.getElem?_eq_none (by rw [List.length_set, List.length_set, sw_len]; omega), List.getElem?_eq_none (by rw [sw_len]; omega)]
theorem sw_at (A : List Int) {off N k : Nat} (hk : k + k < A.length - 1) (hN : off + (A.length - 1) < N) : (sw A off N k)[off + k]? = some (at' A k) ∧ (sw A off N k)[off + (A.length - 1 - k)]? = some (at' A (A.length - 1 - k)) := by
  constructor
  · rw [sw_get A off N k (by omega), if_pos ⟨by omega, by omega⟩, if_neg (by omega), show off + k - off = k by omega]
  · rw [sw_get A off N k (by omega), if_pos ⟨by omega, by omega⟩, if_neg (by omega), show off + (A.length - 1 - k) - off = A.length - 1 - k by omega]
theorem sw_end {A : List Int} {off N k : Nat} (h1 : 1 ≤ A.length) (hk : A.length - 1 ≤ k + k) : sw A off N k = fl A off N A.length := by
  refine List.ext_getElem? fun c => ?_
  by_cases h : c < N
  · rw [sw_get A off N k h, fl_at A off N _ h]
    congr 1
    by_cases h4 : off ≤ c ∧ c ≤ off + (A.length - 1)
    · rw [if_pos h4, if_pos (show off + (A.length - 1) < c + A.length ∧ c ≤ off + (A.length - 1) from ⟨by omega, h4.2⟩)]
      by_cases h2 : c < off + k ∨ off + (A.length - 1) < c + k
      · rw [if_pos h2]
      · rw [if_neg h2, show off + (A.length - 1) - c = c - off by omega]
    · rw [if_neg h4, if_neg (by omega)]
  · rw [List.getElem?_eq_none (by rw [sw_len]; omega), List.getElem?_eq_none (by rw [fl_len]; omega)]
theorem sw_copy {A : List Int} {off N : Nat} (h1 : 1 ≤ A.length) (hN : off + (A.length - 1) < N) : (List.replicate N (0 : Int)).take off ++ (A ++ (List.replicate N (0 : Int)).drop (off + A.length)) = sw A off N 0 := by
  refine List.ext_getElem? fun c => ?_
  by_cases h : c < N
  · rw [sw_get A off N 0 h]
    by_cases h2 : c < off
    · rw [List.getElem?_append_left (by simp; omega), if_neg (by omega), List.getElem?_take, if_pos h2, List.getElem?_replicate_of_lt h]
    · rw [List.getElem?_append_right (by simp; omega)]
      have hl : ((List.replicate N (0 : Int)).take off).length = off := by simp; omega
      rw [hl]
      by_cases h3 : c - off < A.length
      · rw [List.getElem?_append_left h3, if_pos ⟨by omega, by omega⟩, if_neg (by omega)]
        exact at_some A _ h3
      · rw [List.getElem?_append_right (by omega), if_neg (by omega), List.getElem?_drop, List.getElem?_replicate_of_lt (by omega)]
  · rw [List.getElem?_eq_none (by simp; omega), List.getElem?_eq_none (by rw [sw_len]; omega)]
end Go.Pl
namespace Go.Proofs.Ytbbdhbamooaloab.res
open Go.RowKit Go.Pl Go.Proofs.Ytbbdhbamooaloab.wh

theorem turned_dr {lo hi : Nat} {w w1 : World} (h : Turned lo hi w w1) : Turned lo hi w w1.drew := ⟨h.os, h.tape, h.output, h.size, h.block⟩
/-- block g is a row of the integers of L -/
def Bk (w : World) (g : Nat) (L : List Int) : Prop := w.heap[g]? = some (.cells ((L.map (Value.int .i64)).toArray) 2 (0, 0))
theorem Bk.cell {w : World} {g : Nat} {L : List Int} (h : Bk w g L) {j : Nat} {z : Int} (hj : L[j]? = some z) : w.cell? ⟨g, j, none⟩ = some (.int .i64 z) := by
  rw [cell_of_row w g j _ _ _ h]
  simp [hj]
theorem Bk.free {w : World} {g : Nat} {L : List Int} (h : Bk w g L) (j : Nat) : w.frozen? ⟨g, j, none⟩ = false := frozen_of_row _ _ _ _ _ h
theorem Bk.lt {w : World} {g : Nat} {L : List Int} (h : Bk w g L) : g < w.heap.size := (Array.getElem?_eq_some_iff.1 h).1
theorem Bk.set {w : World} {g : Nat} {L : List Int} (h : Bk w g L) (j : Nat) (z : Int) : Bk (w.setCell ⟨g, j, none⟩ (.int .i64 z)) g (L.set j z) := by
  have := heap_setCell_same w g j _ _ (.int .i64 z) h
  show _ = _
  rw [this]
  congr 2
  rw [List.map_set]
  simp
theorem Bk.stay {w w' : World} {g : Nat} {L : List Int} (h : Bk w g L) (hs : w'.heap[g]? = w.heap[g]?) : Bk w' g L := by show _ = _; rw [hs]; exact h
theorem Bk.own {w : World} {g : Nat} {L : List Int} (h : Bk w g L) (hl : L.length ≤ 1000) : wh.Own w g (g + 1) (.slice (some ⟨g, 0, none⟩) L.length L.length) L :=
  ⟨by omega, .inr ⟨g, L.length, _, rfl, Nat.le_refl _, Nat.le_refl _, by omega, h, by simp [maxLen]; omega, by simp, fun k z hk => by simp [hk]⟩⟩

theorem bk_of_made {w : World} {base g N : Nat} (h : w.ownsRow base 2 1 (.slice (some ⟨g, 0, none⟩) N N) N (madeCells (Value.int .i64 0).cells (N * 1)).toList) : Bk w g (List.replicate N 0) := by
  rcases h.2 with ⟨h', _⟩ | ⟨g1, cap, cur, h', hB, hg, hc, hm, hs, hr⟩
  · simp at h'
  · simp only [Value.slice.injEq, Option.some.injEq, Addr.mk.injEq, and_true, true_and] at h'
    obtain ⟨rfl, rfl⟩ := h'
    have e : cur.toList = (List.replicate N (0 : Int)).map (Value.int .i64) := by rw [← rep_map, ← hr, List.take_of_length_le (by simp [hs])]
    show _ = _
    rw [hg, ← e]
theorem bk_copy {w : World} {A : List Int} {g off N : Nat} (h : Bk w g (List.replicate N 0)) (h1 : 1 ≤ A.length) (hN : off + (A.length - 1) < N) :
    Bk (w.setRow g (((List.replicate N (0 : Int)).map (Value.int .i64)).toArray.toList.take off ++ (A.map (Value.int .i64) ++ ((List.replicate N (0 : Int)).map (Value.int .i64)).toArray.toList.drop (off + (A.map (Value.int .i64)).length))).toArray) g (sw A off N 0) := by
  have e := setRow_heap w g _ ((((List.replicate N (0 : Int)).map (Value.int .i64)).toArray.toList.take off ++ (A.map (Value.int .i64) ++ ((List.replicate N (0 : Int)).map (Value.int .i64)).toArray.toList.drop (off + (A.map (Value.int .i64)).length))).toArray) _ _ h
  show _ = _
  rw [e, ← sw_copy h1 hN]
  congr 3
  rw [List.map_append, List.map_append, List.map_take, List.map_drop, List.length_map]
set_option maxRecDepth 100000 in
set_option maxHeartbeats 4000000 in
theorem rev_any {A : List Int} {g off N cap : Nat} {w : World} (h : Bk w g (sw A off N 0)) (hl : 2 ≤ A.length ∧ A.length ≤ 5) (hN : off + (A.length - 1) < N) :
    Calls Try.prog 67 #[.slice (some ⟨g, off, none⟩) A.length cap] w fun e w' => e = .returned (.tuple #[]) ∧ Bk w' g (fl A off N A.length) ∧ Turned g (g + 1) w w' := by
  obtain ⟨m, hm⟩ : ∃ m, A.length = m + 1 := ⟨A.length - 1, by omega⟩
  have HM : Hid (A.length = m + 1) := hm
  have HB : Hid (Bk w g (sw A off N 0)) := h
  have hm4 : 1 ≤ m ∧ m ≤ 4 := by omega
  rw [hm] at hN
  have hN' : off + m < N := by omega
  rw [show fl A off N A.length = fl A off N (m + 1) by rw [hm]]
  simp only [hm]
  have cm : ((m + 1 : Nat) : Int) - 1 = m := by omega
  clear h hl hm hN
  go_enter Try.func67, Try.ntmps67
  go_wp2_with fail
  go_loopw [2, 3] (fun i j wr => ∃ (k : Nat) (z : Int), i = .int .i64 (k : Int) ∧ j = .int .i64 z ∧ z = (m : Int) - k ∧ k + k ≤ m + 1 ∧ Hid (Bk wr g (sw A off N k)) ∧ Hid (Turned g (g + 1) w wr)) (fun i _ _ => m + 1 - (intOf i).toNat)
  case atStart => exact ⟨0, m, rfl, rfl, by simp, by omega, HB, Turned.refl _ _ _⟩
  case round =>
    obtain ⟨k, z, rfl, rfl, hz, hk2, hB, hT⟩ := hrel
    by_cases hlt : k + k < m
    · obtain ⟨j, hj⟩ : ∃ j : Nat, m = k + j := ⟨m - k, by omega⟩
      have HJ : Hid (m = k + j) := hj
      have hzj : z = (j : Int) := by omega
      have hkj : k < j := by omega
      have hjm : j ≤ m := by omega
      subst hzj
      have hat := sw_at A (off := off) (N := N) (k := k) (by have := HM.out; omega) (by have := HM.out; omega)
      rw [show A.length - 1 - k = j by have := HM.out; omega] at hat
      have e1 := hB.out.cell hat.1
      have e2 := hB.out.cell hat.2
      have f1 := hB.out.free (off + k)
      have f2 := hB.out.free (off + j)
      have hst := sw_step (A := A) (off := off) (N := N) (k := k) (by have := HM.out; omega)
      rw [show A.length - 1 - k = j by have := HM.out; omega] at hst
      obtain ⟨x, hx⟩ : ∃ x, at' A k = x := ⟨_, rfl⟩
      obtain ⟨y, hy⟩ : ∃ y, at' A j = y := ⟨_, rfl⟩
      rw [hx] at e1 hst
      rw [hy] at e2 hst
      have NB : Hid (Bk ((wr.setCell ⟨g, off + k, none⟩ (.int .i64 y)).setCell ⟨g, off + j, none⟩ (.int .i64 x)) g (sw A off N (k + 1))) := by rw [← hst]; exact (hB.out.set _ _).set _ _
      have NT : Hid (Turned g (g + 1) w ((wr.setCell ⟨g, off + k, none⟩ (.int .i64 y)).setCell ⟨g, off + j, none⟩ (.int .i64 x))) := (hT.out.setCell (Nat.le_refl _) (by omega) _).setCell (Nat.le_refl _) (by omega) _
      clear hat hst hx hy hj hz hB hT
      go_wp2_with fail
      go_region
      all_goals go_wp2_with fail
      all_goals go_roundw
      case rel => exact ⟨k + 1, _, by go_num, rfl, by have := HJ.out; omega, by omega, NB, turned_dr NT.out⟩
      case measure => simp [intOf]; omega
    · have hke : m ≤ k + k := by omega
      have hnl : ¬ ((k : Int) < z) := by omega
      go_wp2_with fail
      refine bodyPost_end (v := .tuple #[]) (by simp [results, Try.results67]) rfl ?_
      refine ⟨rfl, ?_, hT.out⟩
      rw [← HM.out, ← sw_end (k := k) (by have := HM.out; omega) (by have := HM.out; omega)]
      exact hB.out

/-- the slice v has the values xs, each a row of LL, to read -/
def RwV (w : World) (v : Value) (xs : List Value) (LL : List (List Int)) : Prop :=
  ∃ b off cap, v = .slice (some ⟨b, off, none⟩) xs.length cap ∧ b < w.heap.size ∧ xs.length ≤ cap ∧ LL.length = xs.length ∧ (∀ (k : Nat) (s : Value), xs[k]? = some s → w.cell? ⟨b, off + k, none⟩ = some s) ∧ ∀ (k : Nat) (s : Value) (L : List Int), xs[k]? = some s → LL[k]? = some L → Rd w w.heap.size s L
theorem RwV.below {w w' : World} {v : Value} {xs : List Value} {LL : List (List Int)} (h : RwV w v xs LL) (hb : Below w.heap.size w w') : RwV w' v xs LL := by
  obtain ⟨b, off, cap, h1, h2, h3, h4, h5, h6⟩ := h
  exact ⟨b, off, cap, h1, Nat.lt_of_lt_of_le h2 hb.size, h3, h4, fun k s hk => (hb.cell (p := ⟨b, off + k, none⟩) h2).trans (h5 k s hk), fun k s L hk hL => ((h6 k s L hk hL).below hb (Nat.le_refl _)).up hb.size⟩
theorem RwV.rd {w : World} {v : Value} {xs : List Value} {LL : List (List Int)} (h : RwV w v xs LL) (hn : xs.length ≤ 1000) : RdWs w w.heap.size v LL := by
  obtain ⟨b, off, cap, h1, h2, h3, h4, h5, h6⟩ := h
  refine ⟨some ⟨b, off, none⟩, cap, by rw [h4]; exact h1, by omega, by omega, fun _ => ⟨b, off, rfl, h2, fun k L hk => ?_⟩⟩
  have hkl : k < xs.length := by have := (List.getElem?_eq_some_iff.1 hk).1; omega
  exact ⟨xs[k], h5 k _ (List.getElem?_eq_getElem hkl), h6 k _ L (List.getElem?_eq_getElem hkl) hk⟩
/-- the first k of the values xs are rows of f, each in a block of its own that is not g -/
def Rwi (w0 g k : Nat) (w : World) (xs : List Value) (f : Nat → List Int) : Prop := ∀ j, j < k → ∃ s p, xs[j]? = some s ∧ w0 ≤ p ∧ p < w.heap.size ∧ p ≠ g ∧ wh.Own w p (p + 1) s (f j)

set_option maxRecDepth 100000 in
set_option maxHeartbeats 8000000 in
theorem moved_any {A : List Int} {va : Value} {n : Nat} {w : World} (ha : Ls w va A) (hl : 2 ≤ A.length ∧ A.length ≤ 5) (hn : 1 ≤ n ∧ n ≤ 4) :
    Calls Try.prog 47 #[va, .int .i64 (n : Int)] w fun e w' => ∃ (v : Value) (xs : List Value), e = .returned v ∧ RwV w' v xs ((List.range n).map fun i => fl A i (A.length - 1 + n) A.length) ∧ Below w.heap.size w w' := by
  obtain ⟨i1, hi1, hy0, hy1, hy2⟩ := info_parts info_r
  obtain ⟨i2, hi2, hx0, hx1, hx2⟩ := info_parts info_i
  obtain ⟨m, hm⟩ : ∃ m, A.length = m + 1 := ⟨A.length - 1, by omega⟩
  have HM : Hid (A.length = m + 1) := hm
  have hm4 : 1 ≤ m ∧ m ≤ 4 := by omega
  obtain ⟨_, ka, rfl, _, hca, hqa⟩ := ha
  obtain ⟨ba, fa, rfl, hba, ea⟩ := hqa (by omega)
  have EA : Hid (∀ wr, Below w.heap.size w wr → ∀ j u, (A.map (Value.int .i64))[j]? = some u → wr.cell? ((⟨ba, fa, none⟩ : Addr).add j) = some u) := fun wr b j u hu => by
    rw [List.getElem?_map] at hu
    cases hz : A[j]? with
    | none => rw [hz] at hu; cases hu
    | some z =>
      rw [hz] at hu
      rw [Addr.add_lit, b.cell (p := ⟨ba, fa + j, none⟩) hba, ← Option.some.inj hu]
      exact ea j z hz
  have hin : ∀ (f : Nat → List Int), (fun i => fl A i (A.length - 1 + n) A.length) = f → f = fun i => fl A i (m + n) A.length := fun f hf => by rw [← hf]; funext i; rw [hm, Nat.add_sub_cancel]
  obtain ⟨f, hf⟩ : ∃ f : Nat → List Int, (fun i => fl A i (A.length - 1 + n) A.length) = f := ⟨_, rfl⟩
  rw [hf]
  have HF : Hid (∀ i, f i = fl A i (m + n) A.length) := fun i => by rw [hin f hf]
  rw [hm] at hca ⊢
  have cm : ((m + 1 : Nat) : Int) - 1 = m := by omega
  have szi : (Try.prog.info? 2).map (·.size) = some 1 := by kernel_rfl
  have N7 : m + n ≤ 8 := by omega
  clear ea hqa hm hl hf hin
  go_enter Try.func47, Try.ntmps47
  go_wp2_with (first | (refine wpList_make_full _ rfl (.tmp 7) (.tmp 7) 74 rfl w.heap.size 31 i1 (.slice none 0 0) 1 Try.underlying74 hi1 hy0 hy1 .i64 .i64 _ _ n rfl rfl rfl rfl (by rw [hy2]; omega) (by unfold maxLen; omega) (Nat.le_refl _) ?_; intro w1 hown hgrow))
  have R0 : Hid (w1.ownsRow w.heap.size 31 1 (.slice (some ⟨w.heap.size, 0, none⟩) n n) n _) := hown
  have B0 : Hid (Below w.heap.size w w1) := (Below.refl _ _).grown hgrow (Nat.le_refl _) (by intro j hj; cases hj)
  have G0 : Hid (w.heap.size < w1.heap.size) := (row_lt hown).1
  clear hown hgrow
  go_loopw [11] (fun i wr => ∃ (k : Nat) (xs : List Value), k ≤ n ∧ i = .int .i64 (k : Int) ∧ Hid (wr.ownsRow w.heap.size 31 1 (.slice (some ⟨w.heap.size, 0, none⟩) n n) n xs) ∧ Hid (Rwi w.heap.size w.heap.size k wr xs f) ∧ Hid (Below w.heap.size w wr)) (fun i _ => n - (intOf i).toNat)
  case atStart => exact ⟨0, _, by omega, rfl, R0, fun j hj => by omega, B0⟩
  case round =>
    obtain ⟨k, xs, hk, rfl, hr, hrw, hbw⟩ := hrel
    obtain ⟨wq, hwq⟩ : ∃ x, x = wr := ⟨_, rfl⟩
    subst hwq
    clear R0 B0 G0
    have hxl : xs.length = n := by have t := hr.out.1; simp at t; exact t
    have HG : Hid (w.heap.size < wq.heap.size) := (row_lt hr.out).1
    by_cases hlt : k < n
    · have hnk : ¬ (m + n = k) := by omega
      obtain ⟨u, hu⟩ : ∃ u, xs[k]? = some u := ⟨_, List.getElem?_eq_getElem (by omega)⟩
      have HU : Hid (xs[k]? = some u) := hu
      have HXL : Hid (xs.length = n) := hxl
      clear hu hxl
      go_wp2_with (first
        | (refine wpList_make_full _ rfl (.tmp 20) (.tmp 20) 31 rfl wq.heap.size 2 i2 (.int .i64 0) 1 Try.underlying31 hi2 hx0 hx1 .i64 .i64 _ _ (m + n) rfl rfl (by omega) (by omega) (by rw [hx2]; omega) (by unfold maxLen; omega) (Nat.le_refl _) ?_; intro wb hownb hgrowb; have KB : Hid (∀ j, j < wq.heap.size → wb.heap[j]? = wq.heap[j]?) := (fun j hj => hgrowb.block j hj (by intro h; cases h)); have ZB : Hid (wq.heap.size ≤ wb.heap.size) := hgrowb.size; have BWB : Hid (Below w.heap.size w wb) := hbw.out.grown hgrowb hbw.out.size (by intro j hj; cases hj); have RB : Hid (wb.ownsRow w.heap.size 31 1 (.slice (some ⟨w.heap.size, 0, none⟩) n n) n xs) := row_same hr.out (KB.out _ HG.out); have KK : Hid (Bk wb wq.heap.size (List.replicate (m + n) 0)) := bk_of_made hownb; have c1 : wb.cell? ⟨w.heap.size, k, none⟩ = some u := (RB.out.cellAt k (by omega)).trans HU.out; have f1 : wb.frozen? ⟨w.heap.size, k, none⟩ = false := RB.out.frozenAt k; have R1 : Hid ((wb.setCell ⟨w.heap.size, k, none⟩ (.slice (some ⟨wq.heap.size, 0, none⟩) (m + n) (m + n))).ownsRow w.heap.size 31 1 (.slice (some ⟨w.heap.size, 0, none⟩) n n) n (xs.set k (.slice (some ⟨wq.heap.size, 0, none⟩) (m + n) (m + n)))) := (RB.out.stored k (.slice (some ⟨wq.heap.size, 0, none⟩) (m + n) (m + n))).1; have K1 : Hid (Bk (wb.setCell ⟨w.heap.size, k, none⟩ (.slice (some ⟨wq.heap.size, 0, none⟩) (m + n) (m + n))) wq.heap.size (List.replicate (m + n) 0)) := KK.out.stay (Below.heap_setCell _ _ _ _ (by have := HG.out; show wq.heap.size ≠ w.heap.size; omega)); have B1 : Hid (Below w.heap.size w (wb.setCell ⟨w.heap.size, k, none⟩ (.slice (some ⟨wq.heap.size, 0, none⟩) (m + n) (m + n)))) := BWB.out.setCell (Nat.le_refl _) _; have Z1 : Hid (wq.heap.size < wb.heap.size) := KK.out.lt; clear hownb hgrowb RB KK)
        | (refine wpList_copy_own rfl (.tmp 28) (.tmp 29) 31 31 rfl 2 Try.underlying31 szi wq.heap.size k (m + n - k) _ ⟨ba, fa, none⟩ (m + 1) _ rfl rfl _ 2 K1.out (A.map (Value.int .i64)) (by rw [List.length_map, HM.out]; show m + 1 = Nat.min (m + 1) (m + n - k); exact (Nat.min_eq_left (by omega)).symm) (EA.out _ B1.out) (by simp [HM.out]; omega) one_of_map ?_; generalize hw2 : World.setRow _ _ _ = w2; have K2 : Hid (Bk w2 wq.heap.size (sw A k (m + n) 0)) := (by rw [← hw2]; exact bk_copy K1.out (by have := HM.out; omega) (by have := HM.out; omega)); have S2 : Hid (∀ j, j ≠ wq.heap.size → w2.heap[j]? = (wb.setCell ⟨w.heap.size, k, none⟩ (.slice (some ⟨wq.heap.size, 0, none⟩) (m + n) (m + n))).heap[j]?) := (fun j hj => by rw [← hw2]; exact setRow_other _ _ _ _ hj); have Z2 : Hid (w2.heap.size = wb.heap.size) := (by show _ = _; rw [← hw2]; simp [World.setRow, World.setCell]); have B2 : Hid (Below w.heap.size w w2) := (by rw [← hw2]; exact below_setRow B1.out (by have := HG.out; omega) _); have R2 : Hid (w2.ownsRow w.heap.size 31 1 (.slice (some ⟨w.heap.size, 0, none⟩) n n) n (xs.set k (.slice (some ⟨wq.heap.size, 0, none⟩) (m + n) (m + n)))) := row_same R1.out (S2.out _ (by have := HG.out; omega)); have c2 : w2.cell? ⟨w.heap.size, k, none⟩ = some (.slice (some ⟨wq.heap.size, 0, none⟩) (m + n) (m + n)) := (R2.out.cellAt k (by omega)).trans (List.getElem?_set_self (by have := HXL.out; omega)); clear hw2 K1 R1 B1))
      have RV : Calls Try.prog 67 #[.slice (some ⟨wq.heap.size, k, none⟩) (m + 1) (m + n - k)] w2 fun e w' => e = .returned (.tuple #[]) ∧ Bk w' wq.heap.size (fl A k (m + n) (m + 1)) ∧ Turned wq.heap.size (wq.heap.size + 1) w2 w' := by
        have t := rev_any (A := A) (g := wq.heap.size) (off := k) (N := m + n) (cap := m + n - k) K2.out (by have := HM.out; omega) (by have := HM.out; omega)
        rw [HM.out] at t
        exact t
      refine RV.mono ?_
      rintro e w3 ⟨rfl, o, t⟩
      have K3 : Hid (Bk w3 wq.heap.size (fl A k (m + n) (m + 1))) := o
      have T3 : Hid (Turned wq.heap.size (wq.heap.size + 1) w2 w3) := t
      clear o t RV c2
      have Z3 : Hid (w2.heap.size ≤ w3.heap.size) := T3.out.size
      have R3 : Hid (w3.ownsRow w.heap.size 31 1 (.slice (some ⟨w.heap.size, 0, none⟩) n n) n (xs.set k (.slice (some ⟨wq.heap.size, 0, none⟩) (m + n) (m + n)))) := row_same R2.out (T3.out.block _ (by have := Z2.out; have := Z1.out; have := HG.out; omega) (by have := HG.out; omega))
      have B3 : Hid (Below w.heap.size w w3) := B2.out.trans (T3.out.below (by have := HG.out; omega) B2.out.size)
      have W3 : Hid (Rwi w.heap.size w.heap.size (k + 1) w3 (xs.set k (.slice (some ⟨wq.heap.size, 0, none⟩) (m + n) (m + n))) f) := fun j hj => by
        by_cases hjk : j = k
        · subst hjk
          refine ⟨(.slice (some ⟨wq.heap.size, 0, none⟩) (m + n) (m + n)), wq.heap.size, List.getElem?_set_self (by have := HXL.out; omega), by have := HG.out; omega, K3.out.lt, by have := HG.out; omega, ?_⟩
          have t := K3.out.own (by rw [fl_len]; omega)
          rw [fl_len] at t
          rw [HF.out, HM.out]
          exact t
        · obtain ⟨s, p, a1, a2, a3, a4, a5⟩ := hrw.out j (by omega)
          refine ⟨s, p, by rw [List.getElem?_set_ne (fun e => hjk e.symm)]; exact a1, a2, by have := Z1.out; have := Z2.out; have := Z3.out; omega, a4, wh.Own.stay a5 fun q q1 q2 _ => ?_⟩
          have hq : q = p := by omega
          subst hq
          rw [T3.out.block q (by have := Z1.out; have := Z2.out; omega) (by omega), S2.out q (by omega), Below.heap_setCell _ _ _ _ (by show q ≠ w.heap.size; omega), KB.out q a3]
      clear K2 R2 S2 Z2 B2 K3 T3 Z3 Z1 hrw hr hbw KB
      go_wp2_with fail
      go_roundw
      case rel => exact ⟨k + 1, _, by omega, by go_num, R3, W3, B3⟩
      case measure => simp [intOf]; omega
    · obtain rfl : n = k := by omega
      go_wp2_with fail
      go_ret
      refine ⟨_, xs, rfl, ⟨w.heap.size, 0, n, by rw [hxl]; rfl, HG.out, by omega, by simp [hxl], fun j s hj => ?_, fun j s L hj hL => ?_⟩, hbw.out⟩
      · rw [Nat.zero_add]
        exact (hr.out.cellAt j (by have := (List.getElem?_eq_some_iff.1 hj).1; omega)).trans hj
      · have hjn : j < n := by have := (List.getElem?_eq_some_iff.1 hj).1; omega
        obtain ⟨s', p, a1, _, a3, _, a5⟩ := hrw.out j hjn
        rw [hj] at a1
        injection a1 with a1
        subst a1
        rw [List.getElem?_map, List.getElem?_range hjn] at hL
        injection hL with hL
        rw [← hL]
        exact a5.rd.up (by omega)
end Go.Proofs.Ytbbdhbamooaloab.res

