/- Lists of 64-bit integers and wholes: what they hold; the helpers of the exact laws over them: copies, comparisons, marks. -/
import Derived.Test.YtfhcfeafohcjpaaRows
import Derived.WalkKit
import Derived.WalkLawsBesides
import Derived.Deep.Draws
import Derived.Deep.RegionWith
import Derived.Deep.QuietTactic
import Derived.BigQuiet
namespace Go.Proofs.Ytfhcfeafohcjpaa.wh
open Go.RowKit

/-- the slice v holds the integers of L, in blocks below hi -/
def Rd (w : World) (hi : Nat) (v : Value) (L : List Int) : Prop :=
  ∃ ao cap, v = .slice ao L.length cap ∧ L.length ≤ 9223372036854775807 ∧ L.length ≤ cap ∧ (L.length ≠ 0 → ∃ b off, ao = some ⟨b, off, none⟩ ∧ b < hi ∧ ∀ (k : Nat) (z : Int), L[k]? = some z → w.cell? ⟨b, off + k, none⟩ = some (.int .i64 z))
/-- the slice v holds the integers of L -/
def Ls (w : World) (v : Value) (L : List Int) : Prop := Rd w w.heap.size v L

theorem Rd.below {w w' : World} {hi B : Nat} {v : Value} {L : List Int} (h : Rd w hi v L) (hb : Below B w w') (hB : hi ≤ B) : Rd w' hi v L := by
  obtain ⟨ao, cap, rfl, hn, hcp, hc⟩ := h
  refine ⟨ao, cap, rfl, hn, hcp, fun h0 => ?_⟩
  obtain ⟨b, off, rfl, hlt, hcell⟩ := hc h0
  exact ⟨b, off, rfl, hlt, fun k z hk => (hb.cell (p := ⟨b, off + k, none⟩) (Nat.lt_of_lt_of_le hlt hB)).trans (hcell k z hk)⟩
theorem Rd.ls {w : World} {hi : Nat} {v : Value} {L : List Int} (h : Rd w hi v L) (hh : hi ≤ w.heap.size) : Ls w v L := by
  obtain ⟨ao, cap, rfl, hn, hcp, hc⟩ := h
  refine ⟨ao, cap, rfl, hn, hcp, fun h0 => ?_⟩
  obtain ⟨b, off, rfl, hlt, hcell⟩ := hc h0
  exact ⟨b, off, rfl, Nat.lt_of_lt_of_le hlt hh, hcell⟩
theorem Ls.below {w w' : World} {v : Value} {L : List Int} (h : Ls w v L) (hb : Below w.heap.size w w') : Ls w' v L :=
  Rd.ls (Rd.below h hb (Nat.le_refl _)) hb.size

/-- the slice v holds the integers of L, in a block of its own with a number from lo to below hi -/
def Own (w : World) (lo hi : Nat) (v : Value) (L : List Int) : Prop :=
  L.length ≤ 9223372036854775807 ∧ ((v = .slice none 0 0 ∧ L = []) ∨ ∃ (g cap : Nat) (cs : Array Value), v = .slice (some ⟨g, 0, none⟩) L.length cap ∧ L.length ≤ cap ∧ lo ≤ g ∧ g < hi ∧ w.heap[g]? = some (.cells cs 2 (0, 0)) ∧ cs.size ≤ maxLen ∧ L.length ≤ cs.size ∧ ∀ (k : Nat) (z : Int), L[k]? = some z → cs[k]? = some (Value.int .i64 z))

theorem Own.rd {w : World} {lo hi : Nat} {v : Value} {L : List Int} (h : Own w lo hi v L) : Rd w hi v L := by
  obtain ⟨hn, ⟨rfl, rfl⟩ | ⟨g, cap, cs, rfl, hcp, h1, h2, h3, _, h4, h5⟩⟩ := h
  · exact ⟨none, 0, rfl, by simp, by simp, fun h => absurd rfl h⟩
  · refine ⟨_, _, rfl, hn, hcp, fun _ => ⟨g, 0, rfl, h2, fun k z hk => ?_⟩⟩
    rw [Nat.zero_add, cell_of_row w g k cs _ _ h3]
    exact h5 k z hk
theorem Own.ls {w : World} {lo hi : Nat} {v : Value} {L : List Int} (h : Own w lo hi v L) (hh : hi ≤ w.heap.size) : Ls w v L := h.rd.ls hh

theorem Own.stay {w w' : World} {lo hi : Nat} {v : Value} {L : List Int} (h : Own w lo hi v L) (hs : ∀ k, lo ≤ k → k < hi → k < w.heap.size → w'.heap[k]? = w.heap[k]?) : Own w' lo hi v L := by
  obtain ⟨hn, h | ⟨g, cap, cs, rfl, hcp, h1, h2, h3, h4⟩⟩ := h
  · exact ⟨hn, .inl h⟩
  · exact ⟨hn, .inr ⟨g, cap, cs, rfl, hcp, h1, h2, by rw [hs g h1 h2 (Array.getElem?_eq_some_iff.1 h3).1]; exact h3, h4⟩⟩

theorem Own.below {w w' : World} {lo hi B : Nat} {v : Value} {L : List Int} (h : Own w lo hi v L) (hb : Below B w w') (hB : hi ≤ B) : Own w' lo hi v L :=
  h.stay fun k _ h2 _ => hb.block k (by omega)
theorem Own.kept {w w' : World} {lo hi : Nat} {v : Value} {L : List Int} (h : Own w lo hi v L) (hb : Below w.heap.size w w') : Own w' lo hi v L :=
  h.stay fun k _ _ h3 => hb.block k h3

theorem Own.wide {w : World} {lo lo' hi hi' : Nat} {v : Value} {L : List Int} (h : Own w lo hi v L) (h1 : lo' ≤ lo) (h2 : hi ≤ hi') : Own w lo' hi' v L := by
  obtain ⟨hn, h | ⟨g, cap, cs, rfl, hcp, a, b, h3, h4⟩⟩ := h
  · exact ⟨hn, .inl h⟩
  · exact ⟨hn, .inr ⟨g, cap, cs, rfl, hcp, by omega, by omega, h3, h4⟩⟩

theorem Rd.shape {w : World} {hi : Nat} {v : Value} {L : List Int} (h : Rd w hi v L) : ∃ ao cap, v = .slice ao L.length cap := by
  obtain ⟨ao, cap, h, _⟩ := h
  exact ⟨ao, cap, h⟩
theorem Own.shape {w : World} {lo hi : Nat} {v : Value} {L : List Int} (h : Own w lo hi v L) : ∃ ao cap, v = .slice ao L.length cap := h.rd.shape
/-- block b is a box of one cell, which holds v -/
def Bx (w : World) (b : Nat) (v : Value) : Prop := ∃ t, w.heap[b]? = some (.cells #[v] t (0, 0))
theorem Bx.cell {w : World} {b : Nat} {v : Value} (h : Bx w b v) : w.cell? ⟨b, 0, none⟩ = some v := by
  obtain ⟨t, h⟩ := h
  rw [cell_of_row _ _ _ _ _ _ h]; rfl
theorem Bx.free {w : World} {b : Nat} {v : Value} (h : Bx w b v) : w.frozen? ⟨b, 0, none⟩ = false := by
  obtain ⟨t, h⟩ := h
  exact frozen_of_row _ _ _ _ _ h
theorem Bx.lt {w : World} {b : Nat} {v : Value} (h : Bx w b v) : b < w.heap.size := by
  obtain ⟨t, h⟩ := h
  exact (Array.getElem?_eq_some_iff.1 h).1
theorem Bx.new (w : World) (u : Value) (t : TypeId) : Bx (w.alloc (.cells #[u] t)) w.heap.size u := ⟨t, heap_alloc_new w _⟩
theorem Bx.below {w w' : World} {b B : Nat} {v : Value} (h : Bx w b v) (hb : Below B w w') (hB : b < B) : Bx w' b v := by
  obtain ⟨t, h⟩ := h
  exact ⟨t, by rw [hb.block b hB]; exact h⟩
theorem Bx.kept {w w' : World} {b : Nat} {v : Value} (h : Bx w b v) (hb : Below w.heap.size w w') : Bx w' b v := h.below hb h.lt
theorem Bx.alloc {w : World} {b : Nat} {v : Value} (h : Bx w b v) (o : Obj) : Bx (w.alloc o) b v := h.kept ((Below.refl _ _).alloc (Nat.le_refl _) _)
theorem Bx.new2 (w : World) (u : Value) (t : TypeId) (o : Obj) : Bx ((w.alloc o).alloc (.cells #[u] t)) (w.heap.size + 1) u := by
  have := Bx.new (w.alloc o) u t
  simpa using this
theorem Bx.new3 (w : World) (u : Value) (t : TypeId) (o o2 : Obj) : Bx (((w.alloc o).alloc o2).alloc (.cells #[u] t)) (w.heap.size + 1 + 1) u := by
  have := Bx.new ((w.alloc o).alloc o2) u t
  simpa using this
theorem Bx.set {w : World} {b : Nat} {v : Value} (h : Bx w b v) (u : Value) : Bx (w.setCell ⟨b, 0, none⟩ u) b u := by
  obtain ⟨t, h⟩ := h
  exact ⟨t, by rw [heap_setCell_same w b 0 #[v] t u h]; rfl⟩
theorem Bx.other {w : World} {b : Nat} {v : Value} (h : Bx w b v) {g j : Nat} (hg : b ≠ g) (u : Value) : Bx (w.setCell ⟨g, j, none⟩ u) b v := by
  obtain ⟨t, h⟩ := h
  exact ⟨t, by rw [Below.heap_setCell _ _ _ _ hg]; exact h⟩
theorem own_lt {w : World} {base e size g n cap m : Nat} {xs : List Value} (h : w.ownsRow base e size (.slice (some ⟨g, 0, none⟩) n cap) m xs) : g < w.heap.size := by
  rcases h.2 with ⟨h', _⟩ | ⟨g', cap', cur, h', _, hg, _⟩
  · simp at h'
  · simp only [Value.slice.injEq, Option.some.injEq, Addr.mk.injEq, and_true] at h'
    obtain ⟨rfl, _⟩ := h'
    exact (Array.getElem?_eq_some_iff.1 hg).1

theorem Own.of_row {w : World} {lo hi : Nat} {v : Value} {L : List Int} (h : w.ownsRow lo 2 1 v L.length (L.map (Value.int .i64))) (hn : L.length ≤ 9223372036854775807) (hh : w.heap.size ≤ hi) : Own w lo hi v L := by
  refine ⟨hn, ?_⟩
  rcases h.2 with ⟨rfl, h0⟩ | ⟨g, cap, cur, rfl, hB, hg, hc, hm, hs, hr⟩
  · exact .inl ⟨rfl, List.eq_nil_of_length_eq_zero h0⟩
  · refine .inr ⟨g, cap, cur, rfl, by omega, hB, Nat.lt_of_lt_of_le (Array.getElem?_eq_some_iff.1 hg).1 hh, hg, by omega, by omega, fun k z hk => ?_⟩
    have hkl : k < L.length := (List.getElem?_eq_some_iff.1 hk).1
    have h1 : (L.map (Value.int .i64))[k]? = some (.int .i64 z) := by rw [List.getElem?_map, hk]; rfl
    rw [← hr, List.getElem?_take, if_pos (by omega)] at h1
    simpa using h1

/-- blocks from lo to below hi may have turned, and nothing else that was there has -/
structure Turned (lo hi : Nat) (w w' : World) : Prop where
  os : w'.os = w.os
  tape : w'.tape = w.tape
  output : w'.output = w.output
  size : w.heap.size ≤ w'.heap.size
  block : ∀ k, k < w.heap.size → (k < lo ∨ hi ≤ k) → w'.heap[k]? = w.heap[k]?
theorem Turned.refl (lo hi : Nat) (w : World) : Turned lo hi w w := ⟨rfl, rfl, rfl, Nat.le_refl _, fun _ _ _ => rfl⟩
theorem Turned.below {lo hi B : Nat} {w w' : World} (h : Turned lo hi w w') (hB : B ≤ lo) (hw : B ≤ w.heap.size) : Below B w w' := ⟨h.os, h.tape, h.output, h.size, fun k hk => h.block k (by omega) (by omega)⟩
theorem Turned.setCell {lo hi : Nat} {w w' : World} (h : Turned lo hi w w') {g j : Nat} (h1 : lo ≤ g) (h2 : g < hi) (u : Value) : Turned lo hi w (w'.setCell ⟨g, j, none⟩ u) :=
  ⟨h.os, h.tape, h.output, by have := h.size; simpa [World.setCell] using this, fun k hk ho => by rw [Below.heap_setCell _ _ _ _ (by show k ≠ g; omega)]; exact h.block k hk ho⟩
theorem Turned.pre {lo hi : Nat} {w w0 w' : World} (hb : Below w.heap.size w w0) (h : Turned lo hi w0 w') : Turned lo hi w w' :=
  ⟨h.os.trans hb.os, h.tape.trans hb.tape, h.output.trans hb.output, Nat.le_trans hb.size h.size, fun k hk ho => (h.block k (Nat.lt_of_lt_of_le hk hb.size) ho).trans (hb.block k hk)⟩
theorem Rd.turned {w w' : World} {hi lo' hi' : Nat} {v : Value} {L : List Int} (h : Rd w hi v L) (ht : Turned lo' hi' w w') (ho : hi ≤ lo') (hw : hi ≤ w.heap.size) : Rd w' hi v L :=
  h.below (ht.below ho hw) (Nat.le_refl _)
theorem Own.turned {w w' : World} {lo hi lo' hi' : Nat} {v : Value} {L : List Int} (h : Own w lo hi v L) (ht : Turned lo' hi' w w') (ho : hi ≤ lo' ∨ hi' ≤ lo) : Own w' lo hi v L :=
  h.stay fun k h1 h2 h3 => ht.block k h3 (by omega)

theorem Bx.turned {w w' : World} {b lo hi : Nat} {v : Value} (h : Bx w b v) (ht : Turned lo hi w w') (ho : b < lo ∨ hi ≤ b) : Bx w' b v := by
  have hl := h.lt
  obtain ⟨t, h⟩ := h
  exact ⟨t, by rw [ht.block b hl ho]; exact h⟩

theorem info_i : (Try.prog.info? 2).map (fun i => (i.zero, i.size, i.bytes)) = some (some (.int .i64 0), 1, 8) := by kernel_rfl

theorem store_int {w : World} {a : Addr} {b : Int} {u : Value} (h : w.cell? a = some u) (hf : w.frozen? a = false) : (store a (.int .i64 b)).run Try.prog w = .ok () (w.setCell a (.int .i64 b)) := by
  rw [run_store _ _ _ _ _ rfl]
  simp [h, hf]

/-- the marks -/
def mk (k : Int) (n : Nat) : List Int := (List.range n).map fun (j : Nat) => k + (j : Int)
theorem mk_len (k : Int) (n : Nat) : (mk k n).length = n := by simp [mk]
theorem mk_get (k : Int) (n j : Nat) (h : j < n) : (mk k n)[j]? = some (k + (j : Int)) := by simp [mk, h]
theorem mk_nil (k : Int) : mk k 0 = [] := rfl

theorem to_any {v : Value} {L : List Int} {w : World} (h : Ls w v L) (hn : L.length ≤ 1048576) :
    Calls Try.prog 35 #[v] w fun e w' => ∃ v', e = .returned v' ∧ Own w' w.heap.size w'.heap.size v' L ∧ Below w.heap.size w w' := by
  obtain ⟨ao, cap, rfl, hn9, hcp, hc⟩ := h
  obtain ⟨i0, hi, hz0, hz1, hz2⟩ := info_parts info_i
  have hc' : Hid (L.length ≠ 0 → ∃ b off, ao = some ⟨b, off, none⟩ ∧ b < w.heap.size ∧ ∀ (k : Nat) (z : Int), L[k]? = some z → w.cell? ⟨b, off + k, none⟩ = some (.int .i64 z)) := hc
  clear hc
  have hml : L.length ≤ maxLen := by unfold maxLen; omega
  obtain ⟨n, hnn⟩ : ∃ n, n = L.length := ⟨_, rfl⟩
  rw [← hnn] at hn hml hc' hn9 ⊢
  have HN : Hid (n = L.length) := hnn
  clear hnn
  obtain ⟨B, hB⟩ : ∃ B, B = w.heap.size := ⟨_, rfl⟩
  go_enter Try.func35, Try.ntmps35
  go_wp2_with (first | (refine wpList_make_full _ rfl (.tmp 6) (.tmp 6) 22 rfl w.heap.size 2 i0 (.int .i64 0) 1 Try.underlying22 hi hz0 hz1 .i64 .i64 _ _ n rfl rfl rfl rfl (by rw [hz2]; omega) hml (Nat.le_refl _) ?_; intro w1 hown hgrow))
  rw [← hB] at hown
  rw [← hB]
  have hbel : Below B w w1 := (Below.refl B w).grown hgrow (by omega) (by intro k hk; cases hk)
  have HE : Hid (B = w.heap.size) := hB
  clear hgrow hB
  go_loopw [4] (fun i wr => ∃ (k : Nat) (xs : List Value), k ≤ n ∧ i = .int .i64 k ∧ Hid (wr.ownsRow B 2 1 (.slice (some ⟨B, 0, none⟩) n n) n xs) ∧ Hid (∀ j z, j < k → L[j]? = some z → xs[j]? = some (.int .i64 z)) ∧ Hid (Below B w wr)) (fun i _ => n - (intOf i).toNat)
  case atStart => exact ⟨0, _, by omega, rfl, hown, fun j _ hj => by omega, hbel⟩
  case round =>
    obtain ⟨k, xs, hk, rfl, ho, hx, hb⟩ := hrel
    by_cases hlt : k < n
    · obtain ⟨b, off, rfl, hbw, hcell⟩ := hc'.out (by omega)
      obtain ⟨z, hz⟩ : ∃ z, L[k]? = some z := ⟨L[k]'(by have := HN.out; omega), List.getElem?_eq_getElem _⟩
      have e1 : wr.cell? ⟨b, off + k, none⟩ = some (.int .i64 z) := (hb.out.cell (by have := HE.out; show b < B; omega)).trans (hcell k z hz)
      have e2 : wr.cell? ⟨B, k, none⟩ = xs[k]? := ho.out.cellAt k (by omega)
      have hxl : xs.length = n := by have := ho.out.1; simpa using this
      obtain ⟨u, hu⟩ : ∃ u, xs[k]? = some u := ⟨xs[k]'(by omega), List.getElem?_eq_getElem (by omega)⟩
      rw [hu] at e2
      have e3 : wr.frozen? ⟨B, k, none⟩ = false := ho.out.frozenAt k
      have hst := store_int (b := z) e2 e3
      have HO : Hid ((wr.setCell ⟨B, k, none⟩ (.int .i64 z)).ownsRow B 2 1 (.slice (some ⟨B, 0, none⟩) n n) n (xs.set k (.int .i64 z))) := (ho.out.stored k (.int .i64 z)).1
      have HX : Hid (∀ j y, j < k + 1 → L[j]? = some y → (xs.set k (.int .i64 z))[j]? = some (.int .i64 y)) := by
        intro j y hj hy
        by_cases hjk : j = k
        · subst hjk
          rw [hz] at hy
          rw [List.getElem?_set_self (by omega), Option.some.inj hy]
        · rw [List.getElem?_set_ne (by omega)]
          exact hx.out j y (by omega) hy
      have HB : Hid (Below B w (wr.setCell ⟨B, k, none⟩ (.int .i64 z))) := hb.out.setCell (p := ⟨B, k, none⟩) (Nat.le_refl B) _
      clear hcell hu hb ho hx hxl hz
      go_wp2
      go_roundw
      case rel => exact ⟨k + 1, _, by omega, by go_num, HO, HX, HB⟩
      case measure => simp [intOf]; omega
    · obtain rfl : k = n := by omega
      go_wp2
      go_ret
      have hxs : xs = L.map (Value.int .i64) := by
        apply List.ext_getElem?
        intro j
        have hxl : xs.length = k := by have := ho.out.1; simpa using this
        by_cases hj : j < k
        · obtain ⟨z, hz⟩ : ∃ z, L[j]? = some z := ⟨L[j]'(by have := HN.out; omega), List.getElem?_eq_getElem _⟩
          rw [hx.out j z hj hz, List.getElem?_map, hz]; rfl
        · rw [List.getElem?_eq_none (by omega), List.getElem?_eq_none (by have := HN.out; simp; omega)]
      have ho' := ho.out
      rw [hxs, HN.out] at ho'
      refine ⟨_, rfl, ?_, by rw [← HE.out]; exact hb.out⟩
      rw [HN.out, ← HE.out]
      exact Own.of_row ho' (by have := HN.out; omega) (Nat.le_refl _)

theorem eq_any {v0 v1 : Value} {L : List Int} {w : World} (h0 : Ls w v0 L) (h1 : Ls w v1 L) :
    Calls Try.prog 39 #[v0, v1] w fun e w' => e = .returned (.bool true) ∧ ∃ m, w' = w.drewN m := by
  obtain ⟨ao, cap, rfl, hn, _, hc0⟩ := h0
  obtain ⟨bo, cap1, rfl, _, _, hc1⟩ := h1
  have hc0' : Hid (L.length ≠ 0 → ∃ b off, ao = some ⟨b, off, none⟩ ∧ b < w.heap.size ∧ ∀ (k : Nat) (z : Int), L[k]? = some z → w.cell? ⟨b, off + k, none⟩ = some (.int .i64 z)) := hc0
  have hc1' : Hid (L.length ≠ 0 → ∃ b off, bo = some ⟨b, off, none⟩ ∧ b < w.heap.size ∧ ∀ (k : Nat) (z : Int), L[k]? = some z → w.cell? ⟨b, off + k, none⟩ = some (.int .i64 z)) := hc1
  clear hc0 hc1
  go_enter Try.func39, Try.ntmps39
  go_wp2
  go_loopw [5] (fun i wr => ∃ (k : Nat), k ≤ L.length ∧ i = .int .i64 k ∧ Hid (∃ m, wr = w.drewN m)) (fun i _ => L.length - (intOf i).toNat)
  case atStart => exact ⟨0, by omega, rfl, 0, rfl⟩
  case round =>
    obtain ⟨k, hk, rfl, hm⟩ := hrel
    by_cases hlt : k < L.length
    · obtain ⟨b, off, rfl, _, hcell⟩ := hc0'.out (by omega)
      obtain ⟨b', off', rfl, _, hcell'⟩ := hc1'.out (by omega)
      obtain ⟨z, hz⟩ : ∃ z, L[k]? = some z := ⟨L[k]'(by omega), List.getElem?_eq_getElem _⟩
      have e1 : wr.cell? ⟨b, off + k, none⟩ = some (.int .i64 z) := by obtain ⟨m, rfl⟩ := hm.out; exact hcell k z hz
      have e2 : wr.cell? ⟨b', off' + k, none⟩ = some (.int .i64 z) := by obtain ⟨m, rfl⟩ := hm.out; exact hcell' k z hz
      clear hcell hcell' hz
      have next : ∀ q, Hid (∃ m, wr.drewN q = w.drewN m) := fun q => by obtain ⟨m, rfl⟩ := hm.out; exact ⟨m + q, World.drewN_drewN _ _ _⟩
      clear hm
      go_wp2_with fail
      go_region
      go_wp2
      go_roundw
      case rel => exact ⟨k + 1, by omega, by go_num, next 1⟩
      case measure => simp [intOf]; omega
    · obtain rfl : k = L.length := by omega
      obtain ⟨m, rfl⟩ := hm.out
      go_wp2
      go_ret
      exact ⟨rfl, _, rfl⟩

set_option maxHeartbeats 800000 in
theorem mark_any {lo hi : Nat} {v : Value} {L : List Int} {w : World} {k0 : Int} (h : Own w lo hi v L) (hn : L.length ≤ 1048576) (hk1 : 0 ≤ k0) (hk0 : k0 ≤ 16777216) :
    Calls Try.prog 40 #[v, .int .i64 k0] w fun e w' => e = .returned (.int .i64 (k0 + (L.length : Int))) ∧ Own w' lo hi v (mk k0 L.length) ∧ Turned lo hi w w' := by
  obtain ⟨n, hnn⟩ : ∃ n, n = L.length := ⟨_, rfl⟩
  obtain ⟨hn9, ⟨rfl, rfl⟩ | ⟨g, cp, cs, rfl, hcp, hlo, hhi, hg, hm, hle, _⟩⟩ := h
  · clear hnn
    go_enter Try.func40, Try.ntmps40
    go_wp2
    go_loopw [1, 5] (fun q i wr => q = .int .i64 k0 ∧ i = .int .i64 0 ∧ wr = w) (fun _ _ _ => 0)
    case atStart => exact ⟨rfl, rfl, rfl⟩
    case round =>
      obtain ⟨rfl, rfl, rfl⟩ := hrel
      go_wp2
      go_ret
      exact ⟨by simp, ⟨by simp [mk], .inl ⟨rfl, rfl⟩⟩, Turned.refl _ _ _⟩
  · have start : Hid (w.ownsRow lo 2 1 (.slice (some ⟨g, 0, none⟩) cs.size cs.size) cs.size cs.toList) :=
      ⟨by simp, .inr ⟨g, cs.size, cs, rfl, hlo, hg, Nat.le_refl _, hm, by simp, List.take_of_length_le (by simp)⟩⟩
    rw [← hnn] at hn hle hcp ⊢
    have HCp : Hid (n ≤ cp) := hcp
    have HLo : Hid (lo ≤ g) := hlo
    have HHi : Hid (g < hi) := hhi
    have HM : Hid (cs.size ≤ maxLen) := hm
    obtain ⟨N, hN⟩ : ∃ N, N = cs.size := ⟨_, rfl⟩
    obtain ⟨ys0, hys0⟩ : ∃ ys, ys = cs.toList := ⟨_, rfl⟩
    rw [← hN, ← hys0] at start
    rw [← hN] at hle HM
    clear hg hnn hN hys0 hlo hhi hm hn9 hcp
    go_enter Try.func40, Try.ntmps40
    go_wp2
    go_loopw [1, 5] (fun q i wr => ∃ (k : Nat) (ys : List Value), k ≤ n ∧ q = .int .i64 (k0 + (k : Int)) ∧ i = .int .i64 k ∧ Hid (wr.ownsRow lo 2 1 (.slice (some ⟨g, 0, none⟩) N N) N ys) ∧ Hid (∀ j, j < k → ys[j]? = some (.int .i64 (k0 + (j : Int)))) ∧ Hid (Turned lo hi w wr)) (fun _ i _ => n - (intOf i).toNat)
    case atStart => exact ⟨0, ys0, by omega, by simp, rfl, start, fun j hj => by omega, Turned.refl _ _ _⟩
    case round =>
      obtain ⟨k, ys, hk, rfl, rfl, ho, hx, hb⟩ := hrel
      by_cases hlt : k < n
      · have e2 : wr.cell? ⟨g, k, none⟩ = ys[k]? := ho.out.cellAt k (by omega)
        have hxl : ys.length = N := by have := ho.out.1; simpa using this
        obtain ⟨u, hu⟩ : ∃ u, ys[k]? = some u := ⟨ys[k]'(by omega), List.getElem?_eq_getElem (by omega)⟩
        rw [hu] at e2
        have e3 : wr.frozen? ⟨g, k, none⟩ = false := ho.out.frozenAt k
        have hst := store_int (b := (k0 + (k : Int))) e2 e3
        have HO : Hid ((wr.setCell ⟨g, k, none⟩ (.int .i64 (k0 + (k : Int)))).ownsRow lo 2 1 (.slice (some ⟨g, 0, none⟩) N N) N (ys.set k (.int .i64 (k0 + (k : Int))))) := (ho.out.stored k (.int .i64 (k0 + (k : Int)))).1
        have HX : Hid (∀ j, j < k + 1 → (ys.set k (.int .i64 (k0 + (k : Int))))[j]? = some (.int .i64 (k0 + (j : Int)))) := by
          intro j hj
          by_cases hjk : j = k
          · subst hjk
            rw [List.getElem?_set_self (by omega)]
          · rw [List.getElem?_set_ne (by omega)]
            exact hx.out j (by omega)
        have HB : Hid (Turned lo hi w (wr.setCell ⟨g, k, none⟩ (.int .i64 (k0 + (k : Int))))) := hb.out.setCell HLo.out HHi.out _
        clear hu hb ho hx hxl start
        go_wp2
        go_roundw
        case rel => exact ⟨k + 1, _, by omega, by go_num, by go_num, HO, HX, HB⟩
        case measure => simp [intOf]; omega
      · obtain rfl : k = n := by omega
        clear start
        go_wp2
        go_ret
        have hl : (mk k0 k).length = k := mk_len _ _
        refine ⟨rfl, ⟨by rw [hl]; omega, .inr ?_⟩, hb.out⟩
        obtain ⟨h1, ⟨h', _⟩ | ⟨g', cap', cur, h', hB, hg, hnc, hcm, hsz, htk⟩⟩ := ho.out
        · simp at h'
        · simp only [Value.slice.injEq, Option.some.injEq, Addr.mk.injEq, and_true, true_and] at h'
          obtain ⟨rfl, rfl⟩ := h'
          refine ⟨g, cp, cur, by rw [hl], by rw [hl]; exact HCp.out, HLo.out, HHi.out, hg, by omega, by omega, fun j z hj => ?_⟩
          have hjk : j < k := by have := (List.getElem?_eq_some_iff.1 hj).1; omega
          have := hx.out j hjk
          rw [mk_get _ _ _ hjk] at hj
          injection hj with hj
          rw [← htk, List.getElem?_take, if_pos (by omega)] at this
          rw [← hj]
          simpa using this

theorem held_any {v : Value} {n : Nat} {w : World} {k0 : Int} (h : Ls w v (mk k0 n)) (hn : n ≤ 1048576) (hk1 : 0 ≤ k0) (hk0 : k0 ≤ 16777216) :
    Calls Try.prog 41 #[v, .int .i64 k0] w fun e w' => e = .returned (.int .i64 (k0 + (n : Int))) ∧ w' = w := by
  obtain ⟨ao, cap, rfl, _, _, hc⟩ := h
  have hc' : Hid (n ≠ 0 → ∃ b off, ao = some ⟨b, off, none⟩ ∧ b < w.heap.size ∧ ∀ (k : Nat) (z : Int), (mk k0 n)[k]? = some z → w.cell? ⟨b, off + k, none⟩ = some (.int .i64 z)) := by rw [mk_len] at hc; exact hc
  clear hc
  rw [mk_len]
  go_enter Try.func41, Try.ntmps41
  go_wp2
  go_loop [1, 5] (fun q i => ∃ (k : Nat), k ≤ n ∧ q = .int .i64 (k0 + (k : Int)) ∧ i = .int .i64 k) (fun _ i => n - (intOf i).toNat)
  case atStart => exact ⟨0, by omega, by simp, rfl⟩
  case round =>
    obtain ⟨k, hk, rfl, rfl⟩ := hrel
    by_cases hlt : k < n
    · obtain ⟨b, off, rfl, _, hcell⟩ := hc'.out (by omega)
      have e1 : w.cell? ⟨b, off + k, none⟩ = some (.int .i64 (k0 + (k : Int))) := hcell k _ (mk_get _ _ _ hlt)
      clear hcell
      go_wp2
      go_round
      case rel => exact ⟨k + 1, by omega, by go_num, by go_num⟩
      case measure => simp [intOf]; omega
    · obtain rfl : k = n := by omega
      go_wp2
      go_ret
      exact ⟨rfl, rfl⟩
end Go.Proofs.Ytfhcfeafohcjpaa.wh
