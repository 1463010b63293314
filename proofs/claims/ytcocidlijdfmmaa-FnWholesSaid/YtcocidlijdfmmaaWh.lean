/- Lists of 64-bit integers and wholes: what they hold; the helpers of the exact laws over them: copies, comparisons, marks. -/
import Derived.Test.YtcocidlijdfmmaaRows
import Derived.WalkKit
import Derived.WalkLawsBesides
import Derived.Deep.Draws
import Derived.Deep.RegionWith
import Derived.Deep.QuietTactic
import Derived.BigQuiet
namespace Go.Proofs.Ytcocidlijdfmmaa.wh
open Go.RowKit

/-- the slice v holds the integers of L, in blocks below hi -/
def Rd (w : World) (hi : Nat) (v : Value) (L : List Int) : Prop :=
  ∃ ao cap, v = .slice ao L.length cap ∧ L.length ≤ 9223372036854775807 ∧ L.length ≤ cap ∧ (L.length ≠ 0 → ∃ b off, ao = some ⟨b, off, none⟩ ∧ b < hi ∧ ∀ (k : Nat) (z : Int), L[k]? = some z → w.cell? ⟨b, off + k, none⟩ = some (.int .i64 z))
/-- the slice v holds the integers of L -/
def Ls (w : World) (v : Value) (L : List Int) : Prop := Rd w w.heap.size v L

theorem Rd.below {w w' : World} {hi B : Nat} {v : Value} {L : List Int} (h : Rd w hi v L) (hb : Below B w w') (hB : hi ≤ B) : Rd w' hi v L := by
  obtain ⟨ao, cap, rfl, hn, hcp, hc⟩ := h
  refine ⟨ao, cap, rfl, hn, hcp, fun h0 => ?_⟩
  obtain ⟨b, off, rfl, hlt, hcell⟩ := hc h0
  exact ⟨b, off, rfl, hlt, fun k z hk => (hb.cell (p := ⟨b, off + k, none⟩) (Nat.lt_of_lt_of_le hlt hB)).trans (hcell k z hk)⟩
theorem Rd.ls {w : World} {hi : Nat} {v : Value} {L : List Int} (h : Rd w hi v L) (hh : hi ≤ w.heap.size) : Ls w v L := by
  obtain ⟨ao, cap, rfl, hn, hcp, hc⟩ := h
  refine ⟨ao, cap, rfl, hn, hcp, fun h0 => ?_⟩
  obtain ⟨b, off, rfl, hlt, hcell⟩ := hc h0
  exact ⟨b, off, rfl, Nat.lt_of_lt_of_le hlt hh, hcell⟩
theorem Ls.below {w w' : World} {v : Value} {L : List Int} (h : Ls w v L) (hb : Below w.heap.size w w') : Ls w' v L :=
  Rd.ls (Rd.below h hb (Nat.le_refl _)) hb.size

/-- the slice v holds the integers of L, in a block of its own with a number from lo to below hi -/
def Own (w : World) (lo hi : Nat) (v : Value) (L : List Int) : Prop :=
  L.length ≤ 9223372036854775807 ∧ ((v = .slice none 0 0 ∧ L = []) ∨ ∃ (g cap : Nat) (cs : Array Value), v = .slice (some ⟨g, 0, none⟩) L.length cap ∧ L.length ≤ cap ∧ lo ≤ g ∧ g < hi ∧ w.heap[g]? = some (.cells cs 2 (0, 0)) ∧ cs.size ≤ maxLen ∧ L.length ≤ cs.size ∧ ∀ (k : Nat) (z : Int), L[k]? = some z → cs[k]? = some (Value.int .i64 z))

theorem Own.rd {w : World} {lo hi : Nat} {v : Value} {L : List Int} (h : Own w lo hi v L) : Rd w hi v L := by
  obtain ⟨hn, ⟨rfl, rfl⟩ | ⟨g, cap, cs, rfl, hcp, h1, h2, h3, _, h4, h5⟩⟩ := h
  · exact ⟨none, 0, rfl, by simp, by simp, fun h => absurd rfl h⟩
  · refine ⟨_, _, rfl, hn, hcp, fun _ => ⟨g, 0, rfl, h2, fun k z hk => ?_⟩⟩
    rw [Nat.zero_add, cell_of_row w g k cs _ _ h3]
    exact h5 k z hk
theorem Own.ls {w : World} {lo hi : Nat} {v : Value} {L : List Int} (h : Own w lo hi v L) (hh : hi ≤ w.heap.size) : Ls w v L := h.rd.ls hh

theorem Own.stay {w w' : World} {lo hi : Nat} {v : Value} {L : List Int} (h : Own w lo hi v L) (hs : ∀ k, lo ≤ k → k < hi → k < w.heap.size → w'.heap[k]? = w.heap[k]?) : Own w' lo hi v L := by
  obtain ⟨hn, h | ⟨g, cap, cs, rfl, hcp, h1, h2, h3, h4⟩⟩ := h
  · exact ⟨hn, .inl h⟩
  · exact ⟨hn, .inr ⟨g, cap, cs, rfl, hcp, h1, h2, by rw [hs g h1 h2 (Array.getElem?_eq_some_iff.1 h3).1]; exact h3, h4⟩⟩

theorem Own.below {w w' : World} {lo hi B : Nat} {v : Value} {L : List Int} (h : Own w lo hi v L) (hb : Below B w w') (hB : hi ≤ B) : Own w' lo hi v L :=
  h.stay fun k _ h2 _ => hb.block k (by omega)
theorem Own.kept {w w' : World} {lo hi : Nat} {v : Value} {L : List Int} (h : Own w lo hi v L) (hb : Below w.heap.size w w') : Own w' lo hi v L :=
  h.stay fun k _ _ h3 => hb.block k h3

theorem Own.wide {w : World} {lo lo' hi hi' : Nat} {v : Value} {L : List Int} (h : Own w lo hi v L) (h1 : lo' ≤ lo) (h2 : hi ≤ hi') : Own w lo' hi' v L := by
  obtain ⟨hn, h | ⟨g, cap, cs, rfl, hcp, a, b, h3, h4⟩⟩ := h
  · exact ⟨hn, .inl h⟩
  · exact ⟨hn, .inr ⟨g, cap, cs, rfl, hcp, by omega, by omega, h3, h4⟩⟩

theorem Rd.shape {w : World} {hi : Nat} {v : Value} {L : List Int} (h : Rd w hi v L) : ∃ ao cap, v = .slice ao L.length cap := by
  obtain ⟨ao, cap, h, _⟩ := h
  exact ⟨ao, cap, h⟩
theorem Own.shape {w : World} {lo hi : Nat} {v : Value} {L : List Int} (h : Own w lo hi v L) : ∃ ao cap, v = .slice ao L.length cap := h.rd.shape
/-- block b is a box of one cell, which holds v -/
def Bx (w : World) (b : Nat) (v : Value) : Prop := ∃ t, w.heap[b]? = some (.cells #[v] t (0, 0))
theorem Bx.cell {w : World} {b : Nat} {v : Value} (h : Bx w b v) : w.cell? ⟨b, 0, none⟩ = some v := by
  obtain ⟨t, h⟩ := h
  rw [cell_of_row _ _ _ _ _ _ h]; rfl
theorem Bx.free {w : World} {b : Nat} {v : Value} (h : Bx w b v) : w.frozen? ⟨b, 0, none⟩ = false := by
  obtain ⟨t, h⟩ := h
  exact frozen_of_row _ _ _ _ _ h
theorem Bx.lt {w : World} {b : Nat} {v : Value} (h : Bx w b v) : b < w.heap.size := by
  obtain ⟨t, h⟩ := h
  exact (Array.getElem?_eq_some_iff.1 h).1
theorem Bx.new (w : World) (u : Value) (t : TypeId) : Bx (w.alloc (.cells #[u] t)) w.heap.size u := ⟨t, heap_alloc_new w _⟩
theorem Bx.below {w w' : World} {b B : Nat} {v : Value} (h : Bx w b v) (hb : Below B w w') (hB : b < B) : Bx w' b v := by
  obtain ⟨t, h⟩ := h
  exact ⟨t, by rw [hb.block b hB]; exact h⟩
theorem Bx.kept {w w' : World} {b : Nat} {v : Value} (h : Bx w b v) (hb : Below w.heap.size w w') : Bx w' b v := h.below hb h.lt
theorem Bx.alloc {w : World} {b : Nat} {v : Value} (h : Bx w b v) (o : Obj) : Bx (w.alloc o) b v := h.kept ((Below.refl _ _).alloc (Nat.le_refl _) _)
theorem Bx.new2 (w : World) (u : Value) (t : TypeId) (o : Obj) : Bx ((w.alloc o).alloc (.cells #[u] t)) (w.heap.size + 1) u := by
  have := Bx.new (w.alloc o) u t
  simpa using this
theorem Bx.new3 (w : World) (u : Value) (t : TypeId) (o o2 : Obj) : Bx (((w.alloc o).alloc o2).alloc (.cells #[u] t)) (w.heap.size + 1 + 1) u := by
  have := Bx.new ((w.alloc o).alloc o2) u t
  simpa using this
theorem Bx.set {w : World} {b : Nat} {v : Value} (h : Bx w b v) (u : Value) : Bx (w.setCell ⟨b, 0, none⟩ u) b u := by
  obtain ⟨t, h⟩ := h
  exact ⟨t, by rw [heap_setCell_same w b 0 #[v] t u h]; rfl⟩
theorem Bx.other {w : World} {b : Nat} {v : Value} (h : Bx w b v) {g j : Nat} (hg : b ≠ g) (u : Value) : Bx (w.setCell ⟨g, j, none⟩ u) b v := by
  obtain ⟨t, h⟩ := h
  exact ⟨t, by rw [Below.heap_setCell _ _ _ _ hg]; exact h⟩
theorem own_lt {w : World} {base e size g n cap m : Nat} {xs : List Value} (h : w.ownsRow base e size (.slice (some ⟨g, 0, none⟩) n cap) m xs) : g < w.heap.size := by
  rcases h.2 with ⟨h', _⟩ | ⟨g', cap', cur, h', _, hg, _⟩
  · simp at h'
  · simp only [Value.slice.injEq, Option.some.injEq, Addr.mk.injEq, and_true] at h'
    obtain ⟨rfl, _⟩ := h'
    exact (Array.getElem?_eq_some_iff.1 hg).1

theorem Own.of_row {w : World} {lo hi : Nat} {v : Value} {L : List Int} (h : w.ownsRow lo 2 1 v L.length (L.map (Value.int .i64))) (hn : L.length ≤ 9223372036854775807) (hh : w.heap.size ≤ hi) : Own w lo hi v L := by
  refine ⟨hn, ?_⟩
  rcases h.2 with ⟨rfl, h0⟩ | ⟨g, cap, cur, rfl, hB, hg, hc, hm, hs, hr⟩
  · exact .inl ⟨rfl, List.eq_nil_of_length_eq_zero h0⟩
  · refine .inr ⟨g, cap, cur, rfl, by omega, hB, Nat.lt_of_lt_of_le (Array.getElem?_eq_some_iff.1 hg).1 hh, hg, by omega, by omega, fun k z hk => ?_⟩
    have hkl : k < L.length := (List.getElem?_eq_some_iff.1 hk).1
    have h1 : (L.map (Value.int .i64))[k]? = some (.int .i64 z) := by rw [List.getElem?_map, hk]; rfl
    rw [← hr, List.getElem?_take, if_pos (by omega)] at h1
    simpa using h1

/-- blocks from lo to below hi may have turned, and nothing else that was there has -/
structure Turned (lo hi : Nat) (w w' : World) : Prop where
  os : w'.os = w.os
  tape : w'.tape = w.tape
  output : w'.output = w.output
  size : w.heap.size ≤ w'.heap.size
  block : ∀ k, k < w.heap.size → (k < lo ∨ hi ≤ k) → w'.heap[k]? = w.heap[k]?
theorem Turned.refl (lo hi : Nat) (w : World) : Turned lo hi w w := ⟨rfl, rfl, rfl, Nat.le_refl _, fun _ _ _ => rfl⟩
theorem Turned.below {lo hi B : Nat} {w w' : World} (h : Turned lo hi w w') (hB : B ≤ lo) (hw : B ≤ w.heap.size) : Below B w w' := ⟨h.os, h.tape, h.output, h.size, fun k hk => h.block k (by omega) (by omega)⟩
theorem Turned.setCell {lo hi : Nat} {w w' : World} (h : Turned lo hi w w') {g j : Nat} (h1 : lo ≤ g) (h2 : g < hi) (u : Value) : Turned lo hi w (w'.setCell ⟨g, j, none⟩ u) :=
  ⟨h.os, h.tape, h.output, by have := h.size; simpa [World.setCell] using this, fun k hk ho => by rw [Below.heap_setCell _ _ _ _ (by show k ≠ g; omega)]; exact h.block k hk ho⟩
theorem Turned.pre {lo hi : Nat} {w w0 w' : World} (hb : Below w.heap.size w w0) (h : Turned lo hi w0 w') : Turned lo hi w w' :=
  ⟨h.os.trans hb.os, h.tape.trans hb.tape, h.output.trans hb.output, Nat.le_trans hb.size h.size, fun k hk ho => (h.block k (Nat.lt_of_lt_of_le hk hb.size) ho).trans (hb.block k hk)⟩
theorem Rd.turned {w w' : World} {hi lo' hi' : Nat} {v : Value} {L : List Int} (h : Rd w hi v L) (ht : Turned lo' hi' w w') (ho : hi ≤ lo') (hw : hi ≤ w.heap.size) : Rd w' hi v L :=
  h.below (ht.below ho hw) (Nat.le_refl _)
theorem Own.turned {w w' : World} {lo hi lo' hi' : Nat} {v : Value} {L : List Int} (h : Own w lo hi v L) (ht : Turned lo' hi' w w') (ho : hi ≤ lo' ∨ hi' ≤ lo) : Own w' lo hi v L :=
  h.stay fun k h1 h2 h3 => ht.block k h3 (by omega)

theorem Bx.turned {w w' : World} {b lo hi : Nat} {v : Value} (h : Bx w b v) (ht : Turned lo hi w w') (ho : b < lo ∨ hi ≤ b) : Bx w' b v := by
  have hl := h.lt
  obtain ⟨t, h⟩ := h
  exact ⟨t, by rw [ht.block b hl ho]; exact h⟩

theorem info_i : (Try.prog.info? 2).map (fun i => (i.zero, i.size, i.bytes)) = some (some (.int .i64 0), 1, 8) := by kernel_rfl

theorem store_int {w : World} {a : Addr} {b : Int} {u : Value} (h : w.cell? a = some u) (hf : w.frozen? a = false) : (store a (.int .i64 b)).run Try.prog w = .ok () (w.setCell a (.int .i64 b)) := by
  rw [run_store _ _ _ _ _ rfl]
  simp [h, hf]

/-- the marks -/
def mk (k : Int) (n : Nat) : List Int := (List.range n).map fun (j : Nat) => k + (j : Int)
theorem mk_len (k : Int) (n : Nat) : (mk k n).length = n := by simp [mk]
theorem mk_get (k : Int) (n j : Nat) (h : j < n) : (mk k n)[j]? = some (k + (j : Int)) := by simp [mk, h]
theorem mk_nil (k : Int) : mk k 0 = [] := rfl

end Go.Proofs.Ytcocidlijdfmmaa.wh
