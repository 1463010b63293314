/- Arrays of 65 integers by value: a block that holds one, loads and stores of the whole. -/
import Derived.Test.YtfmdbgpalldjoaaSmO
import Derived.Test.YtfmdbgpalldjoaaRvP
import Derived.Test.YtfmdbgpalldjoaaInv
import Derived.Deep.WholeRow
import Derived.Deep.MidRow
import Derived.Deep.RegionHeld3
import Derived.Deep.DeepCutAuto
import Derived.Deep.RegionLaw
import Derived.Lib.Hide
namespace Go.Proofs.Ytfmdbgpalldjoaa.ru
open Go.RowKit Go.Pl Go.Ru Go.Proofs.Ytfmdbgpalldjoaa.wh

/-- integers as cells -/
def va (L : List Int) : Array Value := (L.map (Value.int .i64)).toArray
theorem va_size (L : List Int) : (va L).size = L.length := by simp [va]
theorem va_get (L : List Int) (j : Nat) {z : Int} (h : L[j]? = some z) : (va L)[j]? = some (.int .i64 z) := by simp [va, h]
theorem va_set (L : List Int) (j : Nat) (z : Int) : (va L).setIfInBounds j (.int .i64 z) = va (L.set j z) := by
  unfold va
  rw [List.setIfInBounds_toArray, List.map_set]
theorem va_one (L : List Int) : (va L).all (·.oneCell') = true := by
  unfold va
  refine all_oneCell_toArray fun v hv => ?_
  obtain ⟨z, _, rfl⟩ := List.mem_map.1 hv
  rfl
/-- block g is such an array -/
def Ar (w : World) (g : Nat) (L : List Int) : Prop := w.heap[g]? = some (.cells (va L) 51 (0, 0))
theorem Ar.lt {w : World} {g : Nat} {L : List Int} (h : Ar w g L) : g < w.heap.size := (Array.getElem?_eq_some_iff.1 h).1
theorem Ar.cell {w : World} {g : Nat} {L : List Int} (h : Ar w g L) {j : Nat} {z : Int} (hj : L[j]? = some z) : w.cell? ⟨g, j, none⟩ = some (.int .i64 z) := by
  rw [cell_of_row _ _ _ _ _ _ h, va_get _ _ hj]
theorem Ar.free {w : World} {g : Nat} {L : List Int} (h : Ar w g L) (j : Nat) : w.frozen? ⟨g, j, none⟩ = false := frozen_of_row _ _ _ _ _ h
theorem Ar.set {w : World} {g : Nat} {L : List Int} (h : Ar w g L) (j : Nat) (z : Int) : Ar (w.setCell ⟨g, j, none⟩ (.int .i64 z)) g (L.set j z) := by
  unfold Ar
  rw [heap_setCell_same w g j _ _ _ h, va_set]
theorem Ar.other {w : World} {g : Nat} {L : List Int} (h : Ar w g L) {g' j : Nat} (hg : g ≠ g') (u : Value) : Ar (w.setCell ⟨g', j, none⟩ u) g L := by
  unfold Ar
  rw [Below.heap_setCell _ _ _ _ hg]
  exact h
theorem Ar.below {w w' : World} {g B : Nat} {L : List Int} (h : Ar w g L) (hb : Below B w w') (hB : g < B) : Ar w' g L := by
  unfold Ar
  rw [hb.block g hB]
  exact h
theorem Ar.kept {w w' : World} {g : Nat} {L : List Int} (h : Ar w g L) (hb : Below w.heap.size w w') : Ar w' g L := h.below hb h.lt
theorem Ar.new (w : World) (L : List Int) : Ar (w.alloc (.cells (va L) 51)) w.heap.size L := heap_alloc_new w _
theorem Ar.row {w : World} {g : Nat} {L L' : List Int} (h : Ar w g L) : Ar (w.setRow g (va L')) g L' := by
  unfold Ar
  rw [setRow_heap _ _ _ _ _ _ h]
theorem Ar.rowo {w : World} {g g' : Nat} {L : List Int} (h : Ar w g L) (hg : g ≠ g') (cs : Array Value) : Ar (w.setRow g' cs) g L := by
  unfold Ar
  rw [setRow_other _ _ _ _ hg]
  exact h
theorem info_r : (Try.prog.info? 51).map (·.size) = some 65 := by kernel_rfl

theorem below_row {B g : Nat} {w0 w : World} (hb : Below B w0 w) (hg : B ≤ g) (cs : Array Value) : Below B w0 (w.setRow g cs) :=
  ⟨by rw [setRow_os]; exact hb.os, by rw [setRow_tape]; exact hb.tape, by rw [setRow_output]; exact hb.output, by rw [setRow_size]; exact hb.size, fun k hk => by rw [setRow_other _ _ _ _ (by omega)]; exact hb.block k hk⟩

theorem wp_load_ar {o : Oper} {a : Act} {w : World} {K : Act → World → Prop} {Q : Exit → Act → World → Prop} (x : Operand) (ho : o.op = .load 51 x)
    (g : Nat) (hx : a.eval x = .pointer (some ⟨g, 0, none⟩)) {L : List Int} (h : Ar w g L) (hl : L.length = 65) (k : K (a.put o.dst (.agg (va L))) w) : o.wp Try.prog a w K Q :=
  wp_load_row 51 x ho g hx _ _ (0, 0) _ h Try.underlying51 rfl (by rw [va_size, hl]; exact info_r) k
theorem wpl_load_ar {ops : Array Oper} {rest : List Oper} {o : Oper} {a : Act} {w : World} {Q : Exit → Act → World → Prop} (hgd : o.guard = none) (x : Operand) (ho : o.op = .load 51 x)
    (g : Nat) (hx : a.eval x = .pointer (some ⟨g, 0, none⟩)) {L : List Int} (h : Ar w g L) (hl : L.length = 65) (k : wpList Try.prog ops Q rest (a.put o.dst (.agg (va L))) w) : wpList Try.prog ops Q (o :: rest) a w :=
  wpList_plain hgd fun _ hK => wp_load_ar x ho g hx h hl (hK _ _ k)
theorem wp_store_ar {o : Oper} {a : Act} {w : World} {K : Act → World → Prop} {Q : Exit → Act → World → Prop} (x y : Operand) (ho : o.op = .store 51 x y)
    (g : Nat) (hx : a.eval x = .pointer (some ⟨g, 0, none⟩)) {L L' : List Int} (hy : a.eval y = .agg (va L')) (h : Ar w g L) (hl : L.length = 65) (hl' : L'.length = 65) (k : K (a.put o.dst undef) (w.setRow g (va L'))) : o.wp Try.prog a w K Q := by
  unfold Oper.wp execOp
  simp only [ho, hx, hy, Instr.storeAt, Instr.sureAddr, Sem.run_bind, Sem.run_pure, Result.andThen_ok, run_storeVar_row w g _ _ _ (va L') h (by rw [va_size, hl']; exact info_r) (by rw [va_size, va_size, hl, hl']) (va_one _)]
  exact k
theorem wpl_store_ar {ops : Array Oper} {rest : List Oper} {o : Oper} {a : Act} {w : World} {Q : Exit → Act → World → Prop} (hgd : o.guard = none) (x y : Operand) (ho : o.op = .store 51 x y)
    (g : Nat) (hx : a.eval x = .pointer (some ⟨g, 0, none⟩)) {L L' : List Int} (hy : a.eval y = .agg (va L')) (h : Ar w g L) (hl : L.length = 65) (hl' : L'.length = 65) (k : wpList Try.prog ops Q rest (a.put o.dst undef) (w.setRow g (va L'))) : wpList Try.prog ops Q (o :: rest) a w :=
  wpList_plain hgd fun _ hK => wp_store_ar x y ho g hx hy h hl hl' (hK _ _ k)
end Go.Proofs.Ytfmdbgpalldjoaa.ru
