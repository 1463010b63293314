/- The library's parts of a text between newlines. -/
import Derived.Test.YtdeoemeibbkdoaaDoorLnC
import Derived.Test.YtdeoemeibbkdoaaDoorSShelf
import Derived.Shelf.Strings.SplitShaped
import Derived.Shelf.Strings.Count
namespace Go.Proofs.YtdeoemeibbkdoaaDoor.lns
open Go.RowKit Go.Lib Go.Ln Go.Shelf

/-- some number stands in the library's variable -/
def MaxOk (w : World) : Prop := ∃ m, w.cell? ⟨0, 0, none⟩ = some (.int .i64 m)
theorem max_below {w w' : World} (h : MaxOk w) (hb : Below w.heap.size w w') : MaxOk w' := by
  obtain ⟨m, hm⟩ := h
  refine ⟨m, (hb.cell ?_).trans hm⟩
  show 0 < w.heap.size
  rcases Nat.lt_or_ge 0 w.heap.size with h | h
  · exact h
  · simp [World.cell?, Array.getElem?_eq_none h] at hm
def nl : ByteArray := ⟨#[10]⟩
theorem count_nl (s : ByteArray) : Lib.countB s nl = s.data.toList.count 10 := count_one 10 s.data.toList
theorem split_nl (s : ByteArray) : (Lib.splitB nl 0 (Lib.countB s nl) s).map (·.data.toList) = cutA [] s.data.toList := by
  rw [splitB_data, count_nl, cut_split]; rfl
theorem split_len (s : ByteArray) : (Lib.splitB nl 0 (Lib.countB s nl) s).length = Lib.countB s nl + 1 := splitB_all nl (by decide) 0 _ s rfl

theorem split_any (s : ByteArray) (hs : s.size ≤ 1048576) (w : World) (hm : MaxOk w) :
    Calls Tryd.prog 64 #[.string s, .string ⟨#[10]⟩] w fun e w' => ∃ (ps : List ByteArray) (g : Nat), e = .returned (.slice (some ⟨g, 0, none⟩) ps.length ps.length) ∧ ps.map (·.data.toList) = cutA [] s.data.toList ∧ g < w'.heap.size ∧ (∀ k p, ps[k]? = some p → w'.cell? ⟨g, k, none⟩ = some (.string p)) ∧ Below w.heap.size w w' := by
  obtain ⟨m, hm⟩ := hm
  have h : Calls Tryd.prog 64 #[.string s, .string nl] w fun e w' =>
      e = .returned (.slice (some ⟨w.heap.size, 0, none⟩) (Lib.countB s nl + 1) (Lib.countB s nl + 1)) ∧ w' = w.alloc (.cells ((Lib.splitB nl 0 (Lib.countB s nl) s).map Value.string).toArray 9) :=
    Any.strings_Split (L := { Tryd.lays146 with }) Tryd.lays146.i9 s nl m w (by omega) hm (by decide)
  refine h.mono ?_
  rintro e w' ⟨rfl, rfl⟩
  refine ⟨Lib.splitB nl 0 (Lib.countB s nl) s, w.heap.size, by rw [split_len], split_nl s, by simp, fun k p hk => ?_, (Below.refl _ _).alloc (Nat.le_refl _) _⟩
  have hg := heap_alloc_new w (.cells ((Lib.splitB nl 0 (Lib.countB s nl) s).map Value.string).toArray 9)
  show (match (w.alloc (.cells ((Lib.splitB nl 0 (Lib.countB s nl) s).map Value.string).toArray 9)).heap[w.heap.size]? with | some (.cells c _ _) => c[k]? | _ => none) = _
  rw [hg]
  simp [hk]
end Go.Proofs.YtdeoemeibbkdoaaDoor.lns
