/- Signs of numbers of any size, of small ones: the model's. -/
import Derived.Test.YtdammgflmkamaabScI
import Derived.Deep.DeepCutAuto
import Derived.OwnWalk
namespace Go.Proofs.Ytdammgflmkamaab.wh
open Go.RowKit Go.Pl

theorem and_ck : ∀ n : Nat, n < 1001 → bits .and .u64 (n : Int) 4294967295 = (n : Int) := by decide +kernel
theorem info_u : (Try.prog.info? 85).map (fun i => (i.zero, i.size, i.bytes)) = some (some (.int .u64 0), 1, 8) := by kernel_rfl

/-- how a number is held: its sign, and how many digits -/
def Bg (v : Value) (x : Int) : Prop := ∃ ao cap, v = .agg #[.bool (decide (x < 0)), .slice ao (if x = 0 then 0 else 1) cap]

set_option maxRecDepth 100000 in
set_option maxHeartbeats 1600000 in
theorem num_any (x : Int) (hx : -1000 ≤ x ∧ x ≤ 1000) (w : World) :
    Calls Try.prog 45 #[.int .i64 x] w fun e w' => ∃ v, e = .returned v ∧ Bg v x ∧ Below w.heap.size w w' := by
  obtain ⟨i0, hi, hz0, hz1, hz2⟩ := info_parts info_u
  obtain ⟨n, hn⟩ : ∃ n : Nat, (n : Int) = max x (-x) := ⟨(max x (-x)).toNat, by omega⟩
  have hn1 : n ≤ 1000 := by omega
  have hb := and_ck n (by omega)
  obtain ⟨b, hbb⟩ : ∃ b, b = decide (x < 0) := ⟨_, rfl⟩
  have hw1 : IntKind.u64.wrap (n : Int) = (n : Int) := IntWalk.u64_in _ (by omega)
  have hw2 : IntKind.i64.wrap (-x) = -x := IntWalk.i64_in _ (by omega)
  have hw3 : wrap64 (-x) = -x := IntWalk.wrap64_in _ (by omega)
  have HX : Hid ((x = 0 ↔ n = 0) ∧ b = decide (x < 0)) := by
    refine ⟨?_, hbb⟩
    omega
  have HF : Hid (∀ (l : Nat) ao cap, (l = 0 ∧ n = 0 ∨ l = 1 ∧ n ≠ 0) → Bg (.agg #[.bool b, .slice ao l cap]) x) := fun l ao cap h => by
    refine ⟨ao, cap, ?_⟩
    rw [← hbb]
    rcases h with ⟨rfl, h⟩ | ⟨rfl, h⟩
    · rw [if_pos (HX.out.1.2 h)]
    · rw [if_neg fun h' => h (HX.out.1.1 h')]
  have cases2 : (x < 0 ∧ -x = (n : Int) ∧ b = true) ∨ (¬ x < 0 ∧ ¬ x < -x ∧ x = (n : Int) ∧ b = false) := by
    by_cases h : x < 0
    · exact .inl ⟨h, by omega, by rw [hbb]; exact decide_eq_true h⟩
    · exact .inr ⟨h, by omega, by omega, by rw [hbb]; exact decide_eq_false h⟩
  clear hbb hn
  rcases cases2 with ⟨c1, c2, rfl⟩ | ⟨c1, c3, c2, rfl⟩
  · skip
    go_enter Try.func45, Try.ntmps45
    go_wp2_with fail
    go_loopw [4] (fun t wr => ∃ (l m : Nat) (ao : Option Addr) (cap : Nat), t = .int .u64 m ∧ ((l = 0 ∧ m = n ∧ ao = none ∧ cap = 0) ∨ (l = 1 ∧ m = 0 ∧ n ≠ 0)) ∧ Hid (wr.heap[w.heap.size]? = some (.cells #[.bool false, .slice none 0 0] 73 (0, 0))) ∧ Hid (wr.heap[w.heap.size + 1]? = some (.cells #[.bool true, .slice ao l cap] 73 (0, 0))) ∧ Hid (Below w.heap.size w wr)) (fun t _ => (intOf t).toNat)
    case atStart =>
      refine ⟨0, n, none, 0, rfl, .inl ⟨rfl, rfl, rfl, rfl⟩, (Below.heap_alloc _ _ _ (by simp)).trans (heap_alloc_new w _), ?_, new2 _ _ _⟩
      have := heap_alloc_new (w.alloc (.cells #[.bool false, .slice none 0 0] 73)) (.cells #[.bool true, .slice none 0 0] 73 (0, 0))
      rw [World.size_alloc] at this
      exact this
    case round =>
      obtain ⟨l, m, ao, cap, rfl, hlm, h0, h1, hb0⟩ := hrel
      by_cases hm : m = 0
      · have HL : Hid (l = 0 ∧ n = 0 ∨ l = 1 ∧ n ≠ 0) := by rcases hlm with h | h <;> (show _ ∨ _; omega)
        have HA : Hid (Bg (.agg #[.bool true, .slice ao l cap]) x) := HF.out l ao cap HL.out
        have c10 := cell_of_row _ (w.heap.size + 1) 0 _ _ _ h1.out
        have c11 := cell_of_row _ (w.heap.size + 1) 1 _ _ _ h1.out
        have c00 := cell_of_row _ w.heap.size 0 _ _ _ h0.out
        have c01 := cell_of_row _ w.heap.size 1 _ _ _ h0.out
        have f0 := frozen_of_row _ w.heap.size 0 _ _ h0.out
        have f1 := frozen_of_row _ w.heap.size 1 _ _ h0.out
        simp only [List.getElem?_toArray, List.getElem?_cons_zero, List.getElem?_cons_succ] at c10 c11 c00 c01
        have k1 := heap_setCell_same wr w.heap.size 0 _ _ (.bool true) h0.out
        have k2 := heap_setCell_same _ w.heap.size 1 _ _ (.slice ao l cap) k1
        have K2 : Hid (((wr.setCell ⟨w.heap.size, 0, none⟩ (.bool true)).setCell ⟨w.heap.size, 1, none⟩ (.slice ao l cap)).heap[w.heap.size]? = some (.cells #[.bool true, .slice ao l cap] 73 (0, 0))) := k2
        have BF : Hid (Below w.heap.size w ((wr.setCell ⟨w.heap.size, 0, none⟩ (.bool true)).setCell ⟨w.heap.size, 1, none⟩ (.slice ao l cap))) := (hb0.out.setCell (Nat.le_refl _) _).setCell (Nat.le_refl _) _
        have y0 := cell_of_row _ w.heap.size 0 _ _ _ K2.out
        have y1 := cell_of_row _ w.heap.size 1 _ _ _ K2.out
        simp only [List.getElem?_toArray, List.getElem?_cons_zero, List.getElem?_cons_succ] at y0 y1
        have d01 := cell_of_row _ w.heap.size 1 _ _ _ k1
        have g01 := frozen_of_row _ w.heap.size 1 _ _ k1
        simp only [List.setIfInBounds_toArray, List.set_cons_zero, List.getElem?_toArray, List.getElem?_cons_zero, List.getElem?_cons_succ] at d01
        subst hm
        clear hlm k1 k2
        go_wp2_with fail
        exact bodyPost_ret (v := .agg #[.bool true, .slice ao l cap]) (by simp [results, Try.results45, y0, y1, go_sem]) rfl ⟨_, rfl, HA.out, BF.out⟩
      · have hmn : l = 0 ∧ m = n ∧ ao = none ∧ cap = 0 := hlm.resolve_right (fun h => hm h.2.1)
        obtain ⟨rfl, rfl, rfl, rfl⟩ := hmn
        have c11 := cell_of_row _ (w.heap.size + 1) 1 _ _ _ h1.out
        simp only [List.getElem?_toArray, List.getElem?_cons_zero, List.getElem?_cons_succ] at c11
        have hm0 : (0 : Int) < (m : Int) := by omega
        have hdv : (m : Int) / 4294967296 = 0 := by omega
        clear hlm
        have HS : Hid (w.heap.size + 1 < wr.heap.size) := (Array.getElem?_eq_some_iff.1 h1.out).1
        obtain ⟨nv, hnv⟩ : ∃ v, v = Value.slice none 0 0 := ⟨_, rfl⟩
        have HNV : Hid (nv = Value.slice none 0 0) := hnv
        have HOW : Hid ((wr.alloc (.cells #[.int .u64 m] 85)).ownsRow wr.heap.size 85 1 nv 0 []) := by rw [hnv]; exact ⟨rfl, .inl ⟨rfl, rfl⟩⟩
        have HGB : Hid (∀ w3 : World, (wr.alloc (.cells #[.int .u64 m] 85)).grownBy w3 nv.ownBlock → Below wr.heap.size wr w3) := fun w3 hg => (new1 wr _).grown hg (by simp) (by rw [hnv]; intro j hj; cases hj)
        rw [← hnv] at c11
        clear hnv
        go_wp2_with (first | (at_builtin; refine wpList_append_own _ rfl (.tmp 16) (.tmp 19) 71 rfl wr.heap.size 85 i0 (.int .u64 0) 1 8 Try.underlying71 hi hz0 hz1 hz2 rfl (by decide) nv 0 [] rfl HOW.out ⟨wr.heap.size, 0, none⟩ 1 1 [.int .u64 _] rfl rfl (cell_one_new wr _ _) (by intro u hu; rw [List.mem_singleton] at hu; subst hu; rfl) (by unfold maxLen; omega) (by omega) (by simp) ?_; intro v' w3 hown' hgrow _; obtain ⟨g', cap', rfl⟩ := own_shape hown' (by omega); have B3 : Hid (Below wr.heap.size wr w3) := HGB.out w3 hgrow; have h31 : Hid (w3.heap[w.heap.size + 1]? = some (.cells #[.bool true, .slice none 0 0] 73 (0, 0))) := (B3.out.block _ HS.out).trans h1.out; have h30 : Hid (w3.heap[w.heap.size]? = some (.cells #[.bool false, .slice none 0 0] 73 (0, 0))) := (B3.out.block _ (by have := HS.out; omega)).trans h0.out; have c31 := cell_of_row _ (w.heap.size + 1) 1 _ _ _ h31.out; have f31 := frozen_of_row _ (w.heap.size + 1) 1 _ _ h31.out; simp only [List.getElem?_toArray, List.getElem?_cons_zero, List.getElem?_cons_succ] at c31; clear hown' hgrow))
        go_roundw
        case rel =>
          refine ⟨1, 0, some ⟨g', 0, none⟩, cap', by first | rfl | (rw [hdv]; rfl), .inr ⟨rfl, rfl, hm⟩, ?_, ?_, ?_⟩
          · show _ = _
            rw [Below.heap_setCell _ _ _ _ (show w.heap.size ≠ w.heap.size + 1 by omega)]
            exact h30.out
          · exact heap_setCell_same w3 (w.heap.size + 1) 1 _ _ (.slice (some ⟨g', 0, none⟩) 1 cap') h31.out
          · exact (hb0.out.trans (B3.out.mono hb0.out.size)).setCell (by show _ ≤ _; simp) _
        case measure => simp [intOf]; omega
  · skip
    go_enter Try.func45, Try.ntmps45
    go_wp2_with fail
    go_loopw [4] (fun t wr => ∃ (l m : Nat) (ao : Option Addr) (cap : Nat), t = .int .u64 m ∧ ((l = 0 ∧ m = n ∧ ao = none ∧ cap = 0) ∨ (l = 1 ∧ m = 0 ∧ n ≠ 0)) ∧ Hid (wr.heap[w.heap.size]? = some (.cells #[.bool false, .slice none 0 0] 73 (0, 0))) ∧ Hid (wr.heap[w.heap.size + 1]? = some (.cells #[.bool false, .slice ao l cap] 73 (0, 0))) ∧ Hid (Below w.heap.size w wr)) (fun t _ => (intOf t).toNat)
    case atStart =>
      refine ⟨0, n, none, 0, rfl, .inl ⟨rfl, rfl, rfl, rfl⟩, (Below.heap_alloc _ _ _ (by simp)).trans (heap_alloc_new w _), ?_, new2 _ _ _⟩
      have := heap_alloc_new (w.alloc (.cells #[.bool false, .slice none 0 0] 73)) (.cells #[.bool false, .slice none 0 0] 73 (0, 0))
      rw [World.size_alloc] at this
      exact this
    case round =>
      obtain ⟨l, m, ao, cap, rfl, hlm, h0, h1, hb0⟩ := hrel
      by_cases hm : m = 0
      · have HL : Hid (l = 0 ∧ n = 0 ∨ l = 1 ∧ n ≠ 0) := by rcases hlm with h | h <;> (show _ ∨ _; omega)
        have HA : Hid (Bg (.agg #[.bool false, .slice ao l cap]) x) := HF.out l ao cap HL.out
        have c10 := cell_of_row _ (w.heap.size + 1) 0 _ _ _ h1.out
        have c11 := cell_of_row _ (w.heap.size + 1) 1 _ _ _ h1.out
        have c00 := cell_of_row _ w.heap.size 0 _ _ _ h0.out
        have c01 := cell_of_row _ w.heap.size 1 _ _ _ h0.out
        have f0 := frozen_of_row _ w.heap.size 0 _ _ h0.out
        have f1 := frozen_of_row _ w.heap.size 1 _ _ h0.out
        simp only [List.getElem?_toArray, List.getElem?_cons_zero, List.getElem?_cons_succ] at c10 c11 c00 c01
        have k1 := heap_setCell_same wr w.heap.size 0 _ _ (.bool false) h0.out
        have k2 := heap_setCell_same _ w.heap.size 1 _ _ (.slice ao l cap) k1
        have K2 : Hid (((wr.setCell ⟨w.heap.size, 0, none⟩ (.bool false)).setCell ⟨w.heap.size, 1, none⟩ (.slice ao l cap)).heap[w.heap.size]? = some (.cells #[.bool false, .slice ao l cap] 73 (0, 0))) := k2
        have BF : Hid (Below w.heap.size w ((wr.setCell ⟨w.heap.size, 0, none⟩ (.bool false)).setCell ⟨w.heap.size, 1, none⟩ (.slice ao l cap))) := (hb0.out.setCell (Nat.le_refl _) _).setCell (Nat.le_refl _) _
        have y0 := cell_of_row _ w.heap.size 0 _ _ _ K2.out
        have y1 := cell_of_row _ w.heap.size 1 _ _ _ K2.out
        simp only [List.getElem?_toArray, List.getElem?_cons_zero, List.getElem?_cons_succ] at y0 y1
        have d01 := cell_of_row _ w.heap.size 1 _ _ _ k1
        have g01 := frozen_of_row _ w.heap.size 1 _ _ k1
        simp only [List.setIfInBounds_toArray, List.set_cons_zero, List.getElem?_toArray, List.getElem?_cons_zero, List.getElem?_cons_succ] at d01
        subst hm
        clear hlm k1 k2
        go_wp2_with fail
        exact bodyPost_ret (v := .agg #[.bool false, .slice ao l cap]) (by simp [results, Try.results45, y0, y1, go_sem]) rfl ⟨_, rfl, HA.out, BF.out⟩
      · have hmn : l = 0 ∧ m = n ∧ ao = none ∧ cap = 0 := hlm.resolve_right (fun h => hm h.2.1)
        obtain ⟨rfl, rfl, rfl, rfl⟩ := hmn
        have c11 := cell_of_row _ (w.heap.size + 1) 1 _ _ _ h1.out
        simp only [List.getElem?_toArray, List.getElem?_cons_zero, List.getElem?_cons_succ] at c11
        have hm0 : (0 : Int) < (m : Int) := by omega
        have hdv : (m : Int) / 4294967296 = 0 := by omega
        clear hlm
        have HS : Hid (w.heap.size + 1 < wr.heap.size) := (Array.getElem?_eq_some_iff.1 h1.out).1
        obtain ⟨nv, hnv⟩ : ∃ v, v = Value.slice none 0 0 := ⟨_, rfl⟩
        have HNV : Hid (nv = Value.slice none 0 0) := hnv
        have HOW : Hid ((wr.alloc (.cells #[.int .u64 m] 85)).ownsRow wr.heap.size 85 1 nv 0 []) := by rw [hnv]; exact ⟨rfl, .inl ⟨rfl, rfl⟩⟩
        have HGB : Hid (∀ w3 : World, (wr.alloc (.cells #[.int .u64 m] 85)).grownBy w3 nv.ownBlock → Below wr.heap.size wr w3) := fun w3 hg => (new1 wr _).grown hg (by simp) (by rw [hnv]; intro j hj; cases hj)
        rw [← hnv] at c11
        clear hnv
        go_wp2_with (first | (at_builtin; refine wpList_append_own _ rfl (.tmp 16) (.tmp 19) 71 rfl wr.heap.size 85 i0 (.int .u64 0) 1 8 Try.underlying71 hi hz0 hz1 hz2 rfl (by decide) nv 0 [] rfl HOW.out ⟨wr.heap.size, 0, none⟩ 1 1 [.int .u64 _] rfl rfl (cell_one_new wr _ _) (by intro u hu; rw [List.mem_singleton] at hu; subst hu; rfl) (by unfold maxLen; omega) (by omega) (by simp) ?_; intro v' w3 hown' hgrow _; obtain ⟨g', cap', rfl⟩ := own_shape hown' (by omega); have B3 : Hid (Below wr.heap.size wr w3) := HGB.out w3 hgrow; have h31 : Hid (w3.heap[w.heap.size + 1]? = some (.cells #[.bool false, .slice none 0 0] 73 (0, 0))) := (B3.out.block _ HS.out).trans h1.out; have h30 : Hid (w3.heap[w.heap.size]? = some (.cells #[.bool false, .slice none 0 0] 73 (0, 0))) := (B3.out.block _ (by have := HS.out; omega)).trans h0.out; have c31 := cell_of_row _ (w.heap.size + 1) 1 _ _ _ h31.out; have f31 := frozen_of_row _ (w.heap.size + 1) 1 _ _ h31.out; simp only [List.getElem?_toArray, List.getElem?_cons_zero, List.getElem?_cons_succ] at c31; clear hown' hgrow))
        go_roundw
        case rel =>
          refine ⟨1, 0, some ⟨g', 0, none⟩, cap', by first | rfl | (rw [hdv]; rfl), .inr ⟨rfl, rfl, hm⟩, ?_, ?_, ?_⟩
          · show _ = _
            rw [Below.heap_setCell _ _ _ _ (show w.heap.size ≠ w.heap.size + 1 by omega)]
            exact h30.out
          · exact heap_setCell_same w3 (w.heap.size + 1) 1 _ _ (.slice (some ⟨g', 0, none⟩) 1 cap') h31.out
          · exact (hb0.out.trans (B3.out.mono hb0.out.size)).setCell (by show _ ≤ _; simp) _
        case measure => simp [intOf]; omega
end Go.Proofs.Ytdammgflmkamaab.wh
