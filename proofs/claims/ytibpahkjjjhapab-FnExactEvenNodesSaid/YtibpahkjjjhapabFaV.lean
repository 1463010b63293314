/- The values of a family at a number: both sides make them. -/
import Derived.Test.YtibpahkjjjhapabFaR
import Derived.Test.YtibpahkjjjhapabFaF
import Derived.OwnWalk
import Derived.Deep.LoopGhost
import Derived.Outline
namespace Go.Proofs.Ytibpahkjjjhapab.fa
open Go.RowKit Go.Fl Go.Fa Go.Proofs.Ytibpahkjjjhapab.fls

/-- a list of n values in memory of its own -/
def VAns (n : Nat) (F : Nat → Nat) (w : World) (e : Ending) (w' : World) : Prop :=
  ∃ g cap L, e = .returned (.slice (some ⟨g, 0, none⟩) n cap) ∧ w'.ownsRow w.heap.size 42 1 (.slice (some ⟨g, 0, none⟩) n cap) n L ∧ FL L n F ∧ Below w.heap.size w w'

theorem one_own (w : World) (b : Nat) : (w.alloc (.cells #[.float .f32 b] 42)).ownsRow w.heap.size 42 1 (.slice (some ⟨w.heap.size, 0, none⟩) 1 1) 1 [.float .f32 b] :=
  ⟨rfl, .inr ⟨w.heap.size, 1, #[.float .f32 b], rfl, Nat.le_refl _, heap_alloc_new w _, by simp, by decide, rfl, rfl⟩⟩
theorem one_float (w : World) (u : Value) : ∀ j v, [u][j]? = some v → (w.alloc (.cells #[u] 42)).cell? ((⟨w.heap.size, 0, none⟩ : Addr).add j) = some v := by
  have ho : (w.alloc (.cells #[u] 42)).ownsRow w.heap.size 42 1 (.slice (some ⟨w.heap.size, 0, none⟩) 1 1) 1 [u] :=
    ⟨rfl, .inr ⟨w.heap.size, 1, #[u], rfl, Nat.le_refl _, heap_alloc_new w _, by omega, by decide, rfl, rfl⟩⟩
  intro j v hj
  have hl : j < 1 := by
    have := (List.getElem?_eq_some_iff.1 hj).1
    simpa using this
  rw [Addr.add_lit, Nat.zero_add, ho.cellAt j (by omega)]
  exact hj
theorem own_shape {w : World} {B n : Nat} {v : Value} {xs : List Value} (h : w.ownsRow B 42 1 v n xs) (hn : 0 < n) : ∃ g cap, v = .slice (some ⟨g, 0, none⟩) n cap := by
  rcases h.2 with ⟨_, h0⟩ | ⟨g, cap, cur, rfl, _⟩
  · omega
  · exact ⟨g, cap, rfl⟩
theorem FL.one (F : Nat → Nat) (h : F 0 = 1065353216) : FL [.float .f32 1065353216] 1 F := FL.snoc (L := []) (FL.nil F) (by rw [h]; exact Sm.refl _ _)

set_option maxRecDepth 100000 in
set_option maxHeartbeats 1600000 in
theorem srow_any (kd n x : Nat) (hk : kd ≤ 4) (hn : n ≤ 16) (w : World) : Calls Try.prog 48 #[.int .i64 kd, .int .i64 n, .float .f32 x] w (VAns (n + 1) (fv kd x) w) := by
  obtain ⟨i0, hi, hz0, hz1, hz2⟩ := info_parts info_f
  have huf : (Try.prog.underlying 42).isSome = true := by rw [Try.underlying42]; rfl
  have start : Hid ((w.alloc (.cells #[.float .f32 1065353216] 42)).ownsRow w.heap.size 42 1 (.slice (some ⟨w.heap.size, 0, none⟩) 1 1) 1 [.float .f32 1065353216]) := one_own w _
  have startB : Hid (Below w.heap.size w (w.alloc (.cells #[.float .f32 1065353216] 42))) := (Below.refl _ _).alloc (Nat.le_refl _) _
  have startL : Hid (FL [.float .f32 1065353216] 1 (fv kd x)) := FL.one _ rfl
  go_enter Try.func48, Try.ntmps48
  go_wp2_with fail
  go_loopw [7, 8, 9] (fun v c i wr => ∃ (j g cap b : Nat) (L : List Value), j ≤ n ∧ v = .slice (some ⟨g, 0, none⟩) (j + 1 : Nat) cap ∧ c = .float .f32 b ∧ i = .int .i64 j ∧ Hid (Sm .f32 b (fr kd x j).2) ∧ Hid (wr.ownsRow w.heap.size 42 1 (.slice (some ⟨g, 0, none⟩) (j + 1) cap) (j + 1) L) ∧ Hid (FL L (j + 1) (fv kd x)) ∧ Hid (Below w.heap.size w wr)) (fun _ _ i _ => n - (RowKit.intOf i).toNat)
  case atStart => exact ⟨0, _, _, 0, _, by omega, rfl, rfl, rfl, Sm.refl _ _, start, startL, startB⟩
  case round =>
    obtain ⟨j, g, cap, b, L, hj, rfl, rfl, rfl, hb, ho, hl, hbl⟩ := hrel
    by_cases hlt : j < n
    · have hr := fun w => srule_any kd j hk (by omega) w
      have HR := Lib.hid hr
      clear hr
      obtain ⟨y, hy, hys⟩ := hl.out.2 j (by omega)
      have e1 : wr.cell? ⟨g, j, none⟩ = some (.float .f32 y) := (ho.out.cellAt j (by omega)).trans hy
      have HY : Hid (Sm .f32 y (fv kd x j)) := hys
      clear hy hys
      have next : ∀ {W : World} (r : Nat) (L' : List Value), True := fun _ _ => trivial
      clear next
      obtain ⟨hg1, hg2⟩ : w.heap.size ≤ g ∧ g < wr.heap.size := ⟨by rcases ho.out.2 with ⟨h', _⟩ | ⟨g', cap', cur, h', hB, _⟩ <;> simp at h' <;> omega, own_lt ho.out⟩
      have HG : Hid (w.heap.size ≤ g) := hg1
      have HS : Hid (w.heap.size ≤ wr.heap.size) := by show _ ≤ _; omega
      clear hg1 hg2
      obtain ⟨A, hA⟩ : ∃ A, A = ra kd j := ⟨_, rfl⟩
      obtain ⟨B, hB⟩ : ∃ B, B = rb kd j := ⟨_, rfl⟩
      obtain ⟨C, hC⟩ : ∃ C, C = rc kd j := ⟨_, rfl⟩
      rw [← hA, ← hB, ← hC] at HR
      have HF : Hid (∀ r1 r2 r3 r4 r5, Sm .f32 r1 (ar .mul .f32 A x) → Sm .f32 r2 (ar .add .f32 r1 B) → Sm .f32 r3 (ar .mul .f32 r2 y) → Sm .f32 r4 (ar .mul .f32 C b) → Sm .f32 r5 (ar .sub .f32 r3 r4) → Sm .f32 r5 (fv kd x (j + 1))) := by
        intro r1 r2 r3 r4 r5 h1 h2 h3 h4 h5
        rw [fv_succ, ← hA, ← hB, ← hC]
        rw [ar_congr h1 (Sm.refl _ _)] at h2
        rw [ar_congr h2 HY.out] at h3
        rw [ar_congr (Sm.refl _ _) hb.out] at h4
        rw [ar_congr h3 h4] at h5
        exact h5
      have HY2 : Hid (Sm .f32 y (fr kd x (j + 1)).2) := by show Sm _ _ _; rw [fr_two]; exact HY.out
      clear hA hB hC HY hb
      go_wp2_with fail
      refine (HR.out _).mono ?_
      rintro e w1 ⟨rfl, hw1⟩
      rw [hw1]
      clear hw1
      have OD : Hid (∀ q, (wr.drewN q).ownsRow w.heap.size 42 1 (.slice (some ⟨g, 0, none⟩) (j + 1) cap) (j + 1) L) := fun q => ho.out
      have BD : Hid (∀ q, Below w.heap.size w (wr.drewN q)) := fun q => Go.Pst.below_drewN hbl.out q
      have SD : Hid (∀ q, w.heap.size ≤ (wr.drewN q).heap.size) := fun q => HS.out
      have e2 : ∀ q, (wr.drewN q).cell? ⟨g, j, none⟩ = some (.float .f32 y) := fun q => e1
      clear ho hbl HS
      go_wp2_with (first | (refine wpList_ar rfl .mul 42 42 _ _ rfl (by simp) .f32 _ _ rfl rfl ?_; intro s n3 hm hwm) | (refine wpList_ar rfl .add 42 42 _ _ rfl (by simp) .f32 _ _ rfl rfl ?_; intro s n3 hm hwm) | (refine wpList_ar rfl .sub 42 42 _ _ rfl (by simp) .f32 _ _ rfl rfl ?_; intro s n3 hm hwm) | (at_builtin; refine wpList_append_own _ rfl (.tmp 45) (.tmp 47) 22 rfl w.heap.size 42 i0 (.float .f32 0) 1 4 Try.underlying22 hi hz0 hz1 hz2 rfl (by decide) _ (j + 1) _ rfl ((OD.out _).alloc _) ⟨wr.heap.size, 0, none⟩ 1 1 [.float .f32 _] rfl rfl (one_float (wr.drewN _) _) (by intro u hu; rw [List.mem_singleton] at hu; subst hu; rfl) (by unfold maxLen; omega) (by omega) (by have := SD.out 0; simp at this; simp; omega) ?_; intro v' w3 hown' hgrow _))
      have HB : Hid (Sm .f32 s (fv kd x (j + 1))) := HF.out _ _ _ _ _ (by assumption) (by assumption) (by assumption) (by assumption) hm
      obtain ⟨g', cap', rfl⟩ := own_shape hown' (by omega)
      have HL : Hid (FL (L ++ [.float .f32 s]) (j + 1 + 1) (fv kd x)) := hl.out.snoc HB.out
      have HO5 : Hid (w3.ownsRow w.heap.size 42 1 (.slice (some ⟨g', 0, none⟩) (j + 1 + 1) cap') (j + 1 + 1) (L ++ [.float .f32 s])) := hown'
      have HB5 : Hid (Below w.heap.size w w3) := ((BD.out _).alloc (SD.out _) _).grown hgrow (by have := SD.out 0; simp at this; simp; omega) (by intro j hj; have hj' : some g = some j := hj; injection hj' with hj'; have := HG.out; omega)
      clear hown' hgrow OD BD SD HF hl HB
      go_roundw
      case rel => exact ⟨j + 1, g', cap', y, _, by omega, rfl, rfl, by go_num, HY2, HO5, HL, HB5⟩
      case measure => simp [RowKit.intOf]; omega
    · obtain rfl : j = n := by omega
      go_wp2_with fail
      go_ret
      exact ⟨g, cap, L, rfl, ho.out, hl.out, hbl.out⟩
end Go.Proofs.Ytibpahkjjjhapab.fa
