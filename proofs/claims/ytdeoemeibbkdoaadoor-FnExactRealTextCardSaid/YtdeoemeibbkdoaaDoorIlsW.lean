/- Lists of 64-bit integers: what a slice of them holds; the copy and the comparison of the exact laws. -/
import Derived.Test.YtdeoemeibbkdoaaDoorRows
import Derived.WalkKit
import Derived.WalkLawsBesides
import Derived.Deep.Draws
import Derived.Lib.ItoaNum
import Derived.Deep.RegionWith
import Derived.Deep.QuietTactic
import Derived.BigQuiet
namespace Go.Proofs.YtdeoemeibbkdoaaDoor.ils
open Go.RowKit

/-- the slice v holds n integers, f 0, f 1, .. -/
def Ils (w : World) (v : Value) (n : Nat) (f : Nat → Int) : Prop :=
  ∃ ao cap, v = .slice ao n cap ∧ n ≤ 9223372036854775807 ∧ (n ≠ 0 → ∃ b off, ao = some ⟨b, off, none⟩ ∧ b < w.heap.size ∧ ∀ k, k < n → w.cell? ⟨b, off + k, none⟩ = some (.int .i64 (f k)))

theorem Ils.below {w w' : World} {v : Value} {n : Nat} {f : Nat → Int} (h : Ils w v n f) (hb : Below w.heap.size w w') : Ils w' v n f := by
  obtain ⟨ao, cap, rfl, hn, hc⟩ := h
  refine ⟨ao, cap, rfl, hn, fun h0 => ?_⟩
  obtain ⟨b, off, rfl, hlt, hcell⟩ := hc h0
  exact ⟨b, off, rfl, Nat.lt_of_lt_of_le hlt hb.size, fun k hk => (hb.cell hlt).trans (hcell k hk)⟩

theorem info_i : (Tryd.prog.info? 2).map (fun i => (i.zero, i.size, i.bytes)) = some (some (.int .i64 0), 1, 8) := by kernel_rfl

theorem store_int {w : World} {a : Addr} {b : Int} {u : Value} (h : w.cell? a = some u) (hf : w.frozen? a = false) : (store a (.int .i64 b)).run Tryd.prog w = .ok () (w.setCell a (.int .i64 b)) := by
  rw [run_store _ _ _ _ _ rfl]
  simp [h, hf]

theorem own_lt {w : World} {base e size g n cap m : Nat} {xs : List Value} (h : w.ownsRow base e size (.slice (some ⟨g, 0, none⟩) n cap) m xs) : g < w.heap.size := by
  rcases h.2 with ⟨h', _⟩ | ⟨g', cap', cur, h', _, hg, _⟩
  · simp at h'
  · simp only [Value.slice.injEq, Option.some.injEq, Addr.mk.injEq, and_true] at h'
    obtain ⟨rfl, _⟩ := h'
    exact (Array.getElem?_eq_some_iff.1 hg).1

theorem to_any {v : Value} {n : Nat} {f : Nat → Int} {w : World} (h : Ils w v n f) (hn : n ≤ 1048576) :
    Calls Tryd.prog 31 #[v] w fun e w' => ∃ v', e = .returned v' ∧ Ils w' v' n f ∧ Below w.heap.size w w' := by
  obtain ⟨ao, cap, rfl, _, hc⟩ := h
  obtain ⟨i0, hi, hz0, hz1, hz2⟩ := info_parts info_i
  have hc' : Hid (n ≠ 0 → ∃ b off, ao = some ⟨b, off, none⟩ ∧ b < w.heap.size ∧ ∀ k, k < n → w.cell? ⟨b, off + k, none⟩ = some (.int .i64 (f k))) := hc
  clear hc
  have hml : n ≤ maxLen := by unfold maxLen; omega
  obtain ⟨B, hB⟩ : ∃ B, B = w.heap.size := ⟨_, rfl⟩
  go_enter Tryd.func31, Tryd.ntmps31
  go_wp2_with (first | (refine wpList_make_full _ rfl (.tmp 6) (.tmp 6) 22 rfl w.heap.size 2 i0 (.int .i64 0) 1 Tryd.underlying22 hi hz0 hz1 .i64 .i64 _ _ n rfl rfl rfl rfl (by rw [hz2]; omega) hml (Nat.le_refl _) ?_; intro w1 hown hgrow))
  rw [← hB] at hown
  rw [← hB]
  have hbel : Below B w w1 := (Below.refl B w).grown hgrow (by omega) (by intro k hk; cases hk)
  have HE : Hid (B = w.heap.size) := hB
  clear hgrow hB
  go_loopw [4] (fun i wr => ∃ (k : Nat) (xs : List Value), k ≤ n ∧ i = .int .i64 k ∧ Hid (wr.ownsRow B 2 1 (.slice (some ⟨B, 0, none⟩) n n) n xs) ∧ Hid (∀ j, j < k → xs[j]? = some (.int .i64 (f j))) ∧ Hid (Below B w wr)) (fun i _ => n - (intOf i).toNat)
  case atStart => exact ⟨0, _, by omega, rfl, hown, fun j hj => by omega, hbel⟩
  case round =>
    obtain ⟨k, xs, hk, rfl, ho, hx, hb⟩ := hrel
    by_cases hlt : k < n
    · obtain ⟨b, off, rfl, hbw, hcell⟩ := hc'.out (by omega)
      have e1 : wr.cell? ⟨b, off + k, none⟩ = some (.int .i64 (f k)) := (hb.out.cell (by have := HE.out; show b < B; omega)).trans (hcell k hlt)
      have e2 : wr.cell? ⟨B, k, none⟩ = xs[k]? := ho.out.cellAt k (by omega)
      have hxl : xs.length = n := by have := ho.out.1; simpa using this
      obtain ⟨u, hu⟩ : ∃ u, xs[k]? = some u := ⟨xs[k]'(by omega), List.getElem?_eq_getElem (by omega)⟩
      rw [hu] at e2
      have e3 : wr.frozen? ⟨B, k, none⟩ = false := ho.out.frozenAt k
      have hst := store_int (b := f k) e2 e3
      have HO : Hid ((wr.setCell ⟨B, k, none⟩ (.int .i64 (f k))).ownsRow B 2 1 (.slice (some ⟨B, 0, none⟩) n n) n (xs.set k (.int .i64 (f k)))) := (ho.out.stored k (.int .i64 (f k))).1
      have HX : Hid (∀ j, j < k + 1 → (xs.set k (.int .i64 (f k)))[j]? = some (.int .i64 (f j))) := by
        intro j hj
        by_cases hjk : j = k
        · subst hjk
          rw [List.getElem?_set_self (by omega)]
        · rw [List.getElem?_set_ne (by omega)]
          exact hx.out j (by omega)
      have HB : Hid (Below B w (wr.setCell ⟨B, k, none⟩ (.int .i64 (f k)))) := hb.out.setCell (p := ⟨B, k, none⟩) (Nat.le_refl B) _
      clear hcell hu hb ho hx hxl
      go_wp2
      go_roundw
      case rel => exact ⟨k + 1, _, by omega, by go_num, HO, HX, HB⟩
      case measure => simp [intOf]; omega
    · obtain rfl : k = n := by omega
      go_wp2
      go_ret
      refine ⟨_, rfl, ⟨_, _, rfl, by omega, fun h0 => ⟨B, 0, rfl, own_lt ho.out, fun j hj => ?_⟩⟩, by rw [← HE.out]; exact hb.out⟩
      rw [Nat.zero_add, ho.out.cellAt j (by omega)]
      exact hx.out j hj

theorem eq_any {v0 v1 : Value} {n : Nat} {f : Nat → Int} {w : World} (h0 : Ils w v0 n f) (h1 : Ils w v1 n f) :
    Calls Tryd.prog 34 #[v0, v1] w fun e w' => e = .returned (.bool true) ∧ ∃ m, w' = w.drewN m := by
  obtain ⟨ao, cap, rfl, hn, hc0⟩ := h0
  obtain ⟨bo, cap1, rfl, _, hc1⟩ := h1
  have hc0' : Hid (n ≠ 0 → ∃ b off, ao = some ⟨b, off, none⟩ ∧ b < w.heap.size ∧ ∀ k, k < n → w.cell? ⟨b, off + k, none⟩ = some (.int .i64 (f k))) := hc0
  have hc1' : Hid (n ≠ 0 → ∃ b off, bo = some ⟨b, off, none⟩ ∧ b < w.heap.size ∧ ∀ k, k < n → w.cell? ⟨b, off + k, none⟩ = some (.int .i64 (f k))) := hc1
  clear hc0 hc1
  go_enter Tryd.func34, Tryd.ntmps34
  go_wp2
  go_loopw [5] (fun i wr => ∃ (k : Nat), k ≤ n ∧ i = .int .i64 k ∧ Hid (∃ m, wr = w.drewN m)) (fun i _ => n - (intOf i).toNat)
  case atStart => exact ⟨0, by omega, rfl, 0, rfl⟩
  case round =>
    obtain ⟨k, hk, rfl, hm⟩ := hrel
    by_cases hlt : k < n
    · obtain ⟨b, off, rfl, _, hcell⟩ := hc0'.out (by omega)
      obtain ⟨b', off', rfl, _, hcell'⟩ := hc1'.out (by omega)
      have e1 : wr.cell? ⟨b, off + k, none⟩ = some (.int .i64 (f k)) := by obtain ⟨m, rfl⟩ := hm.out; exact hcell k hlt
      have e2 : wr.cell? ⟨b', off' + k, none⟩ = some (.int .i64 (f k)) := by obtain ⟨m, rfl⟩ := hm.out; exact hcell' k hlt
      clear hcell hcell'
      have next : ∀ q, Hid (∃ m, wr.drewN q = w.drewN m) := fun q => by obtain ⟨m, rfl⟩ := hm.out; exact ⟨m + q, World.drewN_drewN _ _ _⟩
      clear hm
      generalize f k = z at *
      go_wp2_with fail
      go_region
      go_wp2
      go_roundw
      case rel => exact ⟨k + 1, by omega, by go_num, next 1⟩
      case measure => simp [intOf]; omega
    · obtain rfl : k = n := by omega
      obtain ⟨m, rfl⟩ := hm.out
      go_wp2
      go_ret
      exact ⟨rfl, _, rfl⟩
end Go.Proofs.YtdeoemeibbkdoaaDoor.ils
