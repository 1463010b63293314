/- Lists of texts: what a slice of them holds; the size, the copy and the comparison of the exact laws. -/
import Derived.Test.YtdeoemeibbkdoaaDoorRows
import Derived.WalkKit
import Derived.WalkLawsBesides
import Derived.Deep.Draws
import Derived.Lib.ItoaNum
import Derived.Deep.RegionWith
import Derived.Deep.QuietTactic
import Derived.BigQuiet
namespace Go.Proofs.YtdeoemeibbkdoaaDoor.sls
open Go.RowKit

/-- the slice v holds n texts, f 0, f 1, .. -/
def Sls (w : World) (v : Value) (n : Nat) (f : Nat → ByteArray) : Prop :=
  ∃ ao cap, v = .slice ao n cap ∧ n ≤ 9223372036854775807 ∧ (n ≠ 0 → ∃ b off, ao = some ⟨b, off, none⟩ ∧ b < w.heap.size ∧ ∀ k, k < n → w.cell? ⟨b, off + k, none⟩ = some (.string (f k)))

theorem Sls.below {w w' : World} {v : Value} {n : Nat} {f : Nat → ByteArray} (h : Sls w v n f) (hb : Below w.heap.size w w') : Sls w' v n f := by
  obtain ⟨ao, cap, rfl, hn, hc⟩ := h
  refine ⟨ao, cap, rfl, hn, fun h0 => ?_⟩
  obtain ⟨b, off, rfl, hlt, hcell⟩ := hc h0
  exact ⟨b, off, rfl, Nat.lt_of_lt_of_le hlt hb.size, fun k hk => (hb.cell hlt).trans (hcell k hk)⟩

theorem info_i : (Tryd.prog.info? 9).map (fun i => (i.zero, i.size, i.bytes)) = some (some (.string ⟨#[]⟩), 1, 16) := by kernel_rfl

theorem store_str {w : World} {a : Addr} {b : ByteArray} {u : Value} (h : w.cell? a = some u) (hf : w.frozen? a = false) : (store a (.string b)).run Tryd.prog w = .ok () (w.setCell a (.string b)) := by
  rw [run_store _ _ _ _ _ rfl]
  simp [h, hf]

theorem own_lt {w : World} {base e size g n cap m : Nat} {xs : List Value} (h : w.ownsRow base e size (.slice (some ⟨g, 0, none⟩) n cap) m xs) : g < w.heap.size := by
  rcases h.2 with ⟨h', _⟩ | ⟨g', cap', cur, h', _, hg, _⟩
  · simp at h'
  · simp only [Value.slice.injEq, Option.some.injEq, Addr.mk.injEq, and_true] at h'
    obtain ⟨rfl, _⟩ := h'
    exact (Array.getElem?_eq_some_iff.1 hg).1

theorem to_any {v : Value} {n : Nat} {f : Nat → ByteArray} {w : World} (h : Sls w v n f) (hn : n ≤ 1048576) :
    Calls Tryd.prog 21 #[v] w fun e w' => ∃ v', e = .returned v' ∧ Sls w' v' n f ∧ Below w.heap.size w w' := by
  obtain ⟨ao, cap, rfl, _, hc⟩ := h
  obtain ⟨i0, hi, hz0, hz1, hz2⟩ := info_parts info_i
  have hc' : Hid (n ≠ 0 → ∃ b off, ao = some ⟨b, off, none⟩ ∧ b < w.heap.size ∧ ∀ k, k < n → w.cell? ⟨b, off + k, none⟩ = some (.string (f k))) := hc
  clear hc
  have hml : n ≤ maxLen := by unfold maxLen; omega
  obtain ⟨B, hB⟩ : ∃ B, B = w.heap.size := ⟨_, rfl⟩
  go_enter Tryd.func21, Tryd.ntmps21
  go_wp2_with (first | (refine wpList_make_full _ rfl (.tmp 6) (.tmp 6) 38 rfl w.heap.size 9 i0 (.string ⟨#[]⟩) 1 Tryd.underlying38 hi hz0 hz1 .i64 .i64 _ _ n rfl rfl rfl rfl (by rw [hz2]; omega) hml (Nat.le_refl _) ?_; intro w1 hown hgrow))
  rw [← hB] at hown
  rw [← hB]
  have hbel : Below B w w1 := (Below.refl B w).grown hgrow (by omega) (by intro k hk; cases hk)
  have HE : Hid (B = w.heap.size) := hB
  clear hgrow hB
  go_loopw [4] (fun i wr => ∃ (k : Nat) (xs : List Value), k ≤ n ∧ i = .int .i64 k ∧ Hid (wr.ownsRow B 9 1 (.slice (some ⟨B, 0, none⟩) n n) n xs) ∧ Hid (∀ j, j < k → xs[j]? = some (.string (f j))) ∧ Hid (Below B w wr)) (fun i _ => n - (intOf i).toNat)
  case atStart => exact ⟨0, _, by omega, rfl, hown, fun j hj => by omega, hbel⟩
  case round =>
    obtain ⟨k, xs, hk, rfl, ho, hx, hb⟩ := hrel
    by_cases hlt : k < n
    · obtain ⟨b, off, rfl, hbw, hcell⟩ := hc'.out (by omega)
      have e1 : wr.cell? ⟨b, off + k, none⟩ = some (.string (f k)) := (hb.out.cell (by have := HE.out; show b < B; omega)).trans (hcell k hlt)
      have e2 : wr.cell? ⟨B, k, none⟩ = xs[k]? := ho.out.cellAt k (by omega)
      have hxl : xs.length = n := by have := ho.out.1; simpa using this
      obtain ⟨u, hu⟩ : ∃ u, xs[k]? = some u := ⟨xs[k]'(by omega), List.getElem?_eq_getElem (by omega)⟩
      rw [hu] at e2
      have e3 : wr.frozen? ⟨B, k, none⟩ = false := ho.out.frozenAt k
      have hst := store_str (b := f k) e2 e3
      have HO : Hid ((wr.setCell ⟨B, k, none⟩ (.string (f k))).ownsRow B 9 1 (.slice (some ⟨B, 0, none⟩) n n) n (xs.set k (.string (f k)))) := (ho.out.stored k (.string (f k))).1
      have HX : Hid (∀ j, j < k + 1 → (xs.set k (.string (f k)))[j]? = some (.string (f j))) := by
        intro j hj
        by_cases hjk : j = k
        · subst hjk
          rw [List.getElem?_set_self (by omega)]
        · rw [List.getElem?_set_ne (by omega)]
          exact hx.out j (by omega)
      have HB : Hid (Below B w (wr.setCell ⟨B, k, none⟩ (.string (f k)))) := hb.out.setCell (p := ⟨B, k, none⟩) (Nat.le_refl B) _
      clear hcell hu hb ho hx hxl
      go_wp2
      go_roundw
      case rel => exact ⟨k + 1, _, by omega, by go_num, HO, HX, HB⟩
      case measure => simp [intOf]; omega
    · obtain rfl : k = n := by omega
      go_wp2
      go_ret
      refine ⟨_, rfl, ⟨_, _, rfl, by omega, fun h0 => ⟨B, 0, rfl, own_lt ho.out, fun j hj => ?_⟩⟩, by rw [← HE.out]; exact hb.out⟩
      rw [Nat.zero_add, ho.out.cellAt j (by omega)]
      exact hx.out j hj

theorem eq_any {v0 v1 : Value} {n : Nat} {f : Nat → ByteArray} {w : World} (h0 : Sls w v0 n f) (h1 : Sls w v1 n f) :
    Calls Tryd.prog 23 #[v0, v1] w fun e w' => e = .returned (.bool true) ∧ ∃ m, w' = w.drewN m := by
  obtain ⟨ao, cap, rfl, hn, hc0⟩ := h0
  obtain ⟨bo, cap1, rfl, _, hc1⟩ := h1
  have hc0' : Hid (n ≠ 0 → ∃ b off, ao = some ⟨b, off, none⟩ ∧ b < w.heap.size ∧ ∀ k, k < n → w.cell? ⟨b, off + k, none⟩ = some (.string (f k))) := hc0
  have hc1' : Hid (n ≠ 0 → ∃ b off, bo = some ⟨b, off, none⟩ ∧ b < w.heap.size ∧ ∀ k, k < n → w.cell? ⟨b, off + k, none⟩ = some (.string (f k))) := hc1
  clear hc0 hc1
  go_enter Tryd.func23, Tryd.ntmps23
  go_wp2
  go_loopw [5] (fun i wr => ∃ (k : Nat), k ≤ n ∧ i = .int .i64 k ∧ Hid (∃ m, wr = w.drewN m)) (fun i _ => n - (intOf i).toNat)
  case atStart => exact ⟨0, by omega, rfl, 0, rfl⟩
  case round =>
    obtain ⟨k, hk, rfl, hm⟩ := hrel
    by_cases hlt : k < n
    · obtain ⟨b, off, rfl, _, hcell⟩ := hc0'.out (by omega)
      obtain ⟨b', off', rfl, _, hcell'⟩ := hc1'.out (by omega)
      have e1 : wr.cell? ⟨b, off + k, none⟩ = some (.string (f k)) := by obtain ⟨m, rfl⟩ := hm.out; exact hcell k hlt
      have e2 : wr.cell? ⟨b', off' + k, none⟩ = some (.string (f k)) := by obtain ⟨m, rfl⟩ := hm.out; exact hcell' k hlt
      clear hcell hcell'
      have next : ∀ q, Hid (∃ m, wr.drewN q = w.drewN m) := fun q => by obtain ⟨m, rfl⟩ := hm.out; exact ⟨m + q, World.drewN_drewN _ _ _⟩
      clear hm
      generalize f k = z at *
      go_wp2_with fail
      go_region
      go_wp2
      go_roundw
      case rel => exact ⟨k + 1, by omega, by go_num, next 1⟩
      case measure => simp [intOf]; omega
    · obtain rfl : k = n := by omega
      obtain ⟨m, rfl⟩ := hm.out
      go_wp2
      go_ret
      exact ⟨rfl, _, rfl⟩

def tot (f : Nat → ByteArray) : Nat → Nat
  | 0 => 0
  | k + 1 => tot f k + (f k).size
theorem tot_le (f : Nat → ByteArray) : ∀ n k, k < n → (f k).size ≤ tot f n
  | 0, _, h => by omega
  | n + 1, k, h => by
    by_cases e : k = n
    · subst e; show _ ≤ tot f k + (f k).size; omega
    · have := tot_le f n k (by omega)
      show _ ≤ tot f n + (f n).size
      omega
theorem sz_any {v : Value} {n : Nat} {f : Nat → ByteArray} {w : World} (h : Sls w v n f) (hz : ∀ k, k < n → (f k).size ≤ 9223372036854775807) :
    Calls Tryd.prog 19 #[v, .int .i64 1048576] w fun e w' => ∃ r : Int, e = .returned (.int .i64 r) ∧ w' = w ∧ (r < 0 ∨ (0 ≤ r ∧ n + tot f n ≤ 1048576)) := by
  obtain ⟨ao, cap, rfl, hn, hc0⟩ := h
  have hc0' : Hid (n ≠ 0 → ∃ b off, ao = some ⟨b, off, none⟩ ∧ b < w.heap.size ∧ ∀ k, k < n → w.cell? ⟨b, off + k, none⟩ = some (.string (f k))) := hc0
  have HZ : Hid (∀ k, k < n → (f k).size ≤ 9223372036854775807) := hz
  clear hc0 hz
  have q1 : IntKind.i64.wrap (1048576 - (n : Int)) = 1048576 - (n : Int) := IntWalk.i64_in _ (by omega)
  have q2 : wrap64 (1048576 - (n : Int)) = 1048576 - (n : Int) := IntWalk.wrap64_in _ (by omega)
  by_cases hbig : 1048576 < n
  · have q3 : (1048576 : Int) - (n : Int) < 0 := by omega
    go_enter Tryd.func19, Tryd.ntmps19
    go_wp2
    go_ret
    exact ⟨-1, rfl, rfl, .inl (by omega)⟩
  · have q3 : ¬ (1048576 : Int) - (n : Int) < 0 := by omega
    have q4 : (0 : Int) ≤ (1048576 : Int) - (n : Int) := by omega
    go_enter Tryd.func19, Tryd.ntmps19
    go_wp2
    go_loop [1, 5] (fun l i => ∃ k : Nat, k ≤ n ∧ l = .int .i64 (1048576 - (n : Int) - (tot f k : Int)) ∧ i = .int .i64 k ∧ Hid (n + tot f k ≤ 1048576)) (fun _ i => n - (intOf i).toNat)
    case atStart => exact ⟨0, by omega, by simp [tot], rfl, by show _ ≤ _; simp [tot]; omega⟩
    case round =>
      obtain ⟨k, hk, rfl, rfl, ht⟩ := hrel
      by_cases hlt : k < n
      · obtain ⟨b, off, rfl, _, hcell⟩ := hc0'.out (by omega)
        have e1 := hcell k hlt
        have hz := HZ.out k hlt
        have ht' := ht.out
        have hs : Hid (tot f (k + 1) = tot f k + (f k).size) := rfl
        clear hcell
        generalize f k = z at *
        generalize tot f k = t at *
        have p1 : IntKind.i64.wrap (1048576 - (n : Int) - (t : Int) - (z.size : Int)) = 1048576 - (n : Int) - (t : Int) - (z.size : Int) := IntWalk.i64_in _ (by omega)
        have p2 : wrap64 (1048576 - (n : Int) - (t : Int) - (z.size : Int)) = 1048576 - (n : Int) - (t : Int) - (z.size : Int) := IntWalk.wrap64_in _ (by omega)
        by_cases hneg : (1048576 : Int) - (n : Int) - (t : Int) - (z.size : Int) < 0
        · go_wp2
          go_ret
          exact ⟨-1, rfl, rfl, .inl (by omega)⟩
        · have HS : Hid (n + tot f (k + 1) ≤ 1048576) := by show _ ≤ _; rw [hs.out]; omega
          have HV : Hid (1048576 - (n : Int) - (t : Int) - (z.size : Int) = 1048576 - (n : Int) - (tot f (k + 1) : Int)) := by show _ = _; rw [hs.out]; omega
          go_wp2
          go_round
          case rel => exact ⟨k + 1, by omega, by rw [HV.out], by go_num, HS⟩
          case measure => simp [intOf]; omega
      · obtain rfl : k = n := by omega
        have ht' := ht.out
        go_wp2
        go_ret
        exact ⟨1048576 - (k : Int) - (tot f k : Int), rfl, rfl, by omega⟩
end Go.Proofs.YtdeoemeibbkdoaaDoor.sls
