/- A list of 32-bit numbers in memory of the call's own: marked, and held. -/
import Derived.Test.YtibpahkjjjhapabFlsW
import Derived.Test.YtibpahkjjjhapabFlB
namespace Go.Proofs.Ytibpahkjjjhapab.fls
open Go.RowKit Go.Fl

/-- the bits of a small integer -/
def fi (k : Int) : Nat := floatOfInt .f32 k
theorem fi_num : ∀ k : Nat, k < 300 → isN .f32 (fi ((k : Int) + 1)) = false := by decide +kernel
theorem fi_self {k : Nat} (h : k < 300) : FloatKind.f32.format.order (fi ((k : Int) + 1)) (fi ((k : Int) + 1)) = some .eq := order_self_num (fi_num k h)
theorem Fls.of_own {w : World} {B : Nat} {v : Value} {n : Nat} {f : Nat → Nat} {L : List Value} (hL : n ≤ 9223372036854775807) (hf : ∀ k, k < n → L[k]? = some (.float .f32 (f k))) (h : w.ownsRow B 42 1 v n L) : Fls w v n f := by
  rcases id h.2 with ⟨rfl, h0⟩ | ⟨g, cap, cur, rfl, hB, hg, hr⟩
  · rw [h0]
    exact ⟨none, 0, rfl, by omega, fun h => absurd rfl h⟩
  · refine ⟨_, _, rfl, hL, fun h0 => ⟨g, 0, rfl, own_lt h, fun k hk => ?_⟩⟩
    rw [Nat.zero_add, h.cellAt k (by omega)]
    exact hf k hk

theorem conv_run (x : Int) (w : World) : (convert 3 42 (.int .i64 x)).run Try.prog w = .ok (.float .f32 (fi x)) w :=
  run_convert_int_float w 3 42 .i64 .f32 x (by rw [Try.underlying3]; rfl) Try.underlying42

set_option maxHeartbeats 800000 in
theorem mark_any {B : Nat} {v : Value} {n : Nat} {xs : List Value} {w : World} (h : w.ownsRow B 42 1 v n xs) (hn : n ≤ 256) (hB : B ≤ w.heap.size) :
    Calls Try.prog 10 #[v, .int .i64 1] w fun e w' => e = .returned (.int .i64 ((n : Int) + 1)) ∧ Fls w' v n (fun j => fi ((j : Int) + 1)) ∧ Below B w w' := by
  rcases id h.2 with ⟨rfl, rfl⟩ | ⟨g, cap, cur, rfl, hBg, hg, hr⟩
  · go_enter Try.func10, Try.ntmps10
    go_wp2
    go_loopw [1, 5] (fun k i wr => k = .int .i64 1 ∧ i = .int .i64 0 ∧ wr = w) (fun _ _ _ => 0)
    case atStart => exact ⟨rfl, rfl, rfl⟩
    case round =>
      obtain ⟨rfl, rfl, rfl⟩ := hrel
      go_wp2
      go_ret
      exact ⟨rfl, ⟨none, 0, rfl, by omega, fun h => absurd rfl h⟩, Below.refl _ _⟩
  · have HBg : Hid (B ≤ g) := hBg
    have start : Hid (w.ownsRow B 42 1 (.slice (some ⟨g, 0, none⟩) n cap) n xs) := h
    clear hr hg h hBg
    go_enter Try.func10, Try.ntmps10
    go_wp2
    go_loopw [1, 5] (fun q i wr => ∃ (k : Nat) (ys : List Value), k ≤ n ∧ q = .int .i64 ((k : Int) + 1) ∧ i = .int .i64 k ∧ Hid (wr.ownsRow B 42 1 (.slice (some ⟨g, 0, none⟩) n cap) n ys) ∧ Hid (∀ j, j < k → ys[j]? = some (.float .f32 (fi ((j : Int) + 1)))) ∧ Hid (Below B w wr)) (fun _ i _ => n - (intOf i).toNat)
    case atStart => exact ⟨0, xs, by omega, rfl, rfl, start, fun j hj => by omega, Below.refl _ _⟩
    case round =>
      obtain ⟨k, ys, hk, rfl, rfl, ho, hx, hb⟩ := hrel
      by_cases hlt : k < n
      · have e2 : wr.cell? ⟨g, k, none⟩ = ys[k]? := ho.out.cellAt k (by omega)
        have hxl : ys.length = n := by have := ho.out.1; simpa using this
        obtain ⟨u, hu⟩ : ∃ u, ys[k]? = some u := ⟨ys[k]'(by omega), List.getElem?_eq_getElem (by omega)⟩
        rw [hu] at e2
        have e3 : wr.frozen? ⟨g, k, none⟩ = false := ho.out.frozenAt k
        have hst := store_float (b := fi ((k : Int) + 1)) e2 e3
        have HO : Hid ((wr.setCell ⟨g, k, none⟩ (.float .f32 (fi ((k : Int) + 1)))).ownsRow B 42 1 (.slice (some ⟨g, 0, none⟩) n cap) n (ys.set k (.float .f32 (fi ((k : Int) + 1))))) := (ho.out.stored k (.float .f32 (fi ((k : Int) + 1)))).1
        have HX : Hid (∀ j, j < k + 1 → (ys.set k (.float .f32 (fi ((k : Int) + 1))))[j]? = some (.float .f32 (fi ((j : Int) + 1)))) := by
          intro j hj
          by_cases hjk : j = k
          · subst hjk
            rw [List.getElem?_set_self (by omega)]
          · rw [List.getElem?_set_ne (by omega)]
            exact hx.out j (by omega)
        have HB : Hid (Below B w (wr.setCell ⟨g, k, none⟩ (.float .f32 (fi ((k : Int) + 1))))) := hb.out.setCell (p := ⟨g, k, none⟩) HBg.out _
        clear hu hb ho hx hxl start
        have hcv := conv_run ((k : Int) + 1)
        generalize fi ((k : Int) + 1) = z at *
        go_wp2
        go_roundw
        case rel => exact ⟨k + 1, _, by omega, by go_num, by go_num, HO, HX, HB⟩
        case measure => simp [intOf]; omega
      · obtain rfl : k = n := by omega
        clear start
        go_wp2
        go_ret
        refine ⟨rfl, ⟨_, _, rfl, by omega, fun h0 => ⟨g, 0, rfl, own_lt ho.out, fun j hj => ?_⟩⟩, hb.out⟩
        rw [Nat.zero_add, ho.out.cellAt j (by omega)]
        exact hx.out j hj

theorem held_any {v : Value} {n : Nat} {w : World} (h : Fls w v n (fun j => fi ((j : Int) + 1))) (hn : n ≤ 256) :
    Calls Try.prog 11 #[v, .int .i64 1] w fun e w' => e = .returned (.int .i64 ((n : Int) + 1)) ∧ w' = w := by
  obtain ⟨ao, cap, rfl, _, hc⟩ := h
  have hc' : Hid (n ≠ 0 → ∃ b off, ao = some ⟨b, off, none⟩ ∧ b < w.heap.size ∧ ∀ k, k < n → w.cell? ⟨b, off + k, none⟩ = some (.float .f32 (fi ((k : Int) + 1)))) := hc
  clear hc
  go_enter Try.func11, Try.ntmps11
  go_wp2
  go_loop [1, 5] (fun q i => ∃ (k : Nat), k ≤ n ∧ q = .int .i64 ((k : Int) + 1) ∧ i = .int .i64 k) (fun _ i => n - (intOf i).toNat)
  case atStart => exact ⟨0, by omega, rfl, rfl⟩
  case round =>
    obtain ⟨k, hk, rfl, rfl⟩ := hrel
    by_cases hlt : k < n
    · obtain ⟨b, off, rfl, _, hcell⟩ := hc'.out (by omega)
      have e1 : w.cell? ⟨b, off + k, none⟩ = some (.float .f32 (fi ((k : Int) + 1))) := hcell k hlt
      clear hcell
      have hcv := conv_run ((k : Int) + 1)
      have hself := fi_self (k := k) (by omega)
      generalize fi ((k : Int) + 1) = z at *
      go_wp2
      go_round
      case rel => exact ⟨k + 1, by omega, by go_num, by go_num⟩
      case measure => simp [intOf]; omega
    · obtain rfl : k = n := by omega
      go_wp2
      go_ret
      exact ⟨rfl, rfl⟩
end Go.Proofs.Ytibpahkjjjhapab.fls
