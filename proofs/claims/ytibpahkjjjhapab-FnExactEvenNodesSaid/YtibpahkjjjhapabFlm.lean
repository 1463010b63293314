/- Lists of 32-bit numbers: the copy in memory of its own; marks that turn but their own block; sums. -/
import Derived.Test.YtibpahkjjjhapabFaF
namespace Go.Proofs.Ytibpahkjjjhapab.fls
open Go.RowKit Go.Fl Go.Proofs.Ytibpahkjjjhapab.sameFloat

/-- nothing has turned but blocks from lo to hi -/
structure Turned (lo hi : Nat) (w w' : World) : Prop where
  os : w'.os = w.os
  tape : w'.tape = w.tape
  output : w'.output = w.output
  size : w.heap.size ≤ w'.heap.size
  block : ∀ k, k < w.heap.size → (k < lo ∨ hi ≤ k) → w'.heap[k]? = w.heap[k]?
theorem Turned.refl (lo hi : Nat) (w : World) : Turned lo hi w w := ⟨rfl, rfl, rfl, Nat.le_refl _, fun _ _ _ => rfl⟩
theorem Turned.below {lo hi B : Nat} {w w' : World} (h : Turned lo hi w w') (hB : B ≤ lo) (hw : B ≤ w.heap.size) : Below B w w' := ⟨h.os, h.tape, h.output, h.size, fun k hk => h.block k (by omega) (by omega)⟩
theorem Turned.setCell {lo hi : Nat} {w w' : World} (h : Turned lo hi w w') {g j : Nat} (h1 : lo ≤ g) (h2 : g < hi) (u : Value) : Turned lo hi w (w'.setCell ⟨g, j, none⟩ u) :=
  ⟨h.os, h.tape, h.output, by have := h.size; simpa [World.setCell] using this, fun k hk ho => by rw [Below.heap_setCell _ _ _ _ (by show k ≠ g; omega)]; exact h.block k hk ho⟩
theorem own_turned {w w' : World} {lo hi B e n : Nat} {v : Value} {xs : List Value} (h : w.ownsRow B e 1 v n xs) (ht : Turned lo hi w w') (hB : hi ≤ B) : w'.ownsRow B e 1 v n xs := by
  refine ⟨h.1, ?_⟩
  rcases h.2 with ⟨h', h0⟩ | ⟨g', cap', cur, h', hb, hg, hr⟩
  · exact .inl ⟨h', h0⟩
  · exact .inr ⟨g', cap', cur, h', hb, (ht.block g' (Array.getElem?_eq_some_iff.1 hg).1 (by omega)).trans hg, hr⟩
theorem own_kept {w w' : World} {B e n : Nat} {v : Value} {xs : List Value} (h : w.ownsRow B e 1 v n xs) (hb : Below w.heap.size w w') : w'.ownsRow B e 1 v n xs := by
  refine ⟨h.1, ?_⟩
  rcases h.2 with ⟨h', h0⟩ | ⟨g', cap', cur, h', hB, hg, hr⟩
  · exact .inl ⟨h', h0⟩
  · exact .inr ⟨g', cap', cur, h', hB, (hb.block g' (Array.getElem?_eq_some_iff.1 hg).1).trans hg, hr⟩

set_option maxHeartbeats 800000 in
theorem marko_any {B hi : Nat} {v : Value} {n : Nat} {xs : List Value} {w : World} (h : w.ownsRow B 42 1 v n xs) (hn : n ≤ 1048576) (hhi : ∀ g cap, v = .slice (some ⟨g, 0, none⟩) n cap → g < hi) :
    Calls Try.prog 10 #[v, .int .i64 1] w fun e w' => e = .returned (.int .i64 ((n : Int) + 1)) ∧ Turned B hi w w' := by
  rcases id h.2 with ⟨rfl, rfl⟩ | ⟨g, cap, cur, rfl, hBg, hg, hr⟩
  · go_enter Try.func10, Try.ntmps10
    go_wp2
    go_loopw [1, 5] (fun k i wr => k = .int .i64 1 ∧ i = .int .i64 0 ∧ wr = w) (fun _ _ _ => 0)
    case atStart => exact ⟨rfl, rfl, rfl⟩
    case round =>
      obtain ⟨rfl, rfl, rfl⟩ := hrel
      go_wp2
      go_ret
      exact ⟨rfl, Turned.refl _ _ _⟩
  · have HBg : Hid (B ≤ g) := hBg
    have Hhi : Hid (g < hi) := hhi g cap rfl
    have start : Hid (w.ownsRow B 42 1 (.slice (some ⟨g, 0, none⟩) n cap) n xs) := h
    clear hr hg h hBg hhi
    go_enter Try.func10, Try.ntmps10
    go_wp2
    go_loopw [1, 5] (fun q i wr => ∃ (k : Nat) (ys : List Value), k ≤ n ∧ q = .int .i64 ((k : Int) + 1) ∧ i = .int .i64 k ∧ Hid (wr.ownsRow B 42 1 (.slice (some ⟨g, 0, none⟩) n cap) n ys) ∧ Hid (Turned B hi w wr)) (fun _ i _ => n - (intOf i).toNat)
    case atStart => exact ⟨0, xs, by omega, rfl, rfl, start, Turned.refl _ _ _⟩
    case round =>
      obtain ⟨k, ys, hk, rfl, rfl, ho, hb⟩ := hrel
      by_cases hlt : k < n
      · have e2 : wr.cell? ⟨g, k, none⟩ = ys[k]? := ho.out.cellAt k (by omega)
        have hxl : ys.length = n := by have := ho.out.1; simpa using this
        obtain ⟨u, hu⟩ : ∃ u, ys[k]? = some u := ⟨ys[k]'(by omega), List.getElem?_eq_getElem (by omega)⟩
        rw [hu] at e2
        have e3 : wr.frozen? ⟨g, k, none⟩ = false := ho.out.frozenAt k
        have hst := store_float (b := fi ((k : Int) + 1)) e2 e3
        have HO : Hid ((wr.setCell ⟨g, k, none⟩ (.float .f32 (fi ((k : Int) + 1)))).ownsRow B 42 1 (.slice (some ⟨g, 0, none⟩) n cap) n (ys.set k (.float .f32 (fi ((k : Int) + 1))))) := (ho.out.stored k (.float .f32 (fi ((k : Int) + 1)))).1
        have HB : Hid (Turned B hi w (wr.setCell ⟨g, k, none⟩ (.float .f32 (fi ((k : Int) + 1))))) := hb.out.setCell HBg.out Hhi.out _
        clear hu hb ho hxl start
        have hcv := conv_run ((k : Int) + 1)
        generalize fi ((k : Int) + 1) = z at *
        go_wp2
        go_roundw
        case rel => exact ⟨k + 1, _, by omega, by go_num, by go_num, HO, HB⟩
        case measure => simp [intOf]; omega
      · obtain rfl : k = n := by omega
        clear start
        go_wp2
        go_ret
        exact ⟨rfl, hb.out⟩

/-- the copy, in memory of its own -/
theorem too_any {v : Value} {n : Nat} {f : Nat → Nat} {w : World} (h : Fls w v n f) (hn : n ≤ 1048576) :
    Calls Try.prog 13 #[v] w fun e w' => ∃ v' L, e = .returned v' ∧ w'.ownsRow w.heap.size 42 1 v' n L ∧ Fls w' v' n f ∧ Below w.heap.size w w' := by
  obtain ⟨ao, cap, rfl, _, hc⟩ := h
  obtain ⟨i0, hi, hz0, hz1, hz2⟩ := info_parts info_f
  have hc' : Hid (n ≠ 0 → ∃ b off, ao = some ⟨b, off, none⟩ ∧ b < w.heap.size ∧ ∀ k, k < n → w.cell? ⟨b, off + k, none⟩ = some (.float .f32 (f k))) := hc
  clear hc
  have hml : n ≤ maxLen := by unfold maxLen; omega
  obtain ⟨B, hB⟩ : ∃ B, B = w.heap.size := ⟨_, rfl⟩
  go_enter Try.func13, Try.ntmps13
  go_wp2_with (first | (refine wpList_make_full _ rfl (.tmp 6) (.tmp 6) 22 rfl w.heap.size 42 i0 (.float .f32 0) 1 Try.underlying22 hi hz0 hz1 .i64 .i64 _ _ n rfl rfl rfl rfl (by rw [hz2]; omega) hml (Nat.le_refl _) ?_; intro w1 hown hgrow))
  rw [← hB] at hown
  rw [← hB]
  have hbel : Below B w w1 := (Below.refl B w).grown hgrow (by omega) (by intro k hk; cases hk)
  have HE : Hid (B = w.heap.size) := hB
  clear hgrow hB
  go_loopw [4] (fun i wr => ∃ (k : Nat) (xs : List Value), k ≤ n ∧ i = .int .i64 k ∧ Hid (wr.ownsRow B 42 1 (.slice (some ⟨B, 0, none⟩) n n) n xs) ∧ Hid (∀ j, j < k → xs[j]? = some (.float .f32 (f j))) ∧ Hid (Below B w wr)) (fun i _ => n - (intOf i).toNat)
  case atStart => exact ⟨0, _, by omega, rfl, hown, fun j hj => by omega, hbel⟩
  case round =>
    obtain ⟨k, xs, hk, rfl, ho, hx, hb⟩ := hrel
    by_cases hlt : k < n
    · obtain ⟨b, off, rfl, hbw, hcell⟩ := hc'.out (by omega)
      have e1 : wr.cell? ⟨b, off + k, none⟩ = some (.float .f32 (f k)) := (hb.out.cell (by have := HE.out; show b < B; omega)).trans (hcell k hlt)
      have e2 : wr.cell? ⟨B, k, none⟩ = xs[k]? := ho.out.cellAt k (by omega)
      have hxl : xs.length = n := by have := ho.out.1; simpa using this
      obtain ⟨u, hu⟩ : ∃ u, xs[k]? = some u := ⟨xs[k]'(by omega), List.getElem?_eq_getElem (by omega)⟩
      rw [hu] at e2
      have e3 : wr.frozen? ⟨B, k, none⟩ = false := ho.out.frozenAt k
      have hst := store_float (b := f k) e2 e3
      have HO : Hid ((wr.setCell ⟨B, k, none⟩ (.float .f32 (f k))).ownsRow B 42 1 (.slice (some ⟨B, 0, none⟩) n n) n (xs.set k (.float .f32 (f k)))) := (ho.out.stored k (.float .f32 (f k))).1
      have HX : Hid (∀ j, j < k + 1 → (xs.set k (.float .f32 (f k)))[j]? = some (.float .f32 (f j))) := by
        intro j hj
        by_cases hjk : j = k
        · subst hjk
          rw [List.getElem?_set_self (by omega)]
        · rw [List.getElem?_set_ne (by omega)]
          exact hx.out j (by omega)
      have HB : Hid (Below B w (wr.setCell ⟨B, k, none⟩ (.float .f32 (f k)))) := hb.out.setCell (p := ⟨B, k, none⟩) (Nat.le_refl B) _
      clear hcell hu hb ho hx hxl
      go_wp2
      go_roundw
      case rel => exact ⟨k + 1, _, by omega, by go_num, HO, HX, HB⟩
      case measure => simp [intOf]; omega
    · obtain rfl : k = n := by omega
      go_wp2
      go_ret
      exact ⟨_, xs, rfl, by rw [← HE.out]; exact ho.out, Fls.of_own (by omega) hx.out ho.out, by rw [← HE.out]; exact hb.out⟩

/-- the sum of the first k numbers, from left to right -/
def sm (f : Nat → Nat) : Nat → Nat
  | 0 => 0
  | k + 1 => ar .add .f32 (sm f k) (f k)
theorem sm_congr {f g : Nat → Nat} : ∀ {n : Nat}, (∀ k, k < n → Sm .f32 (f k) (g k)) → sm f n = sm g n
  | 0, _ => rfl
  | n + 1, h => by
    unfold sm
    rw [sm_congr (n := n) (fun k hk => h k (by omega)), ar_congr (Sm.refl _ _) (h n (by omega))]
theorem sum_any {v : Value} {n : Nat} {f : Nat → Nat} {w : World} (h : Fls w v n f) : Calls Try.prog 30 #[v] w fun e w' => ∃ r m, e = .returned (.float .f32 r) ∧ w' = w.drewN m ∧ Sm .f32 r (sm f n) := by
  obtain ⟨ao, cap, rfl, hn, hc⟩ := h
  have hc' : Hid (n ≠ 0 → ∃ b off, ao = some ⟨b, off, none⟩ ∧ b < w.heap.size ∧ ∀ k, k < n → w.cell? ⟨b, off + k, none⟩ = some (.float .f32 (f k))) := hc
  clear hc
  go_enter Try.func30, Try.ntmps30
  go_wp2
  go_loopw [3, 8] (fun s i wr => ∃ (k r : Nat), k ≤ n ∧ i = .int .i64 k ∧ s = .float .f32 r ∧ Hid (Sm .f32 r (sm f k)) ∧ Hid (∃ m, wr = w.drewN m)) (fun _ i _ => n - (intOf i).toNat)
  case atStart => exact ⟨0, 0, by omega, rfl, rfl, .inl rfl, 0, rfl⟩
  case round =>
    obtain ⟨k, r, hk, rfl, rfl, hs, hm⟩ := hrel
    by_cases hlt : k < n
    · obtain ⟨b, off, rfl, _, hcell⟩ := hc'.out (by omega)
      have e1 : wr.cell? ⟨b, off + k, none⟩ = some (.float .f32 (f k)) := by obtain ⟨m, rfl⟩ := hm.out; exact hcell k hlt
      clear hcell
      have next : ∀ q, Hid (∃ m, wr.drewN q = w.drewN m) := fun q => by obtain ⟨m, rfl⟩ := hm.out; exact ⟨m + q, World.drewN_drewN _ _ _⟩
      clear hm
      go_wp2_with (first | (refine wpList_ar rfl .add 42 42 _ _ rfl (by simp) .f32 _ _ rfl rfl ?_; intro s n3 hm hwm))
      have HS : Hid (Sm .f32 s (sm f (k + 1))) := by
        show Sm _ _ _
        rw [ar_congr (op := .add) hs.out (Sm.refl _ _)] at hm
        exact hm
      clear hm hs
      go_wp2
      go_roundw
      case rel => exact ⟨k + 1, s, by omega, by go_num, rfl, HS, next _⟩
      case measure => simp [intOf]; omega
    · obtain rfl : k = n := by omega
      obtain ⟨m, rfl⟩ := hm.out
      go_wp2
      go_ret
      exact ⟨_, _, rfl, rfl, hs.out⟩
end Go.Proofs.Ytibpahkjjjhapab.fls
