/- Values at integers: both sides. -/
import Derived.Test.YtcaknphahmdkbaaBk
namespace Go.Proofs.Ytcaknphahmdkbaa.wh
open Go.RowKit Go.Shelf Go.Pl
attribute [local go_sem] Oper.semAt_some

/-- nested steps, each one wrapped -/
def wf (x : Int) : List (Nat × Int) → Int := List.foldl (fun s p => wrap64 (wrap64 (s * x) + p.2)) 0
theorem wf_snoc (x : Int) (pre : List (Nat × Int)) (p : Nat × Int) : wf x (pre ++ [p]) = wrap64 (wrap64 (wf x pre * x) + p.2) := by simp [wf]
theorem wf_hor {L : List Int} {x : Int} : ∀ k : Nat, (∀ j, j < k → -9000000000000000000 ≤ hor L x j * x ∧ hor L x j * x ≤ 9000000000000000000 ∧ -9000000000000000000 ≤ hor L x (j + 1) ∧ hor L x (j + 1) ≤ 9000000000000000000) → wf x (bkl L k) = hor L x k
  | 0, _ => rfl
  | k + 1, h => by
    obtain ⟨h1, h2, h3, h4⟩ := h k (by omega)
    have e := hor_succ L x k
    rw [bkl_succ, wf_snoc, wf_hor k (fun j hj => h j (by omega)), IntWalk.wrap64_in (hor L x k * x) (by omega)]
    show wrap64 (hor L x k * x + at' L (L.length - 1 - k)) = _
    rw [← e, IntWalk.wrap64_in _ (by omega)]
theorem valR_bd {L : List Int} (h : ValR L) {x : Int} (hx : -50 ≤ x ∧ x ≤ 50) (j : Nat) (hj : j < 9) : -9000000000000000000 ≤ hor L x j * x ∧ hor L x j * x ≤ 9000000000000000000 ∧ -9000000000000000000 ≤ hor L x (j + 1) ∧ hor L x (j + 1) ≤ 9000000000000000000 := by
  have h1 := hor_bd h hx j
  have h2 := hor_bd h hx (j + 1)
  have h3 := mul_ab h1 hx
  have h4 := (pow51 j (by omega)).2
  have h5 := (pow51 (j + 1) (by omega)).2
  have h6 : (51 : Int) ^ (j + 1) = 51 ^ j * 51 := Int.pow_succ _ _
  have h7 : (51 : Int) ^ 9 = 2334165173090451 := by decide
  rw [h7] at h4 h5
  generalize (51 : Int) ^ (j + 1) = E' at *
  generalize (51 : Int) ^ j = E at *
  refine ⟨?_, ?_, ?_, ?_⟩ <;> omega
theorem val_hor {L : List Int} (h : ValR L) {x : Int} (hx : -50 ≤ x ∧ x ≤ 50) : wf x (bkl L L.length) = hor L x L.length :=
  wf_hor _ fun j hj => valR_bd h hx j (by have := h.le; omega)

set_option maxRecDepth 100000 in
set_option maxHeartbeats 2000000 in
theorem ivalue_in (F : Fence) (n : Nat) (h3 : F.fn 70) (h6 : F.fn 82) (h8 : F.fn 99) (hro : F.round = none) (hn : 3 ≤ n) {v : Value} {L : List Int} {w : World} (h : Ls w v L) (hv : ValR L) (x : Int) (hx : -50 ≤ x ∧ x ≤ 50) :
    CallsIn F n Try.prog 70 #[v, .int .i64 x] w fun e W' => e = .returned (.int .i64 (hor L x L.length)) ∧ Below w.heap.size w W' := by
  have h1 : 1 ≤ n := by omega
  obtain ⟨ao, cap, rfl, _, hcap, hc⟩ := h
  have hp := hv.pos
  have h9 := hv.le
  have HW : Hid (wf x (bkl L L.length) = hor L x L.length) := val_hor hv hx
  obtain ⟨b, off, rfl, hbw, hcell⟩ := hc (by omega)
  refine callsIn_of_wp_marks Try.func70 rfl h3 ?_ hro
  simp only [Try.ntmps70, List.size_toArray, List.length_cons, List.length_nil, Nat.reduceAdd, Nat.reduceSub, Array.replicate_succ, Array.replicate_zero, List.push_toArray, List.append_toArray, List.nil_append, List.cons_append]
  gi_wp2_with (gi_at_call 82; refine (bk_in F (n - 1) h6 hro _ _ _ _).mono ?_; rintro e w' ⟨rfl, rfl⟩)
  have hB0 : Below w.heap.size w (((w.alloc (.cells #[.int .i64 x] 2)).alloc (.cells #[.int .i64 0] 2)).alloc (.cells #[.slice (some ⟨b, off, none⟩) L.length cap] 22)) := new3 w _ _ _
  have bX := Bx.alloc (Bx.alloc (Bx.new w (.int .i64 x) 2) (.cells #[.int .i64 0] 2)) (.cells #[.slice (some ⟨b, off, none⟩) L.length cap] 22)
  have bV := Bx.alloc (Bx.new2 w (.int .i64 0) 2 (.cells #[.int .i64 x] 2)) (.cells #[.slice (some ⟨b, off, none⟩) L.length cap] 22)
  have bS := Bx.new3 w (.slice (some ⟨b, off, none⟩) L.length cap) 22 (.cells #[.int .i64 x] 2) (.cells #[.int .i64 0] 2)
  refine wpIn_rangeFunc_ownG hro h1 (gf := 99) (lb := #[.pointer (some ⟨w.heap.size + 1 + 1, 0, none⟩)]) rfl h8 (enters_of Try.func99 (by kernel_rfl) rfl)
    (bk_stops F (n - 1) h8 hro (by omega) (w.heap.size + 1 + 1) w.heap.size b off cap L (by omega) _ (by simp) (by simp; omega) bS.cell hbw (fun j hj => (hB0.cell (p := ⟨b, off + j, none⟩) hbw).trans (hcell j _ (at_some L j hj)))) KB.trans (kb_b (by simp; omega) (by simp)) (Below.refl _ _) (fun _ => rfl)
    (fun pre W => (W.cell? ⟨w.heap.size + 1, 0, none⟩ = some (.int .i64 (wf x pre)) ∧ W.frozen? ⟨w.heap.size + 1, 0, none⟩ = false ∧ W.cell? ⟨w.heap.size, 0, none⟩ = some (.int .i64 x)) ∧ Below w.heap.size w W)
    (fun _ _ _ => False)
    (OwnFrom.and (Own.from (fun s A B row hs hg hr => ⟨cell_kept hs.1 hg hr, (frozen_kept hs.1 hg hr).trans hs.2.1, cell_kept hs.2.2 hg hr⟩) _) (ownFrom_below (Nat.le_refl _) (by simp; omega)))
    (fun _ _ _ _ _ hs _ _ => hs)
    ⟨⟨bV.cell, bV.free, bX.cell⟩, hB0⟩
    (fun y => { tmps := #[.slice (some ⟨b, off, none⟩) L.length cap, .int .i64 x, undef, .pointer (some ⟨w.heap.size, 0, none⟩), .int .i64 0, .pointer (some ⟨w.heap.size + 1, 0, none⟩), undef, .int .i64 y.2, .slice (some ⟨b, off, none⟩) L.length cap, .func (.func 99) #[] #[.pointer (some ⟨w.heap.size + 1 + 1, 0, none⟩)], .int .i64 (y.1 : Int), .int .i64 y.2, undef, undef, undef, undef, undef, undef], defers := [] }) ?assign ?body ?done ?stop
  case assign =>
    intro l x W K hK
    gi_wp2
    exact hK
  case body =>
    rintro l pre y W ⟨⟨hc, hf, hx'⟩, hB⟩ _
    gi_wp2
    exact ⟨(KeepsOthers.setCell _ _ _).from _, ⟨(Below.refl w.heap.size W).setCell (p := ⟨w.heap.size + 1, 0, none⟩) (by simp) _, Below.heap_setCell _ _ _ _ (by simp)⟩, ⟨by rw [wf_snoc]; exact World.cell?_setCell_same' _ _ _ (by rw [hc]; rfl), by rw [World.frozen?_setCell]; exact hf, by rw [World.cell?_setCell_other _ _ _ _ (show (⟨w.heap.size + 1, 0, none⟩ : Addr) ≠ ⟨w.heap.size, 0, none⟩ by simp)]; exact hx'⟩, hB.setCell (p := ⟨w.heap.size + 1, 0, none⟩) (by simp) _⟩
  case done =>
    rintro D ys W hD rfl ⟨⟨hc, _, _⟩, hB⟩ hK
    gi_wp2
    refine ⟨by simp, .inl ⟨_, _, rfl, run_takeDeferred hK, ?_⟩⟩
    exact ⟨_, results_tmp rfl _ _ _, by rw [← HW.out]; rfl, hB.trans (belowK_b (w := w) (Nat.le_refl _) W D _ _ (by simp at hD; omega) hK rfl rfl)⟩
  case stop =>
    rintro D c pre W _ _ h _
    exact h.elim

theorem ivalue_any {v : Value} {L : List Int} {w : World} (h : Ls w v L) (hv : ValR L) (x : Int) (hx : -50 ≤ x ∧ x ≤ 50) :
    Calls Try.prog 70 #[v, .int .i64 x] w fun e W' => e = .returned (.int .i64 (hor L x L.length)) ∧ Below w.heap.size w W' :=
  (callsIn_wide (n := 3)).1 (ivalue_in _ 3 trivial trivial trivial rfl (by omega) h hv x hx)

set_option maxRecDepth 100000 in
theorem sint_any {bx : Nat} {s : Value} {L : List Int} {w : World} (hb : w.cell? ⟨bx, 0, none⟩ = some s) (h : Ls w s L) (hv : ValR L) (x : Int) (hx : -50 ≤ x ∧ x ≤ 50) :
    Calls Try.prog 69 #[.pointer (some ⟨bx, 0, none⟩), .int .i64 x] w fun e w' => e = .returned (.int .i64 (hor L x L.length)) ∧ w' = w := by
  obtain ⟨ao, cap, rfl, _, hcap, hc⟩ := h
  have hp := hv.pos
  have h9 := hv.le
  have HB : Hid (∀ j, j < L.length → -9000000000000000000 ≤ hor L x j * x ∧ hor L x j * x ≤ 9000000000000000000 ∧ -9000000000000000000 ≤ hor L x (j + 1) ∧ hor L x (j + 1) ≤ 9000000000000000000) := fun j hj => valR_bd hv hx j (by omega)
  obtain ⟨b, off, rfl, hbw, hcell⟩ := hc (by omega)
  have HC : Hid (∀ (k : Nat) (z : Int), L[k]? = some z → w.cell? ⟨b, off + k, none⟩ = some (.int .i64 z)) := hcell
  obtain ⟨n, hnn⟩ : ∃ n, n = L.length := ⟨_, rfl⟩
  rw [← hnn] at hcap hp h9 hb
  have HN : Hid (n = L.length) := hnn
  clear hc hcell hnn hv
  go_enter Try.func69, Try.ntmps69
  go_wp2_with fail
  go_loop [5, 6] (fun p i => ∃ k : Nat, k ≤ n ∧ p = .int .i64 (hor L x k) ∧ i = .int .i64 ((n : Int) - 1 - k)) (fun _ i => (intOf i + 1).toNat)
  case atStart => exact ⟨0, by omega, rfl, by first | (go_num; done) | (congr 1; omega) | (simp; omega)⟩
  case round =>
    obtain ⟨k, hk, rfl, rfl⟩ := hrel
    by_cases hlt : k < n
    · have e1 : w.cell? ⟨b, off + (n - 1 - k), none⟩ = some (.int .i64 (at' L (n - 1 - k))) := HC.out _ _ (at_some L _ (by have := HN.out; omega))
      obtain ⟨b1, b2, b3, b4⟩ := HB.out k (by have := HN.out; omega)
      have HS : Hid (hor L x (k + 1) = hor L x k * x + at' L (n - 1 - k)) := by show _ = _; rw [HN.out]; rfl
      rw [HS.out] at b3 b4
      have q2 : ((n : Int) - 1 - (k : Int)).toNat = n - 1 - k := by omega
      obtain ⟨y, hy⟩ : ∃ y, y = at' L (n - 1 - k) := ⟨_, rfl⟩
      obtain ⟨p, hp'⟩ : ∃ p, p = hor L x k := ⟨_, rfl⟩
      rw [← hy] at e1 HS b3 b4
      rw [← hp'] at b1 b2 b3 b4 HS ⊢
      have w1 : IntKind.i64.wrap (p * x) = p * x := IntWalk.i64_in _ (by omega)
      have w2 : wrap64 (p * x) = p * x := IntWalk.wrap64_in _ (by omega)
      have w3 : IntKind.i64.wrap (p * x + y) = p * x + y := IntWalk.i64_in _ (by omega)
      have w4 : wrap64 (p * x + y) = p * x + y := IntWalk.wrap64_in _ (by omega)
      clear hy hp' b1 b2 b3 b4
      go_wp2
      go_round
      case rel => exact ⟨k + 1, by omega, by rw [HS.out], by first | (go_num; done) | (congr 1; omega) | (simp; omega)⟩
      case measure => simp [intOf]; omega
    · obtain rfl : k = n := by omega
      have HZ : Hid (hor L x L.length = hor L x k) := by show _ = _; rw [HN.out]
      go_wp2
      go_ret
      exact ⟨by rw [HZ.out]; rfl, rfl⟩
end Go.Proofs.Ytcaknphahmdkbaa.wh
