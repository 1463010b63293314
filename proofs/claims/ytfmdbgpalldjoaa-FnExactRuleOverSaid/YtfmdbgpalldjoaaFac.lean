/- Two lists of integers that face each other: what comes of ranging over them, and the sum of their products. -/
import Derived.Test.YtfmdbgpalldjoaaRuF
import Derived.RangeFuncBox
import Derived.RangeFuncLeaves
import Derived.RangeFuncBound
import Derived.RangeFuncCalls
import Derived.Shelf.Abstract
import Derived.OwnWalkIn
import Derived.TacticsInMore
import Derived.LoopNIn
import Derived.LoopIn
namespace Go.Proofs.Ytfmdbgpalldjoaa.ru
open Go.RowKit Go.Shelf Go.Pl Go.Ru Go.Proofs.Ytfmdbgpalldjoaa.wh
attribute [local go_sem] Oper.semAt_some

/-- what has come when k rounds are over -/
def fcl (A B : List Int) (k : Nat) : List (Int × Int) := (List.range k).map fun j => (at' A j, at' B (B.length - 1 - j))
theorem fcl_succ (A B : List Int) (k : Nat) : fcl A B (k + 1) = fcl A B k ++ [(at' A k, at' B (B.length - 1 - k))] := by simp [fcl, List.range_succ]
theorem fcl_len (A B : List Int) (k : Nat) : (fcl A B k).length = k := by simp [fcl]

/-- what lay below n₀, and the blocks Ba and Bb, lie as they lay -/
def KC (n₀ Ba Bb : Nat) (W W' : World) : Prop := Below n₀ W W' ∧ W'.heap[Ba]? = W.heap[Ba]? ∧ W'.heap[Bb]? = W.heap[Bb]?
theorem KC.refl (n₀ Ba Bb : Nat) (W : World) : KC n₀ Ba Bb W W := ⟨Below.refl _ _, rfl, rfl⟩
theorem KC.trans {n₀ Ba Bb : Nat} {A B C : World} (h : KC n₀ Ba Bb A B) (k : KC n₀ Ba Bb B C) : KC n₀ Ba Bb A C := ⟨h.1.trans k.1, k.2.1.trans h.2.1, k.2.2.trans h.2.2⟩
theorem KC.owna {n₀ Ba Bb : Nat} {A B : World} (h : KC n₀ Ba Bb A B) (o : Nat) : B.cell? ⟨Ba, o, none⟩ = A.cell? ⟨Ba, o, none⟩ := by
  simp only [World.cell?, h.2.1]
theorem KC.ownb {n₀ Ba Bb : Nat} {A B : World} (h : KC n₀ Ba Bb A B) (o : Nat) : B.cell? ⟨Bb, o, none⟩ = A.cell? ⟨Bb, o, none⟩ := by
  simp only [World.cell?, h.2.2]
theorem kc_b {n₀ Ba Bb : Nat} {w : World} (hn : n₀ ≤ w.heap.size) (hA : Ba < w.heap.size) (hB : Bb < w.heap.size) (W : World) (l : Nat) (o o' : Obj) (hl : w.heap.size ≤ l) (h : W.heap[l]? = some o) (h1 : o.isCells = false) (h2 : o.isWalk = false) : KC n₀ Ba Bb W (W.putObj l o') :=
  ⟨belowK_b hn W l o o' hl h h1 h2, (belowK_b (n₀ := w.heap.size) (Nat.le_refl _) W l o o' hl h h1 h2).block Ba hA, (belowK_b (n₀ := w.heap.size) (Nat.le_refl _) W l o o' hl h h1 h2).block Bb hB⟩

set_option maxRecDepth 100000 in
set_option maxHeartbeats 2000000 in
theorem fc1_in (F : Fence) (n : Nat) (h8 : F.fn 97) (hro : F.round = none) (hn : 1 ≤ n) (l Ba Bb n₀ : Nat) (ba oa ca bb ob cb : Nat) (A B : List Int) (hL : A.length ≤ 1048576) (hAB : A.length = B.length) (hba : ba < n₀) (hbb : bb < n₀) (J Jx : List (Int × Int) → World → Prop)
    (hY : ∀ pre x W, J pre W → pre.length < A.length → YieldAt F (n - 1) Try.prog l #[.int .i64 x.1, .int .i64 x.2] W fun e W' =>
      (e = .returned (.bool true) ∧ J (pre ++ [x]) W' ∧ KC n₀ Ba Bb W W') ∨ (e = .returned (.bool false) ∧ Jx (pre ++ [x]) W'))
    (W : World) (hBa : W.cell? ⟨Ba, 0, none⟩ = some (.slice (some ⟨ba, oa, none⟩) A.length ca)) (hBb : W.cell? ⟨Bb, 0, none⟩ = some (.slice (some ⟨bb, ob, none⟩) B.length cb))
    (hcA : ∀ j, j < A.length → W.cell? ⟨ba, oa + j, none⟩ = some (.int .i64 (at' A j))) (hcB : ∀ j, j < B.length → W.cell? ⟨bb, ob + j, none⟩ = some (.int .i64 (at' B j))) (h0 : J [] W) :
    CallsIn F n Try.prog 97 #[.func (.yield l) #[] #[], .pointer (some ⟨Ba, 0, none⟩), .pointer (some ⟨Bb, 0, none⟩)] W fun e W' => (∃ v, e = .returned v) ∧
      ((∃ ys, ys = fcl A B A.length ∧ J ys W') ∨ (∃ pre, (∃ k, k ≤ A.length ∧ pre = fcl A B k) ∧ Jx pre W')) := by
  refine callsIn_of_wp Try.func97 rfl h8 ?_ hro
  simp only [Try.ntmps97, List.size_toArray, List.length_cons, List.length_nil, Nat.reduceAdd, Nat.reduceSub, Array.replicate_succ, Array.replicate_zero, List.push_toArray, List.append_toArray, List.nil_append, List.cons_append]
  obtain ⟨m, hm⟩ : ∃ m, m = A.length := ⟨_, rfl⟩
  have HM2 : Hid (m = B.length) := by show m = _; omega
  rw [← hm] at hBa
  rw [show B.length = m from HM2.out.symm] at hBb
  have HM : Hid (m = A.length) := hm
  clear hm hAB
  have hmb : m ≤ 1048576 := by have := HM.out; omega
  gi_wp2
  gi_loopw [8] (fun i wr => ∃ k : Nat, k ≤ m ∧ i = .int .i64 (k : Int) ∧ J (fcl A B k) wr ∧ KC n₀ Ba Bb W wr)
    (fun i _ => m - (intOf i).toNat)
  case atStart => exact ⟨0, Nat.zero_le _, rfl, h0, KC.refl _ _ _ _⟩
  case round =>
    obtain ⟨k, hk, rfl, hJs, hnx⟩ := hrel
    have cA : wr.cell? ⟨Ba, 0, none⟩ = some (.slice (some ⟨ba, oa, none⟩) m ca) := (hnx.owna 0).trans hBa
    have cB : wr.cell? ⟨Bb, 0, none⟩ = some (.slice (some ⟨bb, ob, none⟩) m cb) := (hnx.ownb 0).trans hBb
    by_cases hlt : k < m
    · have hcx : wr.cell? ⟨ba, oa + k, none⟩ = some (.int .i64 (at' A k)) := (hnx.1.cell (p := ⟨ba, oa + k, none⟩) hba).trans (hcA _ (by have := HM.out; omega))
      have hcy : wr.cell? ⟨bb, ob + (m - 1 - k), none⟩ = some (.int .i64 (at' B (m - 1 - k))) := (hnx.1.cell (p := ⟨bb, ob + (m - 1 - k), none⟩) hbb).trans (hcB _ (by have := HM2.out; omega))
      obtain ⟨fn, tmps, assign, body, hy, hR⟩ := hY _ (at' A k, at' B (m - 1 - k)) wr hJs (by rw [fcl_len]; have := HM.out; omega)
      dsimp only at hy
      have q2 : ((m : Int) - 1 - (k : Int)).toNat = m - 1 - k := by omega
      have HS : Hid (fcl A B (k + 1) = fcl A B k ++ [(at' A k, at' B (m - 1 - k))]) := by show _ = _; rw [fcl_succ, HM2.out]
      gi_wp2
      refine hR.mono ?_
      rintro e W3 (⟨rfl, hJ3, hk3⟩ | ⟨rfl, hJx3⟩)
      · gi_wp2
        go_roundw
        case rel => exact ⟨k + 1, by omega, by go_num, by rw [HS.out]; exact hJ3, hnx.trans hk3⟩
        case measure => simp [intOf]; omega
      · gi_wp2
        refine bodyPost_ret (results_none rfl _ _ _) rfl ?_
        exact ⟨⟨_, rfl⟩, .inr ⟨_, ⟨k + 1, by have := HM.out; omega, by rw [HS.out]⟩, hJx3⟩⟩
    · obtain rfl : k = m := by omega
      gi_wp2
      go_end0
      exact ⟨⟨_, rfl⟩, .inl ⟨_, rfl, by rw [← HM.out]; exact hJs⟩⟩

set_option maxHeartbeats 1000000 in
theorem fc_in (F : Fence) (n : Nat) (h6 : F.fn 70) (hro : F.round = none) (ax ay : Option Addr) (nx cx ny cy : Nat) (w : World) :
    CallsIn F n Try.prog 70 #[.slice ax nx cx, .slice ay ny cy] w fun e w' => e = .returned (.func (.func 97) #[] #[.pointer (some ⟨w.heap.size, 0, none⟩), .pointer (some ⟨w.heap.size + 1, 0, none⟩)]) ∧ w' = (w.alloc (.cells #[.slice ax nx cx] 22)).alloc (.cells #[.slice ay ny cy] 22) := by
  refine callsIn_of_wp Try.func70 rfl h6 ?_ hro
  simp only [Try.ntmps70, List.size_toArray, List.length_cons, List.length_nil, Nat.reduceAdd, Nat.reduceSub, Array.replicate_succ, Array.replicate_zero, List.push_toArray, List.append_toArray, List.nil_append, List.cons_append]
  gi_wp2
  go_ret
  exact ⟨rfl, rfl⟩

/-- at lists that are not empty, kept in blocks below n₀ -/
theorem fc_stops (F : Fence) (n : Nat) (h8 : F.fn 97) (hro : F.round = none) (hn : 1 ≤ n) (Ba Bb n₀ ba oa ca bb ob cb : Nat) (A B : List Int) (hL : A.length ≤ 1048576) (hAB : A.length = B.length) (w : World) (hBa : Ba < w.heap.size) (hBb : Bb < w.heap.size) (hn₀ : n₀ ≤ w.heap.size)
    (hca : w.cell? ⟨Ba, 0, none⟩ = some (.slice (some ⟨ba, oa, none⟩) A.length ca)) (hcb : w.cell? ⟨Bb, 0, none⟩ = some (.slice (some ⟨bb, ob, none⟩) B.length cb)) (hba : ba < n₀) (hbb : bb < n₀)
    (hIa : ∀ j, j < A.length → w.cell? ⟨ba, oa + j, none⟩ = some (.int .i64 (at' A j))) (hIb : ∀ j, j < B.length → w.cell? ⟨bb, ob + j, none⟩ = some (.int .i64 (at' B j))) :
    SeqStopsK F n Try.prog 97 #[.pointer (some ⟨Ba, 0, none⟩), .pointer (some ⟨Bb, 0, none⟩)] (fun x : Int × Int => #[Value.int .i64 x.1, Value.int .i64 x.2]) (KC n₀ Ba Bb) (fun ys => ys = fcl A B A.length)
      (fun pre => ∃ k, k ≤ A.length ∧ pre = fcl A B k) A.length w := fun l J Jx W hW _ _ hY h0 =>
  fc1_in F n h8 hro hn l Ba Bb n₀ ba oa ca bb ob cb A B hL hAB hba hbb J Jx hY W ((hW.cell (p := ⟨Ba, 0, none⟩) hBa).trans hca) ((hW.cell (p := ⟨Bb, 0, none⟩) hBb).trans hcb)
    (fun j hj => ((hW.mono hn₀).cell (p := ⟨ba, oa + j, none⟩) hba).trans (hIa j hj)) (fun j hj => ((hW.mono hn₀).cell (p := ⟨bb, ob + j, none⟩) hbb).trans (hIb j hj)) h0
end Go.Proofs.Ytfmdbgpalldjoaa.ru
