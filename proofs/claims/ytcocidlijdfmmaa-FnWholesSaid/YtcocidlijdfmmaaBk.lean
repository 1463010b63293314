/- slices.Backward over integers: what comes of it. -/
import Derived.RangeFuncBox
import Derived.RangeFuncLeaves
import Derived.RangeFuncBound
import Derived.RangeFuncCalls
import Derived.Shelf.Abstract
import Derived.WalkKit
import Derived.OwnWalkIn
import Derived.TacticsInMore
import Derived.LoopNIn
import Derived.LoopIn
import Derived.Test.YtcocidlijdfmmaaFnA
import Derived.Test.YtcocidlijdfmmaaHr
namespace Go.Proofs.Ytcocidlijdfmmaa.wh
open Go.RowKit Go.Shelf Go.Pl
attribute [local go_sem] Oper.semAt_some

/-- what has come of n ones when k rounds are over: from the last one on -/
def bkl (L : List Int) (k : Nat) : List (Nat × Int) := (List.range k).map fun j => (L.length - 1 - j, at' L (L.length - 1 - j))
theorem bkl_succ (L : List Int) (k : Nat) : bkl L (k + 1) = bkl L k ++ [(L.length - 1 - k, at' L (L.length - 1 - k))] := by simp [bkl, List.range_succ]
theorem bkl_len (L : List Int) (k : Nat) : (bkl L k).length = k := by simp [bkl]

/-- what lay below n₀, and the block Bs, lie as they lay -/
def KB (n₀ Bs : Nat) (W W' : World) : Prop := Below n₀ W W' ∧ W'.heap[Bs]? = W.heap[Bs]?
theorem KB.refl (n₀ Bs : Nat) (W : World) : KB n₀ Bs W W := ⟨Below.refl _ _, rfl⟩
theorem KB.trans {n₀ Bs : Nat} {A B C : World} (h : KB n₀ Bs A B) (k : KB n₀ Bs B C) : KB n₀ Bs A C := ⟨h.1.trans k.1, k.2.trans h.2⟩
theorem KB.own {n₀ Bs : Nat} {A B : World} (h : KB n₀ Bs A B) (o : Nat) : B.cell? ⟨Bs, o, none⟩ = A.cell? ⟨Bs, o, none⟩ := by
  simp only [World.cell?, h.2]
theorem kb_b {n₀ Bs : Nat} {w : World} (hn : n₀ ≤ w.heap.size) (hB : Bs < w.heap.size) (W : World) (l : Nat) (o o' : Obj) (hl : w.heap.size ≤ l) (h : W.heap[l]? = some o) (h1 : o.isCells = false) (h2 : o.isWalk = false) : KB n₀ Bs W (W.putObj l o') :=
  ⟨belowK_b hn W l o o' hl h h1 h2, (belowK_b (n₀ := w.heap.size) (Nat.le_refl _) W l o o' hl h h1 h2).block Bs hB⟩

set_option maxRecDepth 100000 in
set_option maxHeartbeats 2000000 in
theorem bk1_in (F : Fence) (n : Nat) (h8 : F.fn 40) (hro : F.round = none) (hn : 1 ≤ n) (l Bs n₀ b off cap : Nat) (L : List Int) (hL : L.length ≤ 1048576) (hb : b < n₀) (J Jx : List (Nat × Int) → World → Prop)
    (hY : ∀ pre x W, J pre W → pre.length < L.length → YieldAt F (n - 1) Try.prog l #[.int .i64 (x.1 : Int), .int .i64 x.2] W fun e W' =>
      (e = .returned (.bool true) ∧ J (pre ++ [x]) W' ∧ KB n₀ Bs W W') ∨ (e = .returned (.bool false) ∧ Jx (pre ++ [x]) W'))
    (W : World) (hBs : W.cell? ⟨Bs, 0, none⟩ = some (.slice (some ⟨b, off, none⟩) L.length cap)) (hc : ∀ j, j < L.length → W.cell? ⟨b, off + j, none⟩ = some (.int .i64 (at' L j))) (h0 : J [] W) :
    CallsIn F n Try.prog 40 #[.func (.yield l) #[] #[], .pointer (some ⟨Bs, 0, none⟩)] W fun e W' => (∃ v, e = .returned v) ∧
      ((∃ ys, ys = bkl L L.length ∧ J ys W') ∨ (∃ pre, (∃ k, k ≤ L.length ∧ pre = bkl L k) ∧ Jx pre W')) := by
  refine callsIn_of_wp Try.func40 rfl h8 ?_ hro
  simp only [Try.ntmps40, List.size_toArray, List.length_cons, List.length_nil, Nat.reduceAdd, Nat.reduceSub, Array.replicate_succ, Array.replicate_zero, List.push_toArray, List.append_toArray, List.nil_append, List.cons_append]
  obtain ⟨m, hm⟩ : ∃ m, m = L.length := ⟨_, rfl⟩
  rw [← hm] at hBs
  have HM : Hid (m = L.length) := hm
  clear hm
  have hmb : m ≤ 1048576 := by have := HM.out; omega
  gi_wp2
  gi_loopw [3] (fun i wr => ∃ k : Nat, k ≤ m ∧ i = .int .i64 ((m : Int) - 1 - k) ∧ J (bkl L k) wr ∧ KB n₀ Bs W wr)
    (fun i _ => (intOf i + 1).toNat)
  case atStart => exact ⟨0, Nat.zero_le _, by first | (go_num; done) | (congr 1; omega) | (simp; omega), h0, KB.refl _ _ _⟩
  case round =>
    obtain ⟨k, hk, rfl, hJs, hnx⟩ := hrel
    have cB : wr.cell? ⟨Bs, 0, none⟩ = some (.slice (some ⟨b, off, none⟩) m cap) := (hnx.own 0).trans hBs
    by_cases hlt : k < m
    · have hcx : wr.cell? ⟨b, off + (m - 1 - k), none⟩ = some (.int .i64 (at' L (m - 1 - k))) := (hnx.1.cell (p := ⟨b, off + (m - 1 - k), none⟩) hb).trans (hc _ (by have := HM.out; omega))
      obtain ⟨fn, tmps, assign, body, hy, hR⟩ := hY _ (m - 1 - k, at' L (m - 1 - k)) wr hJs (by rw [bkl_len]; have := HM.out; omega)
      dsimp only at hy
      have q1 : ((m - 1 - k : Nat) : Int) = (m : Int) - 1 - (k : Int) := by omega
      have q2 : ((m : Int) - 1 - (k : Int)).toNat = m - 1 - k := by omega
      rw [q1] at hy
      gi_wp2
      refine hR.mono ?_
      rintro e W3 (⟨rfl, hJ3, hk3⟩ | ⟨rfl, hJx3⟩)
      · gi_wp2
        go_roundw
        case rel => exact ⟨k + 1, by omega, by first | (go_num; done) | (congr 1; omega) | (simp; omega), by rw [bkl_succ, ← HM.out]; exact hJ3, hnx.trans hk3⟩
        case measure => simp [intOf]; omega
      · gi_wp2
        refine bodyPost_ret (results_none rfl _ _ _) rfl ?_
        exact ⟨⟨_, rfl⟩, .inr ⟨_, ⟨k + 1, by have := HM.out; omega, by rw [bkl_succ, ← HM.out]⟩, hJx3⟩⟩
    · obtain rfl : k = m := by omega
      gi_wp2
      go_end0
      exact ⟨⟨_, rfl⟩, .inl ⟨_, rfl, by rw [← HM.out]; exact hJs⟩⟩

set_option maxHeartbeats 1000000 in
theorem bk_in (F : Fence) (n : Nat) (h6 : F.fn 26) (hro : F.round = none) (a : Option Addr) (len cap : Nat) (w : World) :
    CallsIn F n Try.prog 26 #[.slice a len cap] w fun e w' => e = .returned (.func (.func 40) #[] #[.pointer (some ⟨w.heap.size, 0, none⟩)]) ∧ w' = w.alloc (.cells #[.slice a len cap] 24) := by
  refine callsIn_of_wp Try.func26 rfl h6 ?_ hro
  simp only [Try.ntmps26, List.size_toArray, List.length_cons, List.length_nil, Nat.reduceAdd, Nat.reduceSub, Array.replicate_succ, Array.replicate_zero, List.push_toArray, List.append_toArray, List.nil_append, List.cons_append]
  gi_wp2
  go_ret
  exact ⟨rfl, rfl⟩

/-- at a list that is not empty, kept in a block below n₀ -/
theorem bk_stops (F : Fence) (n : Nat) (h8 : F.fn 40) (hro : F.round = none) (hn : 1 ≤ n) (Bs n₀ b off cap : Nat) (L : List Int) (hL : L.length ≤ 1048576) (w : World) (hBs : Bs < w.heap.size) (hn₀ : n₀ ≤ w.heap.size)
    (hc : w.cell? ⟨Bs, 0, none⟩ = some (.slice (some ⟨b, off, none⟩) L.length cap)) (hb : b < n₀) (hI : ∀ j, j < L.length → w.cell? ⟨b, off + j, none⟩ = some (.int .i64 (at' L j))) :
    SeqStopsK F n Try.prog 40 #[.pointer (some ⟨Bs, 0, none⟩)] (fun x : Nat × Int => #[Value.int .i64 (x.1 : Int), Value.int .i64 x.2]) (KB n₀ Bs) (fun ys => ys = bkl L L.length)
      (fun pre => ∃ k, k ≤ L.length ∧ pre = bkl L k) L.length w := fun l J Jx W hW _ _ hY h0 =>
  bk1_in F n h8 hro hn l Bs n₀ b off cap L hL hb J Jx hY W ((hW.cell (p := ⟨Bs, 0, none⟩) hBs).trans hc) (fun j hj => ((hW.mono hn₀).cell (p := ⟨b, off + j, none⟩) hb).trans (hI j hj)) h0
end Go.Proofs.Ytcocidlijdfmmaa.wh
