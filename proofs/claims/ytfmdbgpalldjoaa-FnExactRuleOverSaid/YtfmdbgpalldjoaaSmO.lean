/- The sum of the products of what faces each other, over a prime. -/
import Derived.Test.YtfmdbgpalldjoaaFac
namespace Go.Proofs.Ytfmdbgpalldjoaa.ru
open Go.RowKit Go.Shelf Go.Pl Go.Ru Go.Proofs.Ytfmdbgpalldjoaa.wh
attribute [local go_sem] Oper.semAt_some

/-- the sum, each step wrapped -/
def wf (pre : List (Int × Int)) : Int := pre.foldl (fun s q => wrap64 (s + wrap64 (q.1 * q.2))) 0
theorem wf_snoc (pre : List (Int × Int)) (q : Int × Int) : wf (pre ++ [q]) = wrap64 (wf pre + wrap64 (q.1 * q.2)) := by
  unfold wf
  rw [List.foldl_append]; rfl
theorem wf_ds {A B : List Int} {p : Int} (hp : 2 ≤ p ∧ p ≤ 13) (hA : inR 0 (p - 1) A) (hB : inR 0 (p - 1) B) : ∀ k : Nat, k ≤ 64 → wf (fcl A B k) = ds A B k
  | 0, _ => rfl
  | k + 1, h => by
    have ih := wf_ds hp hA hB k (by omega)
    have h0 := ds_bd hp hA hB k
    have h1 := hA.at (by omega) (by omega) k
    have h2 := hB.at (by omega) (by omega) (B.length - 1 - k)
    have h3 := mul_ab (A := 12) (B := 12) (a := at' A k) (b := at' B (B.length - 1 - k)) (by omega) (by omega)
    rw [fcl_succ, wf_snoc, ih, ds_succ]
    show wrap64 (ds A B k + wrap64 (at' A k * at' B (B.length - 1 - k))) = _
    rw [IntWalk.wrap64_in (at' A k * at' B (B.length - 1 - k)) (by omega), IntWalk.wrap64_in _ (by omega)]

set_option maxRecDepth 100000 in
set_option maxHeartbeats 3200000 in
theorem isum_pos {A B : List Int} {ba oa ca bb ob cb : Nat} {w : World} {p : Int} (hp : isP p = true) (hn : 1 ≤ A.length ∧ A.length ≤ 64) (hAB : A.length = B.length) (hA : inR 0 (p - 1) A) (hB : inR 0 (p - 1) B)
    (h0 : Ls w (.slice (some ⟨ba, oa, none⟩) A.length ca) A) (h1 : Ls w (.slice (some ⟨bb, ob, none⟩) B.length cb) B) :
    Calls Try.prog 37 #[.slice (some ⟨ba, oa, none⟩) A.length ca, .slice (some ⟨bb, ob, none⟩) B.length cb, .int .i64 p] w fun e w' => e = .returned (.int .i64 (md (ds A B A.length) p)) ∧ Below w.heap.size w w' := by
  have hp2 := isP_le hp
  obtain ⟨_, _, hcA⟩ := h0.use
  obtain ⟨b1, o1, e1, hba, hca⟩ := hcA (by omega)
  obtain ⟨_, _, hcB⟩ := h1.use
  obtain ⟨b2, o2, e2, hbb, hcb⟩ := hcB (by omega)
  obtain ⟨rfl, rfl⟩ : ba = b1 ∧ oa = o1 := by simpa using e1
  obtain ⟨rfl, rfl⟩ : bb = b2 ∧ ob = o2 := by simpa using e2
  have HW : Hid (wf (fcl A B A.length) = ds A B A.length) := wf_ds hp2 hA hB _ hn.2
  have HCA : Hid (∀ j, j < A.length → w.cell? ⟨ba, oa + j, none⟩ = some (.int .i64 (at' A j))) := fun j hj => hca j _ (at_some A j hj)
  have HCB : Hid (∀ j, j < B.length → w.cell? ⟨bb, ob + j, none⟩ = some (.int .i64 (at' B j))) := fun j hj => hcb j _ (at_some B j hj)
  have HLA : Hid (A.length ≤ 1048576) := by show _ ≤ _; omega
  have HAB : Hid (A.length = B.length) := hAB
  have HP : Hid (1 ≤ p ∧ p ≤ 1000000) := ⟨by omega, by omega⟩
  have HBA : Hid (ba < w.heap.size) := hba
  have HBB : Hid (bb < w.heap.size) := hbb
  clear hcA hcB hca hcb e1 e2 h0 h1 hA hB hn hba hbb hp2
  obtain ⟨w3, hw3⟩ : ∃ x, x = ((w.alloc (.cells #[.int .i64 0] 2)).alloc (.cells #[.slice (some ⟨ba, oa, none⟩) A.length ca] 22)).alloc (.cells #[.slice (some ⟨bb, ob, none⟩) B.length cb] 22) := ⟨_, rfl⟩
  have XS : Hid (Bx w3 w.heap.size (.int .i64 0)) := by rw [hw3]; exact Bx.alloc (Bx.alloc (Bx.new _ _ _) _) _
  have XA : Hid (Bx w3 (w.heap.size + 1) (.slice (some ⟨ba, oa, none⟩) A.length ca)) := by rw [hw3]; exact Bx.alloc (Bx.new2 _ _ _ _) _
  have XB : Hid (Bx w3 (w.heap.size + 1 + 1) (.slice (some ⟨bb, ob, none⟩) B.length cb)) := by rw [hw3]; exact Bx.new3 _ _ _ _ _
  have B3 : Hid (Below w.heap.size w w3) := by rw [hw3]; exact new3 _ _ _ _
  have SZ : Hid (w3.heap.size = w.heap.size + 1 + 1 + 1) := by show _ = _; rw [hw3]; simp
  obtain ⟨n, hnn⟩ : ∃ n, n = A.length := ⟨_, rfl⟩
  obtain ⟨m, hmm⟩ : ∃ m, m = B.length := ⟨_, rfl⟩
  have HN : Hid (n = A.length) := hnn
  have HM : Hid (m = B.length) := hmm
  rw [← hnn] at hw3 XA HW ⊢
  rw [← hmm] at hw3 XB ⊢
  clear hnn hmm hAB
  refine (callsIn_wide (n := 4)).1 ?_
  refine callsIn_of_wp_marks Try.func37 rfl trivial ?_ rfl
  simp only [Try.ntmps37, List.size_toArray, List.length_cons, List.length_nil, Nat.reduceAdd, Nat.reduceSub, Array.replicate_succ, Array.replicate_zero, List.push_toArray, List.append_toArray, List.nil_append, List.cons_append]
  gi_wp2_with (first | (refine ⟨trivial, ?_⟩; refine (fc_in Fence.wide _ trivial rfl _ _ _ _ _ _ _).mono ?_; rintro e w' ⟨rfl, rfl⟩))
  rw [← hw3]
  clear hw3
  refine wpIn_rangeFunc_ownG rfl (by omega) (gf := 97) (lb := #[.pointer (some ⟨w.heap.size + 1, 0, none⟩), .pointer (some ⟨w.heap.size + 1 + 1, 0, none⟩)]) rfl trivial (enters_of Try.func97 (by kernel_rfl) rfl)
    (fc_stops Fence.wide 3 trivial rfl (by omega) (w.heap.size + 1) (w.heap.size + 1 + 1) w.heap.size ba oa ca bb ob cb A B HLA.out HAB.out w3 XA.out.lt XB.out.lt (by have := SZ.out; omega) (by rw [← HN.out]; exact XA.out.cell) (by rw [← HM.out]; exact XB.out.cell) HBA.out HBB.out
      (fun j hj => (B3.out.cell (p := ⟨ba, oa + j, none⟩) HBA.out).trans (HCA.out j hj)) (fun j hj => (B3.out.cell (p := ⟨bb, ob + j, none⟩) HBB.out).trans (HCB.out j hj)))
    KC.trans (kc_b (by have := SZ.out; omega) XA.out.lt XB.out.lt) (Below.refl _ _) (fun _ => rfl)
    (fun pre W => (W.cell? ⟨w.heap.size, 0, none⟩ = some (.int .i64 (wf pre)) ∧ W.frozen? ⟨w.heap.size, 0, none⟩ = false) ∧ Below w.heap.size w W)
    (fun _ _ _ => False)
    (OwnFrom.and (Own.from (fun s A B row hs hg hr => ⟨cell_kept hs.1 hg hr, (frozen_kept hs.1 hg hr).trans hs.2⟩) _) (ownFrom_below (Nat.le_refl _) (by have := SZ.out; omega)))
    (fun _ _ _ _ _ hs _ _ => hs)
    ⟨⟨XS.out.cell, XS.out.free⟩, B3.out⟩
    (fun y => { tmps := #[.slice (some ⟨ba, oa, none⟩) n ca, .slice (some ⟨bb, ob, none⟩) m cb, .int .i64 p, undef, undef, undef, .int .i64 0, .pointer (some ⟨w.heap.size, 0, none⟩), .int .i64 y.1, .int .i64 y.2, .slice (some ⟨ba, oa, none⟩) n ca, .slice (some ⟨bb, ob, none⟩) m cb,
        .func (.func 97) #[] #[.pointer (some ⟨w.heap.size + 1, 0, none⟩), .pointer (some ⟨w.heap.size + 1 + 1, 0, none⟩)], .int .i64 y.1, .int .i64 y.2, undef, undef, undef, undef, undef, undef, undef, undef], defers := [] }) ?assign ?body ?done ?stop
  case assign =>
    intro l x W K hK
    gi_wp2
    exact hK
  case body =>
    rintro l pre y W ⟨⟨h1, h2⟩, hB⟩ _
    have HSZ : w.heap.size + 1 + 1 + 1 = w3.heap.size := SZ.out.symm
    obtain ⟨s, hs⟩ : ∃ s, s = wf pre := ⟨_, rfl⟩
    have HS : Hid (wf (pre ++ [y]) = wrap64 (s + wrap64 (y.1 * y.2))) := by show _ = _; rw [hs]; exact wf_snoc pre y
    rw [← hs] at h1
    clear hs
    have g1 : Hid ((W.setCell ⟨w.heap.size, 0, none⟩ (.int .i64 (wrap64 (s + wrap64 (y.1 * y.2))))).cell? ⟨w.heap.size, 0, none⟩ = some (.int .i64 (wrap64 (s + wrap64 (y.1 * y.2))))) := World.cell?_setCell_same' _ _ _ (by rw [h1]; rfl)
    have g2 : Hid ((W.setCell ⟨w.heap.size, 0, none⟩ (.int .i64 (wrap64 (s + wrap64 (y.1 * y.2))))).frozen? ⟨w.heap.size, 0, none⟩ = false) := by show _ = _; rw [World.frozen?_setCell]; exact h2
    have HBs : Hid (Below w.heap.size W (W.setCell ⟨w.heap.size, 0, none⟩ (.int .i64 (wrap64 (s + wrap64 (y.1 * y.2)))))) := (Below.refl w.heap.size W).setCell (p := ⟨w.heap.size, 0, none⟩) (Nat.le_refl _) _
    have HG1 : Hid ((W.setCell ⟨w.heap.size, 0, none⟩ (.int .i64 (wrap64 (s + wrap64 (y.1 * y.2))))).heap[w.heap.size + 1]? = W.heap[w.heap.size + 1]?) := Below.heap_setCell _ _ _ _ (by simp)
    have HG2 : Hid ((W.setCell ⟨w.heap.size, 0, none⟩ (.int .i64 (wrap64 (s + wrap64 (y.1 * y.2))))).heap[w.heap.size + 1 + 1]? = W.heap[w.heap.size + 1 + 1]?) := Below.heap_setCell _ _ _ _ (by simp; omega)
    gi_wp2_with fail
    exact ⟨(KeepsOthers.setCell _ _ _).from _, ⟨HBs.out, HG1.out, HG2.out⟩, ⟨by rw [HS.out]; exact g1.out, g2.out⟩, hB.trans HBs.out⟩
  case done =>
    rintro D ys W hD rfl ⟨⟨h1, h2⟩, hB⟩ hK
    rw [show A.length = n from HN.out.symm, HW.out] at h1
    gi_wp2_with (first | (refine ⟨trivial, ?_⟩; refine (callsIn_wide.2 (rem_any _ _ HP.out _)).mono ?_; rintro e w0 ⟨rfl, hw0⟩; rw [hw0]; clear hw0))
    refine ⟨by simp, .inl ⟨_, _, rfl, run_takeDeferred hK, ?_⟩⟩
    exact ⟨.int .i64 (md (ds A B n) p), by simp [results, Try.results37, go_sem], rfl, hB.trans (belowK_b (w := w) (Nat.le_refl _) _ D _ _ (by have := SZ.out; omega) hK rfl rfl)⟩
  case stop =>
    rintro D c pre W hD _ h
    exact absurd h id

set_option maxRecDepth 100000 in
set_option maxHeartbeats 2000000 in
theorem fc10_in (F : Fence) (n : Nat) (h8 : F.fn 97) (hro : F.round = none) (l Ba Bb : Nat) (ax : Option Addr) (ca : Nat) (J Jx : List (Int × Int) → World → Prop)
    (W : World) (hBa : W.cell? ⟨Ba, 0, none⟩ = some (.slice ax 0 ca)) (h0 : J [] W) :
    CallsIn F n Try.prog 97 #[.func (.yield l) #[] #[], .pointer (some ⟨Ba, 0, none⟩), .pointer (some ⟨Bb, 0, none⟩)] W fun e W' => (∃ v, e = .returned v) ∧
      ((∃ ys, ys = [] ∧ J ys W') ∨ (∃ pre, False ∧ Jx pre W')) := by
  refine callsIn_of_wp Try.func97 rfl h8 ?_ hro
  simp only [Try.ntmps97, List.size_toArray, List.length_cons, List.length_nil, Nat.reduceAdd, Nat.reduceSub, Array.replicate_succ, Array.replicate_zero, List.push_toArray, List.append_toArray, List.nil_append, List.cons_append]
  gi_wp2
  gi_loopw [8] (fun i wr => i = .int .i64 0 ∧ wr = W) (fun _ _ => 0)
  case atStart => exact ⟨rfl, rfl⟩
  case round =>
    obtain ⟨rfl, rfl⟩ := hrel
    gi_wp2
    go_end0
    exact ⟨⟨_, rfl⟩, .inl ⟨_, rfl, h0⟩⟩

set_option maxRecDepth 100000 in
set_option maxHeartbeats 3200000 in
theorem isum_nil {ax ay : Option Addr} {ca cb : Nat} {w : World} {p : Int} (hp : isP p = true) :
    Calls Try.prog 37 #[.slice ax 0 ca, .slice ay 0 cb, .int .i64 p] w fun e w' => e = .returned (.int .i64 (md 0 p)) ∧ Below w.heap.size w w' := by
  have hp2 := isP_le hp
  have HP : Hid (1 ≤ p ∧ p ≤ 1000000) := ⟨by omega, by omega⟩
  clear hp2
  obtain ⟨w3, hw3⟩ : ∃ x, x = ((w.alloc (.cells #[.int .i64 0] 2)).alloc (.cells #[.slice ax 0 ca] 22)).alloc (.cells #[.slice ay 0 cb] 22) := ⟨_, rfl⟩
  have XS : Hid (Bx w3 w.heap.size (.int .i64 0)) := by rw [hw3]; exact Bx.alloc (Bx.alloc (Bx.new _ _ _) _) _
  have XA : Hid (Bx w3 (w.heap.size + 1) (.slice ax 0 ca)) := by rw [hw3]; exact Bx.alloc (Bx.new2 _ _ _ _) _
  have XB : Hid (Bx w3 (w.heap.size + 1 + 1) (.slice ay 0 cb)) := by rw [hw3]; exact Bx.new3 _ _ _ _ _
  have B3 : Hid (Below w.heap.size w w3) := by rw [hw3]; exact new3 _ _ _ _
  have SZ : Hid (w3.heap.size = w.heap.size + 1 + 1 + 1) := by show _ = _; rw [hw3]; simp
  refine (callsIn_wide (n := 4)).1 ?_
  refine callsIn_of_wp_marks Try.func37 rfl trivial ?_ rfl
  simp only [Try.ntmps37, List.size_toArray, List.length_cons, List.length_nil, Nat.reduceAdd, Nat.reduceSub, Array.replicate_succ, Array.replicate_zero, List.push_toArray, List.append_toArray, List.nil_append, List.cons_append]
  gi_wp2_with (first | (refine ⟨trivial, ?_⟩; refine (fc_in Fence.wide _ trivial rfl _ _ _ _ _ _ _).mono ?_; rintro e w' ⟨rfl, rfl⟩))
  rw [← hw3]
  clear hw3
  refine wpIn_rangeFunc_ownG rfl (by omega) (gf := 97) (lb := #[.pointer (some ⟨w.heap.size + 1, 0, none⟩), .pointer (some ⟨w.heap.size + 1 + 1, 0, none⟩)]) rfl trivial (enters_of Try.func97 (by kernel_rfl) rfl)
    (encs := fun x : Int × Int => #[Value.int .i64 x.1, Value.int .i64 x.2]) (Kp := KC w.heap.size (w.heap.size + 1) (w.heap.size + 1 + 1)) (S := fun ys => ys = []) (Sp := fun _ => False) (N := 0) (w0 := w3)
    (fun l J Jx W hW _ _ _ h0 => fc10_in Fence.wide 3 trivial rfl l (w.heap.size + 1) (w.heap.size + 1 + 1) ax ca J Jx W ((hW.cell (p := ⟨w.heap.size + 1, 0, none⟩) XA.out.lt).trans XA.out.cell) h0)
    KC.trans (kc_b (by have := SZ.out; omega) XA.out.lt XB.out.lt) (Below.refl _ _) (fun _ => rfl)
    (fun pre W => (W.cell? ⟨w.heap.size, 0, none⟩ = some (.int .i64 (wf pre)) ∧ W.frozen? ⟨w.heap.size, 0, none⟩ = false) ∧ Below w.heap.size w W)
    (fun _ _ _ => False)
    (OwnFrom.and (Own.from (fun s A B row hs hg hr => ⟨cell_kept hs.1 hg hr, (frozen_kept hs.1 hg hr).trans hs.2⟩) _) (ownFrom_below (Nat.le_refl _) (by have := SZ.out; omega)))
    (fun _ _ _ _ _ hs _ _ => hs)
    ⟨⟨XS.out.cell, XS.out.free⟩, B3.out⟩
    (fun y => { tmps := #[.slice ax 0 ca, .slice ay 0 cb, .int .i64 p, undef, undef, undef, .int .i64 0, .pointer (some ⟨w.heap.size, 0, none⟩), .int .i64 y.1, .int .i64 y.2, .slice ax 0 ca, .slice ay 0 cb,
        .func (.func 97) #[] #[.pointer (some ⟨w.heap.size + 1, 0, none⟩), .pointer (some ⟨w.heap.size + 1 + 1, 0, none⟩)], .int .i64 y.1, .int .i64 y.2, undef, undef, undef, undef, undef, undef, undef, undef], defers := [] }) ?assign ?body ?done ?stop
  case assign =>
    intro l x W K hK
    gi_wp2
    exact hK
  case body =>
    rintro l pre y W _ h
    exact absurd h (Nat.not_lt_zero _)
  case done =>
    rintro D ys W hD rfl ⟨⟨h1, h2⟩, hB⟩ hK
    rw [show wf [] = 0 from rfl] at h1
    gi_wp2_with (first | (refine ⟨trivial, ?_⟩; refine (callsIn_wide.2 (rem_any _ _ HP.out _)).mono ?_; rintro e w0 ⟨rfl, hw0⟩; rw [hw0]; clear hw0))
    refine ⟨by simp, .inl ⟨_, _, rfl, run_takeDeferred hK, ?_⟩⟩
    exact ⟨.int .i64 (md 0 p), by simp [results, Try.results37, go_sem], rfl, hB.trans (belowK_b (w := w) (Nat.le_refl _) _ D _ _ (by have := SZ.out; omega) hK rfl rfl)⟩
  case stop =>
    rintro D c pre W hD _ h
    exact absurd h id

/-- at any lists -/
theorem isum_any {A B : List Int} {va vb : Value} {w : World} {p : Int} (hp : isP p = true) (hn : A.length ≤ 64) (hAB : A.length = B.length) (hA : inR 0 (p - 1) A) (hB : inR 0 (p - 1) B) (h0 : Ls w va A) (h1 : Ls w vb B) :
    Calls Try.prog 37 #[va, vb, .int .i64 p] w fun e w' => e = .returned (.int .i64 (md (ds A B A.length) p)) ∧ Below w.heap.size w w' := by
  obtain ⟨aa, ca, rfl⟩ := id h0.shape
  obtain ⟨ab, cb, rfl⟩ := id h1.shape
  by_cases h : 1 ≤ A.length
  · obtain ⟨_, _, hc⟩ := h0.use
    obtain ⟨b1, o1, rfl, _, _⟩ := hc (by omega)
    obtain ⟨_, _, hc⟩ := h1.use
    obtain ⟨b2, o2, rfl, _, _⟩ := hc (by omega)
    exact isum_pos hp ⟨h, hn⟩ hAB hA hB h0 h1
  · have e : A.length = 0 := by omega
    rw [← hAB, e]
    exact isum_nil hp
end Go.Proofs.Ytfmdbgpalldjoaa.ru
