/- Greatest common wholes: the program's rests. -/
import Derived.Test.YtbbdhbamooaloaaCwP
import Derived.Test.YtbbdhbamooaloaaFnT
import Derived.Test.YtbbdhbamooaloaaEqF
import Derived.Deep.DeepCutAuto
import Derived.OwnWalk
namespace Go.Pl
/-- a list that is filled: k of n items -/
def fil (f : Nat → Int) (n k : Nat) : List Int := (List.range n).map fun j => if j < k then f j else 0
theorem fil_len (f : Nat → Int) (n k : Nat) : (fil f n k).length = n := by simp [fil]
theorem fil_get (f : Nat → Int) {n j : Nat} (k : Nat) (h : j < n) : (fil f n k)[j]? = some (if j < k then f j else 0) := by simp [fil, h]
theorem fil_zero (f : Nat → Int) (n : Nat) : fil f n 0 = List.replicate n 0 := by
  apply List.ext_getElem?
  intro j
  by_cases h : j < n
  · rw [fil_get f 0 h, if_neg (by omega), List.getElem?_replicate, if_pos h]
  · rw [List.getElem?_eq_none (by rw [fil_len]; omega), List.getElem?_eq_none (by simp; omega)]
theorem fil_set (f : Nat → Int) {n k : Nat} (h : k < n) : (fil f n k).set k (f k) = fil f n (k + 1) := by
  apply List.ext_getElem?
  intro j
  by_cases hj : j < n
  · by_cases e : j = k
    · subst e
      rw [List.getElem?_set_self (by rw [fil_len]; exact h), fil_get f _ hj, if_pos (by omega)]
    · rw [List.getElem?_set_ne (by omega), fil_get f _ hj, fil_get f _ hj]
      by_cases h1 : j < k
      · rw [if_pos h1, if_pos (by omega)]
      · rw [if_neg h1, if_neg (by omega)]
  · rw [List.getElem?_eq_none (by rw [List.length_set, fil_len]; omega), List.getElem?_eq_none (by rw [fil_len]; omega)]
theorem fil_end (f : Nat → Int) (n : Nat) : fil f n n = (List.range n).map f := by
  apply List.ext_getElem?
  intro j
  by_cases h : j < n
  · rw [fil_get f n h, if_pos h]; simp [h]
  · rw [List.getElem?_eq_none (by rw [fil_len]; omega), List.getElem?_eq_none (by simp; omega)]
end Go.Pl
namespace Go.Proofs.Ytbbdhbamooaloaa.wh
open Go.RowKit Go.Pl

theorem termAt_neg {v : Value} {L : List Int} {w : World} (h : Ls w v L) {k : Int} (hk : k < 0) :
    Calls Try.prog 131 #[v, .int .i64 k] w fun e w' => e = .returned (.int .i64 0) ∧ w' = w := by
  obtain ⟨ao, cap, rfl, hn, hcap, hc⟩ := h
  clear hc
  generalize L.length = n at *
  go_enter Try.func131, Try.ntmps131
  go_wp2
  go_ret
  exact ⟨rfl, rfl⟩

set_option maxRecDepth 100000 in
set_option maxHeartbeats 3200000 in
theorem iwl_any {va vb : Value} {A B : List Int} {w : World} (ha : Ls w va A) (hb : Ls w vb B) (hA : Val A) (hB : Val B) (hl : B.length ≤ A.length) :
    Calls Try.prog 121 #[va, vb] w fun e w' => ∃ v', e = .returned v' ∧ Own w' w.heap.size w'.heap.size v' (wl A B) ∧ Below w.heap.size w w' := by
  obtain ⟨i0, hi, hz0, hz1, hz2⟩ := info_parts info_i
  obtain ⟨ao, cap, rfl⟩ := ha.shape
  obtain ⟨bo, cap1, rfl⟩ := hb.shape
  have LA : Hid (Ls w (.slice ao A.length cap) A) := ha
  have LB : Hid (Ls w (.slice bo B.length cap1) B) := hb
  have ZA : Hid (A[A.length - 1]? = some (at' A (A.length - 1))) := at_some A _ (by have := hA.pos; omega)
  have ZB : Hid (B[B.length - 1]? = some (at' B (B.length - 1))) := at_some B _ (by have := hB.pos; omega)
  obtain ⟨_, hcp, hca⟩ := ha.use
  have HCA : Hid (A.length ≠ 0 → ∃ b off, ao = some ⟨b, off, none⟩ ∧ b < w.heap.size ∧ ∀ (k : Nat) (z : Int), A[k]? = some z → w.cell? ⟨b, off + k, none⟩ = some (.int .i64 z)) := hca
  have HBD : Hid (∀ k, (-2000000000000 ≤ wlt A B k ∧ wlt A B k ≤ 2000000000000) ∧ (-1000000000000 ≤ at' A k * at' B (B.length - 1) ∧ at' A k * at' B (B.length - 1) ≤ 1000000000000) ∧ ∀ j, -1000000000000 ≤ at' A (A.length - 1) * at' B j ∧ at' A (A.length - 1) * at' B j ≤ 1000000000000) := fun k => ⟨wlt_bd hA hB k, val_prod hA hB _ _, fun j => val_prod hA hB _ _⟩
  have hA1 := hA.pos
  have hA2 := hA.le
  have hB1 := hB.pos
  have HW : Hid (wl A B = trim (fil (wlt A B) A.length A.length)) := by show _ = _; rw [fil_end]; rfl
  have HWT : Hid (∀ k, wlt A B k = at' A k * at' B (B.length - 1) - at' A (A.length - 1) * (if k < A.length - B.length then 0 else at' B (k - (A.length - B.length)))) := fun k => rfl
  clear ha hb hA hB hca
  obtain ⟨p, hp⟩ : ∃ p, p = at' A (A.length - 1) := ⟨_, rfl⟩
  obtain ⟨y, hy⟩ : ∃ y, y = at' B (B.length - 1) := ⟨_, rfl⟩
  rw [← hp] at ZA HBD HWT
  rw [← hy] at ZB HBD HWT
  obtain ⟨f, hf⟩ : ∃ f, f = wlt A B := ⟨_, rfl⟩
  rw [← hf] at HBD HW HWT
  clear hp hy hf
  obtain ⟨n, hn⟩ : ∃ n, n = A.length := ⟨_, rfl⟩
  obtain ⟨m, hm⟩ : ∃ m, m = B.length := ⟨_, rfl⟩
  have HNM : Hid (n = A.length ∧ m = B.length) := ⟨hn, hm⟩
  rw [← hn] at LA HCA hl hcp hA1 hA2 HW HWT ZA
  rw [← hm] at LB hl hB1 HWT ZB
  simp only [← hn, ← hm]
  clear hn hm
  obtain ⟨d, hd⟩ : ∃ d, d = n - m := ⟨_, rfl⟩
  have hdi : (n : Int) - (m : Int) = (d : Int) := by omega
  rw [← hd] at HWT
  have hdn : (d : Int) ≤ 17 := by omega
  have HDN : Hid (d = n - m) := hd
  clear hd
  have hml : n ≤ maxLen := by unfold maxLen; omega
  go_enter Try.func121, Try.ntmps121
  go_upto_region 2 with fail
  go_cut [6] (fun v wc => v = .slice (some ⟨w.heap.size, 0, none⟩) n n ∧ Hid (Own wc w.heap.size wc.heap.size (.slice (some ⟨w.heap.size, 0, none⟩) n n) (fil f n 0)) ∧ Hid (Below w.heap.size w wc))
  case first =>
    go_wp2_with (first | (refine wpList_make_full _ rfl (.tmp 15) (.tmp 15) 22 rfl w.heap.size 2 i0 (.int .i64 0) 1 Try.underlying22 hi hz0 hz1 .i64 .i64 _ _ n rfl rfl rfl rfl (by rw [hz2]; omega) hml (Nat.le_refl _) ?_; intro wm hown hgrow))
    go_meet
    rw [rep_map] at hown
    refine ⟨rfl, ?_, (Below.refl _ _).grown hgrow (Nat.le_refl _) (by intro k hk; cases hk)⟩
    have h2 : wm.ownsRow w.heap.size 2 1 (.slice (some ⟨w.heap.size, 0, none⟩) n n) (List.replicate n (0 : Int)).length ((List.replicate n (0 : Int)).map (Value.int .i64)) := by rw [List.length_replicate]; exact hown
    have := Own.of_row h2 (by simp; omega) (Nat.le_refl wm.heap.size)
    rw [fil_zero]
    exact this
  case rest =>
    obtain ⟨rfl, start, startB⟩ := hcut
    clear hi hz0 hz1 hz2
    go_wp2_with fail
    go_loopw [19] (fun t wr => ∃ (k : Nat), k ≤ n ∧ t = .int .i64 k ∧ Hid (Own wr w.heap.size wr.heap.size (.slice (some ⟨w.heap.size, 0, none⟩) n n) (fil f n k)) ∧ Hid (Below w.heap.size w wr)) (fun t _ => n - (intOf t).toNat)
    case atStart => exact ⟨0, by omega, rfl, start, startB⟩
    case round =>
      obtain ⟨k, hk, rfl, ho, hb⟩ := hrel
      clear start startB
      by_cases hlt : k < n
      · obtain ⟨ab, oa, rfl, hab, hcell⟩ := HCA.out (by omega)
        have e1 : wr.cell? ⟨ab, oa + k, none⟩ = some (.int .i64 (at' A k)) := (hb.out.cell (p := ⟨ab, oa + k, none⟩) hab).trans (hcell k _ (at_some A k (by have := HNM.out.1; omega)))
        have e2 : wr.cell? ⟨w.heap.size, k, none⟩ = some (.int .i64 0) := by rw [ho.out.cell (fil_get f k hlt), if_neg (by omega)]
        have e3 := ho.out.free k
        have HO : Hid (Own (wr.setCell ⟨w.heap.size, k, none⟩ (.int .i64 (f k))) w.heap.size (wr.setCell ⟨w.heap.size, k, none⟩ (.int .i64 (f k))).heap.size (.slice (some ⟨w.heap.size, 0, none⟩) n n) (fil f n (k + 1))) := by
          have h := ho.out.put k (f k)
          rw [fil_set f hlt] at h
          exact h.wide (Nat.le_refl _) (by simp [World.setCell])
        have HB : Hid (Below w.heap.size w (wr.setCell ⟨w.heap.size, k, none⟩ (.int .i64 (f k)))) := hb.out.setCell (Nat.le_refl _) _
        have LAr : Hid (Ls wr (.slice (some ⟨ab, oa, none⟩) n cap) A) := LA.out.below hb.out
        have LBr : Hid (Ls wr (.slice bo m cap1) B) := LB.out.below hb.out
        obtain ⟨q, hq⟩ : ∃ q, q = if k < d then 0 else at' B (k - d) := ⟨_, rfl⟩
        have hT : Calls Try.prog 131 #[.slice bo m cap1, .int .i64 ((k : Int) - (d : Int))] wr fun e w' => e = .returned (.int .i64 q) ∧ w' = wr := by
          by_cases h : k < d
          · rw [hq, if_pos h]
            exact termAt_neg LBr.out (by omega)
          · rw [hq, if_neg h]
            have e : (k : Int) - (d : Int) = ((k - d : Nat) : Int) := by omega
            rw [e]
            exact termAt_any LBr.out (k - d)
        have hfk : f k = at' A k * y - p * q := by rw [HWT.out k, hq]
        obtain ⟨b1, b2, b3⟩ := HBD.out k
        have b4 : -1000000000000 ≤ p * q ∧ p * q ≤ 1000000000000 := by
          rw [hq]
          split
          · omega
          · exact b3 _
        have hst := store_int (b := f k) e2 e3
        have HTT : Hid (Calls Try.prog 131 #[.slice bo m cap1, .int .i64 ((k : Int) - (d : Int))] wr fun e w' => e = .returned (.int .i64 q) ∧ w' = wr) := hT
        have HFK : Hid (f k = at' A k * y - p * q) := hfk
        clear hT hq b3 hcell hab ho hb hfk
        generalize at' A k = a at *
        have w0' : IntKind.i64.wrap ((k : Int) - (d : Int)) = (k : Int) - (d : Int) := IntWalk.i64_in _ (by omega)
        have w0'' : wrap64 ((k : Int) - (d : Int)) = (k : Int) - (d : Int) := IntWalk.wrap64_in _ (by omega)
        have w1' : IntKind.i64.wrap (a * y) = a * y := IntWalk.i64_in _ (by omega)
        have w2' : IntKind.i64.wrap (p * q) = p * q := IntWalk.i64_in _ (by omega)
        have w3' : IntKind.i64.wrap (a * y - p * q) = f k := by rw [HFK.out]; exact IntWalk.i64_in _ (by omega)
        have w4' : wrap64 (a * y) = a * y := IntWalk.wrap64_in _ (by omega)
        have w5' : wrap64 (p * q) = p * q := IntWalk.wrap64_in _ (by omega)
        have w6' : wrap64 (a * y - p * q) = f k := by rw [HFK.out]; exact IntWalk.wrap64_in _ (by omega)
        clear b1 b2 b4
        go_wp2_with fail
        refine (last_any LBr.out (by have := ZB.out; rw [HNM.out.2] at this; exact this)).mono ?_
        rintro e w2 ⟨rfl, hw2⟩
        rw [hw2]
        clear hw2
        go_wp2_with fail
        refine (last_any LAr.out (by have := ZA.out; rw [HNM.out.1] at this; exact this)).mono ?_
        rintro e w2 ⟨rfl, hw2⟩
        rw [hw2]
        clear hw2
        go_wp2_with fail
        refine HTT.out.mono ?_
        rintro e w2 ⟨rfl, hw2⟩
        rw [hw2]
        clear hw2
        go_wp2_with fail
        go_roundw
        case rel => exact ⟨k + 1, by omega, by go_num, HO, HB⟩
        case measure => simp [intOf]; omega
      · obtain rfl : n = k := by omega
        have HNE : Hid (fil f n n ≠ []) := ne_of_len (by rw [fil_len]; omega)
        have B3 : Hid (Below w.heap.size w wr) := hb
        have O3 : Hid (Own wr w.heap.size wr.heap.size (.slice (some ⟨w.heap.size, 0, none⟩) n n) (fil f n n)) := ho
        clear ho hb
        go_wp2_with fail
        refine (wz_any O3.out (Nat.le_refl _) HNE.out).mono ?_
        rintro e w2 ⟨v2, rfl, o2, hw2⟩
        rw [hw2]
        clear hw2
        rw [← HW.out] at o2
        have O4 : Hid (Own wr w.heap.size wr.heap.size v2 (wl A B)) := o2
        clear o2
        obtain ⟨ra, rc, rfl⟩ := O4.out.shape
        generalize hle : (wl A B).length = le at *
        clear hle
        go_wp2_with fail
        go_ret
        exact ⟨_, rfl, O4.out, B3.out⟩
end Go.Proofs.Ytbbdhbamooaloaa.wh
