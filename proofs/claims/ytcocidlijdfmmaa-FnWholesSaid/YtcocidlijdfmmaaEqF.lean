/- Exact quotients: both sides. -/
import Derived.Test.YtcocidlijdfmmaaLdX
namespace Go.Proofs.Ytcocidlijdfmmaa.wh
open Go.RowKit Go.Pl

theorem izero_any {v : Value} {L : List Int} {w : World} (h : Ls w v L) (h0 : L ≠ []) :
    Calls Try.prog 23 #[v] w fun e w' => e = .returned (.bool (decide (at' L (L.length - 1) = 0))) ∧ w' = w := by
  have HH : Hid (Ls w v L) := h
  obtain ⟨ao, cap, rfl⟩ := h.shape
  have hp := len_pos h0
  have hz := at_some L (L.length - 1) (by omega)
  obtain ⟨z, hz'⟩ : ∃ z, z = at' L (L.length - 1) := ⟨_, rfl⟩
  rw [← hz'] at hz ⊢
  have HZ : Hid (L[L.length - 1]? = some z) := hz
  clear h hz hz'
  go_enter Try.func23, Try.ntmps23
  go_wp2_with fail
  refine (last_any HH.out HZ.out).mono ?_
  rintro e w1 ⟨rfl, hw1⟩
  rw [hw1]
  clear hw1
  go_wp2_with fail
  go_ret
  exact ⟨by congr 1, rfl⟩

set_option maxRecDepth 100000 in
set_option maxHeartbeats 1600000 in
theorem ieq_any {va vb : Value} {A B : List Int} {w : World} (ha : Ls w va A) (hb : Ls w vb B) (hA : 1 ≤ A.length ∧ A.length ≤ 40) (hB : 1 ≤ B.length ∧ B.length ≤ 17) (HA : Bd 1000000 A) (HB : Bd 1000000 B) (hl : at' B (B.length - 1) ≠ 0) :
    Calls Try.prog 24 #[va, vb] w fun e w' => ∃ vq, e = .returned (.tuple #[vq, .bool (exok A B)]) ∧ (exok A B = true → Own w' w.heap.size w'.heap.size vq (exq A B)) ∧ Below w.heap.size w w' := by
  have HLA : Hid (Ls w va A) := ha
  have HLB : Hid (Ls w vb B) := hb
  obtain ⟨ao, cap, rfl⟩ := ha.shape
  obtain ⟨bo, cap1, rfl⟩ := hb.shape
  have HZ : Hid (B[B.length - 1]? = some (at' B (B.length - 1))) := at_some B _ (by omega)
  have HALL : Hid (1 ≤ A.length ∧ A.length ≤ 40 ∧ 1 ≤ B.length ∧ B.length ≤ 17 ∧ Bd 1000000 A ∧ Bd 1000000 B ∧ at' B (B.length - 1) ≠ 0) := ⟨hA.1, hA.2, hB.1, hB.2, HA, HB, hl⟩
  have HE : Hid (exr A B = ldv (gox (at' B (B.length - 1))) (fun x => x) B (B.length - 1) (A.length - (B.length - 1)) (List.replicate (max 1 (A.length - (B.length - 1))) 0) A) := rfl
  obtain ⟨last, hlast⟩ : ∃ l, l = at' B (B.length - 1) := ⟨_, rfl⟩
  rw [← hlast] at HZ HALL HE
  clear ha hb hA hB HA HB hl hlast
  go_enter Try.func24, Try.ntmps24
  go_wp2_with fail
  refine (last_any HLB.out HZ.out).mono ?_
  rintro e w1 ⟨rfl, hw1⟩
  rw [hw1]
  clear hw1
  obtain ⟨w2, hw2⟩ : ∃ x, x = w.alloc (.cells #[.int .i64 last] 2) := ⟨_, rfl⟩
  have X2 : Hid (Bx w2 w.heap.size (.int .i64 last)) := by rw [hw2]; exact Bx.new _ _ _
  have B2 : Hid (Below w.heap.size w w2) := by rw [hw2]; exact new1 _ _
  go_wp2_with fail
  rw [← hw2]
  clear hw2
  obtain ⟨a1, a2, a3, a4, a5, a6, a7⟩ := HALL.out
  refine (ldx_any X2.out.cell X2.out.lt a7 (HLA.out.below B2.out) (HLB.out.below B2.out) ⟨a1, a2⟩ ⟨a3, a4⟩ a5 a6).mono ?_
  rintro e w3 ⟨hres, b3⟩
  rw [← HE.out] at hres
  have B3 : Hid (Below w.heap.size w w3) := B2.out.trans (b3.mono B2.out.size)
  have S3 : Hid (w.heap.size ≤ w2.heap.size ∧ w2.heap.size ≤ w3.heap.size) := ⟨B2.out.size, b3.size⟩
  have HLEN : Hid (∀ S, exr A B = some S → S.2.length = A.length) := fun S hS => by
    rw [HE.out] at hS
    exact (ldv_len _ _ _ hS).2
  clear a1 a2 a3 a4 a5 a6 a7 b3 HE
  cases hr : exr A B with
  | none =>
    rw [hr] at hres
    subst hres
    have HX : Hid (exok A B = false) := ex_none hr
    clear hr
    go_wp2_with fail
    go_ret2
    exact ⟨_, by rw [HX.out]; rfl, fun h => (by rw [HX.out] at h; cases h), B3.out⟩
  | some S =>
    rw [hr] at hres
    obtain ⟨vq, vr, he, oq, orr⟩ := hres
    subst he
    have hl2 := HLEN.out S hr
    have HX := ex_some hr
    have HX1 : Hid (exok A B = decide (trim S.2 = [0])) := HX.1
    have HX2 : Hid (exq A B = S.1) := HX.2
    have hne : S.2 ≠ [] := fun e => by
      have := HALL.out.1
      rw [← hl2, e] at this
      simp at this
    have OQ : Hid (Own w3 w2.heap.size w3.heap.size vq S.1) := oq
    have OR : Hid (Own w3 w2.heap.size w3.heap.size vr S.2) := orr
    have HNE : Hid (S.2 ≠ []) := hne
    clear HX hr oq orr hl2 hne
    obtain ⟨rao, rcap, rfl⟩ := OR.out.shape
    obtain ⟨qao, qcap, rfl⟩ := OQ.out.shape
    generalize S.1.length = lq at *
    generalize hlr : S.2.length = lr at *
    clear hlr
    go_wp2_with fail
    refine (wz_any OR.out (Nat.le_refl _) HNE.out).mono ?_
    rintro e w4 ⟨v4, rfl, o4, hw4⟩
    rw [hw4]
    clear hw4
    have O4 : Hid (Own w3 w2.heap.size w3.heap.size v4 (trim S.2)) := o4
    clear o4
    go_wp2_with fail
    refine (izero_any (O4.out.ls (Nat.le_refl _)) (fun e => by have := trim_pos S.2; rw [e] at this; simp at this)).mono ?_
    rintro e w4 ⟨rfl, hw4⟩
    rw [hw4]
    clear hw4
    have HD : Hid (decide (at' (trim S.2) ((trim S.2).length - 1) = 0) = decide (trim S.2 = [0])) := by show decide _ = decide _; congr 1; exact propext trim_last
    rw [HD.out]
    clear HD
    go_wp2_with fail
    go_ret2
    exact ⟨_, by rw [HX1.out]; rfl, fun _ => by rw [HX2.out]; exact OQ.out.wide S3.out.1 (Nat.le_refl _), B3.out⟩
end Go.Proofs.Ytcocidlijdfmmaa.wh
