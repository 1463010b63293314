/- FamilyRow: what both sides answer. -/
import Derived.Test.YtibpahkjjjhapaaFaW
namespace Go.Proofs.Ytibpahkjjjhapaa.fa
open Go.RowKit Go.Fl Go.Fa Go.Proofs.Ytibpahkjjjhapaa.fls

theorem fnum_yes {v : Value} {n : Nat} {f : Nat → Nat} {w : World} (h : Fls w v n f) (ha : afin f n = true) : Calls Try.prog 29 #[v] w fun e w' => e = .returned (.tuple #[v, .bool true]) ∧ ∃ m, w' = w.drewN m := by
  have hf := fun w' (h : Fls w' v n f) => ifin_any h
  rw [ha] at hf
  have HF := Lib.hid (hf w h)
  obtain ⟨ao, cap, rfl, _, _⟩ := h
  clear hf ha
  go_enter Try.func29, Try.ntmps29
  go_wp2_with fail
  refine HF.out.mono ?_
  rintro e w1 ⟨rfl, m, rfl⟩
  go_wp2_with fail
  go_ret2
  exact ⟨rfl, m, rfl⟩
theorem fnum_no {v : Value} {n : Nat} {f : Nat → Nat} {w : World} (h : Fls w v n f) (ha : afin f n = false) : Calls Try.prog 29 #[v] w fun e w' => e = .returned (.tuple #[.slice none 0 0, .bool false]) ∧ ∃ m, w' = w.drewN m := by
  have hf := fun w' (h : Fls w' v n f) => ifin_any h
  rw [ha] at hf
  have HF := Lib.hid (hf w h)
  obtain ⟨ao, cap, rfl, _, _⟩ := h
  clear hf ha
  go_enter Try.func29, Try.ntmps29
  go_wp2_with fail
  refine HF.out.mono ?_
  rintro e w1 ⟨rfl, m, rfl⟩
  go_wp2_with fail
  go_ret2
  exact ⟨rfl, m, rfl⟩
theorem in_nat {k n : Int} (h : inF k n = true) : ∃ a b : Nat, k = a ∧ n = b ∧ a ≤ 4 ∧ b ≤ 16 := by
  have h' : 0 ≤ k ∧ k ≤ 4 ∧ 0 ≤ n ∧ n ≤ 16 := of_decide_eq_true h
  exact ⟨k.toNat, n.toNat, by omega, by omega, by omega, by omega⟩
end Go.Proofs.Ytibpahkjjjhapaa.fa
namespace Go.Proofs.Ytibpahkjjjhapaa.fFamilyRow
open Go.RowKit Go.Fl Go.Fa Go.Proofs.Ytibpahkjjjhapaa.fls Go.Proofs.Ytibpahkjjjhapaa.fa Go.Proofs.Ytibpahkjjjhapaa.fin

def F (k _n : Int) (x : Nat) : Nat → Nat := fv k.toNat x
def ok (k n : Int) (x : Nat) : Bool := inF k n && fin x && afin (F k n x) (n.toNat + 1)
def len (k n : Int) (x : Nat) : Nat := if ok k n x = true then n.toNat + 1 else 0
theorem ok_in {k n : Int} {x : Nat} (h : ok k n x = true) : inF k n = true := by
  unfold ok at h
  rw [Bool.and_eq_true, Bool.and_eq_true] at h
  exact h.1.1
theorem yes_len {k n : Int} {x : Nat} (h : ok k n x = true) : len k n x = n.toNat + 1 ∧ n.toNat ≤ 16 ∧ n = (n.toNat : Int) := by
  obtain ⟨a, b, rfl, rfl, h1, h2⟩ := in_nat (ok_in h)
  exact ⟨if_pos h, by omega, by omega⟩
theorem len_le (k n : Int) (x : Nat) : len k n x ≤ 256 := by
  cases h : ok k n x with
  | true => obtain ⟨h1, h2, _⟩ := yes_len h; omega
  | false => unfold len; rw [h]; simp
theorem no_ans {k n : Int} {x : Nat} (h : ok k n x = false) {w w' : World} (hb : Below w.heap.size w w') : FAns (len k n x) (ok k n x) (F k n x) w (.returned (.tuple #[.slice none 0 0, .bool false])) w' := by
  have e : len k n x = 0 := if_neg (by rw [h]; decide)
  rw [e, h]
  exact FAns.no hb
theorem no_in {k n : Int} {x : Nat} (h : inF k n = false) : ok k n x = false := by unfold ok; rw [h]; rfl
theorem no_fin {k n : Int} {x : Nat} (h : fin x = false) : ok k n x = false := by unfold ok; rw [h, Bool.and_false]; rfl
theorem all_fin {k n x : Nat} (h1 : inF k n = true) (h2 : fin x = true) : ok k n x = afin (fv k x) (n + 1) := by
  unfold ok F
  rw [h1, h2, Int.toNat_natCast, Int.toNat_natCast]
  rfl
theorem yes_ans {k n x : Nat} (h : ok k n x = true) {w w' : World} {g cap : Nat} {L : List Value} (ho : w'.ownsRow w.heap.size 22 1 (.slice (some ⟨g, 0, none⟩) (n + 1) cap) (n + 1) L) (hl : FL L (n + 1) (fv k x)) (hb : Below w.heap.size w w') : FAns (len k n x) (ok k n x) (F k n x) w (.returned (.tuple #[.slice (some ⟨g, 0, none⟩) (n + 1) cap, .bool true])) w' := by
  have e := (yes_len h).1
  rw [Int.toNat_natCast] at e
  have eF : F k n x = fv k x := by unfold F; rw [Int.toNat_natCast]
  rw [e, h, eF]
  exact ⟨_, L, rfl, ho, hl, hb⟩

theorem spec_any (k n : Int) (x : Nat) (w : World) : Calls Try.prog 12 #[.int .i64 k, .int .i64 n, .float .f32 x] w (FAns (len k n x) (ok k n x) (F k n x) w) := by
  cases hv : inF k n with
  | false =>
    have HV : Hid (inF k n = false) := hv
    have HO : Hid (ok k n x = false) := no_in hv
    clear hv
    go_enter Try.func12, Try.ntmps12
    go_wp2_with fail
    refine (sin_any _ _ _).mono ?_
    rintro e w1 ⟨rfl, hw⟩
    rw [hw, HV.out]
    clear hw
    go_wp2_with fail
    go_ret2
    exact no_ans HO.out (Below.refl _ _)
  | true =>
    cases hx : fin x with
    | false =>
      have HV : Hid (inF k n = true) := hv
      have HO : Hid (ok k n x = false) := no_fin hx
      have HX : Hid (fin x = false) := hx
      clear hv hx
      go_enter Try.func12, Try.ntmps12
      go_wp2_with fail
      refine (sin_any _ _ _).mono ?_
      rintro e w1 ⟨rfl, hw⟩
      rw [hw, HV.out]
      clear hw
      go_wp2_with fail
      refine (l01_any _ _).mono ?_
      rintro e w1 ⟨rfl, q, rfl⟩
      rw [HX.out]
      go_wp2_with fail
      go_ret2
      exact no_ans HO.out (Go.Pst.below_drewN (Below.refl _ _) _)
    | true =>
      obtain ⟨k, n, rfl, rfl, hk, hn⟩ := in_nat hv
      have HE : Hid (ok k n x = afin (fv k x) (n + 1)) := all_fin hv hx
      have HV : Hid (inF k n = true) := hv
      have HX : Hid (fin x = true) := hx
      clear hv hx
      go_enter Try.func12, Try.ntmps12
      go_wp2_with fail
      refine (sin_any _ _ _).mono ?_
      rintro e w1 ⟨rfl, hw⟩
      rw [hw, HV.out]
      clear hw
      go_wp2_with fail
      refine (l01_any _ _).mono ?_
      rintro e w1 ⟨rfl, q, rfl⟩
      rw [HX.out]
      have B1 : Hid (Below w.heap.size w (w.drewN q)) := Go.Pst.below_drewN (Below.refl _ _) _
      go_wp2_with fail
      refine (srow_any k n x hk hn _).mono ?_
      rintro e w2 ⟨g, cap, L, rfl, o2, l2, b2⟩
      have O2 : Hid (w2.ownsRow w.heap.size 22 1 (.slice (some ⟨g, 0, none⟩) (n + 1) cap) (n + 1) L) := o2
      have L2 : Hid (FL L (n + 1) (fv k x)) := l2
      have B2 : Hid (Below w.heap.size w w2) := B1.out.trans b2
      obtain ⟨f, hf, hfs⟩ := fls_own (by omega) O2.out L2.out
      have HF : Hid (Fls w2 (.slice (some ⟨g, 0, none⟩) (n + 1) cap) (n + 1) f) := hf
      have HA : Hid (afin f (n + 1) = ok k n x) := by show _ = _; rw [HE.out]; exact afin_congr hfs
      clear o2 l2 b2 hf hfs B1
      cases ha : ok k n x with
      | true =>
        have HK : Hid (ok k n x = true) := ha
        rw [ha] at HA
        clear ha
        go_wp2_with fail
        refine (sfin_any HF.out).mono ?_
        rintro e w3 ⟨rfl, m, rfl⟩
        rw [HA.out]
        go_wp2_with fail
        go_ret2
        exact yes_ans HK.out (w := w) (w' := w2.drewN m) O2.out L2.out (Go.Pst.below_drewN B2.out m)
      | false =>
        have HK : Hid (ok k n x = false) := ha
        rw [ha] at HA
        clear ha
        go_wp2_with fail
        refine (sfin_any HF.out).mono ?_
        rintro e w3 ⟨rfl, m, rfl⟩
        rw [HA.out]
        go_wp2_with fail
        go_ret2
        exact no_ans HK.out (w := w) (w' := w2.drewN m) (Go.Pst.below_drewN B2.out m)

theorem impl_any (k n : Int) (x : Nat) (w : World) : Calls Try.prog 13 #[.int .i64 k, .int .i64 n, .float .f32 x] w (FAns (len k n x) (ok k n x) (F k n x) w) := by
  cases hv : inF k n with
  | false =>
    have HV : Hid (inF k n = false) := hv
    have HO : Hid (ok k n x = false) := no_in hv
    clear hv
    go_enter Try.func13, Try.ntmps13
    go_wp2_with fail
    refine (iin_any _ _ _).mono ?_
    rintro e w1 ⟨rfl, hw⟩
    rw [hw, HV.out]
    clear hw
    go_wp2_with fail
    go_ret2
    exact no_ans HO.out (Below.refl _ _)
  | true =>
    cases hx : fin x with
    | false =>
      have HV : Hid (inF k n = true) := hv
      have HO : Hid (ok k n x = false) := no_fin hx
      have HX : Hid (fin x = false) := hx
      clear hv hx
      go_enter Try.func13, Try.ntmps13
      go_wp2_with fail
      refine (iin_any _ _ _).mono ?_
      rintro e w1 ⟨rfl, hw⟩
      rw [hw, HV.out]
      clear hw
      go_wp2_with fail
      refine (fin.impl_any _ _).mono ?_
      rintro e w1 ⟨rfl, q, rfl⟩
      rw [HX.out]
      go_wp2_with fail
      go_ret2
      exact no_ans HO.out (Go.Pst.below_drewN (Below.refl _ _) _)
    | true =>
      obtain ⟨k, n, rfl, rfl, hk, hn⟩ := in_nat hv
      have HE : Hid (ok k n x = afin (fv k x) (n + 1)) := all_fin hv hx
      have HV : Hid (inF k n = true) := hv
      have HX : Hid (fin x = true) := hx
      clear hv hx
      go_enter Try.func13, Try.ntmps13
      go_wp2_with fail
      refine (iin_any _ _ _).mono ?_
      rintro e w1 ⟨rfl, hw⟩
      rw [hw, HV.out]
      clear hw
      go_wp2_with fail
      refine (fin.impl_any _ _).mono ?_
      rintro e w1 ⟨rfl, q, rfl⟩
      rw [HX.out]
      have B1 : Hid (Below w.heap.size w (w.drewN q)) := Go.Pst.below_drewN (Below.refl _ _) _
      go_wp2_with fail
      refine (irow_any k n x hk hn _).mono ?_
      rintro e w2 ⟨g, cap, L, rfl, o2, l2, b2⟩
      have O2 : Hid (w2.ownsRow w.heap.size 22 1 (.slice (some ⟨g, 0, none⟩) (n + 1) cap) (n + 1) L) := o2
      have L2 : Hid (FL L (n + 1) (fv k x)) := l2
      have B2 : Hid (Below w.heap.size w w2) := B1.out.trans b2
      obtain ⟨f, hf, hfs⟩ := fls_own (by omega) O2.out L2.out
      have HF : Hid (Fls w2 (.slice (some ⟨g, 0, none⟩) (n + 1) cap) (n + 1) f) := hf
      have HA : Hid (afin f (n + 1) = ok k n x) := by show _ = _; rw [HE.out]; exact afin_congr hfs
      clear o2 l2 b2 hf hfs B1
      cases ha : ok k n x with
      | true =>
        have HK : Hid (ok k n x = true) := ha
        rw [ha] at HA
        clear ha
        go_wp2_with fail
        refine (fnum_yes HF.out HA.out).mono ?_
        rintro e w3 ⟨rfl, m, rfl⟩
        go_wp2_with fail
        go_ret2
        exact yes_ans HK.out (w := w) (w' := w2.drewN m) O2.out L2.out (Go.Pst.below_drewN B2.out m)
      | false =>
        have HK : Hid (ok k n x = false) := ha
        rw [ha] at HA
        clear ha
        go_wp2_with fail
        refine (fnum_no HF.out HA.out).mono ?_
        rintro e w3 ⟨rfl, m, rfl⟩
        go_wp2_with fail
        go_ret2
        exact no_ans HK.out (w := w) (w' := w2.drewN m) (Go.Pst.below_drewN B2.out m)
end Go.Proofs.Ytibpahkjjjhapaa.fFamilyRow
