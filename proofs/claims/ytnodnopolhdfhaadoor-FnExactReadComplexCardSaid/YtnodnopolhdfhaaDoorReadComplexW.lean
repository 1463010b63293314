/- ReadComplex's law: the walk. -/
import Derived.Test.YtnodnopolhdfhaaDoorRcI
import Derived.Test.YtnodnopolhdfhaaDoorCxsW
namespace Go.Proofs.YtnodnopolhdfhaaDoor.rc
open Go.RowKit Go.Lib Go.Rl Go.Rg Go.Proofs.YtnodnopolhdfhaaDoor.cxs

theorem lst_get (s : List UInt8) : ∃ f g : Nat → Nat, ∀ k, k < (LST s).length → (LST s)[k]? = some (.complex .f32 (f k) (g k)) := by
  unfold LST Go.Rg.lst Go.Rg.vals
  cases Go.Rg.good okc 256 s with
  | false => exact ⟨fun _ => 0, fun _ => 0, fun k hk => by simp at hk⟩
  | true =>
    by_cases hn : s = none_
    · exact ⟨fun _ => 0, fun _ => 0, fun k hk => by simp [hn] at hk⟩
    · refine ⟨fun k => hval ((((cutA [] s)[k]?).getD []).take 8), fun k => hval ((((cutA [] s)[k]?).getD []).drop 8), fun k hk => ?_⟩
      simp only [if_true, if_neg hn] at hk ⊢
      have hk2 : k < (cutA [] s).length := by simpa using hk
      rw [List.getElem?_map, List.getElem?_eq_getElem hk2]
      rfl
end Go.Proofs.YtnodnopolhdfhaaDoor.rc
namespace Go.Proofs.YtnodnopolhdfhaaDoor.fnExactReadComplexW
open Go.RowKit Go.Lib Go.Rl Go.Rg Go.Proofs.YtnodnopolhdfhaaDoor.cxs Go.Proofs.YtnodnopolhdfhaaDoor.rc
open Go.Proofs.YtnodnopolhdfhaaDoor.rl (MaxOk max_below)

set_option maxHeartbeats 800000 in
theorem walk (s : ByteArray) (hm : s.size ≤ maxLen) (w : World) (hx : MaxOk w) :
    Calls Tryd.prog 5 #[.string s] w fun e w' => e = .returned (.bool true) ∧ Below w.heap.size w w' := by
  unfold maxLen at hm
  by_cases hs : s.size ≤ 1048576
  · have hS := rc.model_any s hs w
    have HX : Hid (MaxOk w) := hx
    have hlen : (LST s.data.toList).length ≤ 256 := Go.Rg.lst_len
    obtain ⟨f, g0, hf⟩ := lst_get s.data.toList
    have HI : Hid (∀ w, MaxOk w → Calls Tryd.prog 34 #[.string s] w (RAns s w)) := fun w b => rc.impl_any s hs w b
    clear hx
    unfold RAns at hS HI
    obtain ⟨L, hL⟩ : ∃ L, L = LST s.data.toList := ⟨_, rfl⟩
    rw [← hL] at hS HI hlen hf
    clear hL
    generalize GOOD s.data.toList = g at *
    have hL9 : L.length ≤ 9223372036854775807 := by omega
    obtain ⟨n, hn⟩ : ∃ n, n = L.length := ⟨_, rfl⟩
    rw [← hn] at hf
    have hown : Hid (∀ {w : World} {B : Nat} {v : Value}, w.ownsRow B 42 1 v L.length L → Cxs w v n f g0) := fun h => Cxs.of_own (by omega) hf (by rw [hn]; exact h)
    have Hn : Hid (L.length = n) := hn.symm
    rw [← hn] at hlen
    clear hn hf hL9
    go_enter Tryd.func5, Tryd.ntmps5
    go_wp2_with fail
    refine hS.mono ?_
    rintro e w1 ⟨v1, rfl, o1, b1⟩
    have O1 : Hid (Cxs w1 v1 n f g0) := hown.out o1
    have B1 : Hid (Below w.heap.size w w1) := b1
    clear o1 b1 hS
    go_wp2_with fail
    refine (HI.out w1 (max_below HX.out B1.out)).mono ?_
    rintro e w2 ⟨v2, rfl, o2, b2⟩
    have I1 : Hid (Cxs w2 v1 n f g0) := O1.out.below b2
    have I2 : Hid (Cxs w2 v2 n f g0) := hown.out o2
    have O2 : Hid (w2.ownsRow w1.heap.size 42 1 v2 n L) := by rw [← Hn.out]; exact o2
    have B2 : Hid (Below w1.heap.size w1 w2) := b2
    clear o2 b2
    go_wp2_with fail
    refine (eq_any I2.out I1.out).mono ?_
    rintro e w3 ⟨rfl, q3, rfl⟩
    have B3 : Hid (Below w1.heap.size w1 (w2.drewN q3)) := Go.Pst.below_drewN B2.out _
    have O3 : Hid ((w2.drewN q3).ownsRow w1.heap.size 42 1 v2 n L) := O2.out
    clear I1 I2 O2 B2
    generalize hw3 : w2.drewN q3 = w3 at *
    clear hw3
    go_wp2_with fail
    refine (mark_any O3.out (by omega) B3.out.size).mono ?_
    rintro e w4 ⟨rfl, i4, b4⟩
    have I4 : Hid (Cxs w4 v2 n (fun j => fi ((j : Int) + 1)) (fun _ => 1065353216)) := i4
    have B4 : Hid (Below w1.heap.size w1 w4) := B3.out.trans b4
    have B04 : Hid (Below w.heap.size w w4) := B1.out.trans (B4.out.mono B1.out.size)
    have I14 : Hid (Cxs w4 v1 n f g0) := O1.out.below B4.out
    clear i4 b4 O3 B3
    go_wp2_with fail
    refine (held_any I4.out (by omega)).mono ?_
    rintro e w5 ⟨rfl, hw5⟩
    rw [hw5]
    clear hw5
    go_wp2_with fail
    refine (HI.out w4 (max_below HX.out B04.out)).mono ?_
    rintro e w6 ⟨v6, rfl, o6, b6⟩
    have I16 : Hid (Cxs w6 v1 n f g0) := I14.out.below b6
    have I6 : Hid (Cxs w6 v6 n f g0) := hown.out o6
    have I46 : Hid (Cxs w6 v2 n (fun j => fi ((j : Int) + 1)) (fun _ => 1065353216)) := I4.out.below b6
    have B6 : Hid (Below w.heap.size w w6) := B04.out.trans (b6.mono B04.out.size)
    clear o6 b6 I14 I4 B4 B04
    go_wp2_with fail
    refine (eq_any I6.out I16.out).mono ?_
    rintro e w7 ⟨rfl, q7, rfl⟩
    have B7 : Hid (Below w.heap.size w (w6.drewN q7)) := Go.Pst.below_drewN B6.out _
    have I7 : Hid (Cxs (w6.drewN q7) v2 n (fun j => fi ((j : Int) + 1)) (fun _ => 1065353216)) := I46.out
    clear I6 I16 I46 B6
    generalize hw7 : w6.drewN q7 = w7 at *
    clear hw7
    go_wp2_with fail
    refine (held_any I7.out (by omega)).mono ?_
    rintro e w8 ⟨rfl, hw8⟩
    rw [hw8]
    clear hw8
    go_wp2_with fail
    go_ret
    exact ⟨rfl, B7.out⟩
  · have hgt : 1048576 < s.size := by omega
    clear hs
    go_enter Tryd.func5, Tryd.ntmps5
    go_wp2_with fail
    go_ret
    exact ⟨rfl, Below.refl _ _⟩
end Go.Proofs.YtnodnopolhdfhaaDoor.fnExactReadComplexW
