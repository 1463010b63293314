/- JournalOf's law: the walk. -/
import Derived.Test.YtdeoemeibbkdoaaDoorJnS
import Derived.Test.YtdeoemeibbkdoaaDoorJnI
import Derived.Test.YtdeoemeibbkdoaaDoorPost
namespace Go.Proofs.YtdeoemeibbkdoaaDoor.fnExactJournalOfW
open Go.RowKit Go.Lib Go.Proofs.YtdeoemeibbkdoaaDoor.sls Go.Proofs.YtdeoemeibbkdoaaDoor.dec

set_option maxHeartbeats 1600000 in
theorem walk (v : Value) (w : World) (h : ∃ n f, Sls w v n f ∧ ∀ k, k < n → (f k).size ≤ 9223372036854775807) (ht : TabOk w) :
    Calls Tryd.prog 6 #[v] w fun e w' => e = .returned (.bool true) ∧ Below w.heap.size w w' := by
  obtain ⟨n, f, h, hz⟩ := h
  obtain ⟨ao, cap, rfl, hn, _⟩ := id h
  have HT : Hid (TabOk w) := ht
  have hsz := sz_any h hz
  have H0 : Hid (Sls w (.slice ao n cap) n f) := h
  clear ht h hz
  go_enter Tryd.func6, Tryd.ntmps6
  go_wp2_with fail
  refine hsz.mono ?_
  rintro e w0 ⟨r, rfl, hw0, hr⟩
  rw [hw0]
  clear hw0 hsz
  by_cases hneg : r < 0
  · clear hr
    go_wp2_with fail
    go_ret
    exact ⟨rfl, Below.refl _ _⟩
  · have hr' := hr.resolve_left hneg
    have hlen : n ≤ 1048576 := by omega
    have HZ : Hid (∀ k, k < n → (f k).size ≤ 1048576) := fun k hk => by have := tot_le f n k hk; omega
    have hr0 : 0 ≤ r := hr'.1
    clear hr hr'
    go_wp2_with fail
    refine (to_any H0.out hlen).mono ?_
    rintro e w1 ⟨v1, rfl, h1, b1⟩
    have H1 : Hid (Sls w1 v1 n f) := h1
    have B1 : Hid (Below w.heap.size w w1) := b1
    have H01 : Hid (Sls w1 (.slice ao n cap) n f) := H0.out.below b1
    clear h1 b1
    go_wp2_with fail
    refine (jn.spec_any H1.out HZ.out).mono ?_
    rintro e w2 ⟨rfl, b2⟩
    have H02 : Hid (Sls w2 (.slice ao n cap) n f) := H01.out.below b2
    have B2 : Hid (Below w.heap.size w w2) := B1.out.trans (b2.mono B1.out.size)
    clear H01 B1 b2 H1
    have HI : Hid (∀ v w, Sls w v n f → TabOk w → Calls Tryd.prog 22 #[v] w fun e w' => e = .returned (.tuple #[.string (jn.z n f), .bool (jn.okb n f)]) ∧ Below w.heap.size w w') := fun v w h ht => jn.impl_any h HZ.out ht
    generalize jn.z n f = s at *
    generalize jn.okb n f = g at *
    go_wp2_with fail
    refine (to_any H02.out hlen).mono ?_
    rintro e w3 ⟨v3, rfl, h3, b3⟩
    have H3 : Hid (Sls w3 v3 n f) := h3
    have B3 : Hid (Below w.heap.size w w3) := B2.out.trans (b3.mono B2.out.size)
    have H03 : Hid (Sls w3 (.slice ao n cap) n f) := H02.out.below b3
    clear h3 b3 B2 H02
    go_wp2_with fail
    refine (HI.out _ _ H3.out (tab_below HT.out B3.out)).mono ?_
    rintro e w4 ⟨rfl, b4⟩
    have H04 : Hid (Sls w4 (.slice ao n cap) n f) := H03.out.below b4
    have H34 : Hid (Sls w4 v3 n f) := H3.out.below b4
    have B4 : Hid (Below w.heap.size w w4) := B3.out.trans (b4.mono B3.out.size)
    clear H03 H3 B3 b4
    go_wp2_with fail
    refine (to_any H04.out hlen).mono ?_
    rintro e w5 ⟨v5, rfl, h5, b5⟩
    have H5 : Hid (Sls w5 v5 n f) := h5
    have H35 : Hid (Sls w5 v3 n f) := H34.out.below b5
    have B5 : Hid (Below w.heap.size w w5) := B4.out.trans (b5.mono B4.out.size)
    clear h5 b5 H34 H04 B4
    go_wp2_with fail
    refine (eq_any H35.out H5.out).mono ?_
    rintro e w' ⟨rfl, q5, rfl⟩
    go_wp2_with fail
    go_ret
    exact ⟨rfl, Go.Pst.below_drewN B5.out _⟩
end Go.Proofs.YtdeoemeibbkdoaaDoor.fnExactJournalOfW
