/- The law FnExactReadReal: its walk, over what both sides answer. -/
import Derived.Test.YtdeoemeibbkdoaaDoorRrF
import Derived.Test.YtdeoemeibbkdoaaDoorWr
import Derived.Deep.RegionHeld3
import Derived.Deep.DeepCutAuto
namespace Go.Proofs.YtdeoemeibbkdoaaDoor.fnExactReadRealW
open Go.RowKit Go.Lib Go.Rl Go.Proofs.YtdeoemeibbkdoaaDoor.wh Go.Proofs.YtdeoemeibbkdoaaDoor.rd Go.Proofs.YtdeoemeibbkdoaaDoor.rl

set_option maxRecDepth 100000 in
set_option maxHeartbeats 4000000 in
theorem walk (s : ByteArray) (hm : s.size ≤ maxLen) (w : World) (hl : LaidOk w) (hx : MaxOk w) :
    Calls Tryd.prog 4 #[.string s] w fun e w' => e = .returned (.bool true) ∧ Below w.heap.size w w' := by
  unfold maxLen at hm
  by_cases hs : s.size ≤ 1048576
  case neg =>
    have hgt : 1048576 < s.size := by omega
    clear hs hl hx
    go_enter Tryd.func4, Tryd.ntmps4
    go_wp2_with fail
    go_ret
    exact ⟨rfl, Below.refl _ _⟩
  obtain ⟨R, hR⟩ : ∃ r : List Int, r = fReadReal.R s.data.toList := ⟨_, rfl⟩
  obtain ⟨ok, hok⟩ : ∃ r : Bool, r = fReadReal.ok s.data.toList := ⟨_, rfl⟩
  have HS : Hid (∀ (w : World), Calls Tryd.prog 13 #[.string s] w (AnsS R ok w)) := fun w   => by rw [hR, hok]; exact fReadReal.spec_any s hs w
  have HI : Hid (∀ (w : World), LaidOk w → MaxOk w → Calls Tryd.prog 14 #[.string s] w (AnsI R ok w)) := fun w a b => by rw [hR, hok]; exact fReadReal.impl_any s hs w a b
  have hlen : (R.length : Int) ≤ 1000 := by rw [hR]; have := fReadReal.len s.data.toList; omega
  have HL : Hid (LaidOk w) := hl
  have HX : Hid (MaxOk w) := hx
  clear hl hx
  clear hR hok
  have B0 : Hid (Below w.heap.size w w) := Below.refl _ _
  go_enter Tryd.func4, Tryd.ntmps4
  go_wp2_with fail
  refine (HS.out w  ).mono ?_
  rintro e w1 ⟨_, rfl, ⟨r0, rfl, o0⟩, b⟩
  obtain ⟨r0a, r0c, rfl⟩ := o0.shape
  have Zw1 : Hid (w.heap.size ≤ w1.heap.size) := b.size
  replace B0 : Hid (Below w.heap.size w w1) := B0.out.trans (b.mono (Nat.le_refl _))
  have Or0 : Hid (Rd w1 w1.heap.size (.slice r0a R.length r0c) R) := o0
  clear b o0
  go_wp2_with fail
  obtain ⟨w2, hw⟩ : ∃ x, x = w1.alloc (.cells #[(.slice r0a R.length r0c)] 28) := ⟨_, rfl⟩
  rw [← hw]
  have b : Below w1.heap.size w1 w2 := by rw [hw]; exact new1 _ _
  have x : Bx w2 w1.heap.size (.slice r0a R.length r0c) := by rw [hw]; exact Bx.new _ _ _
  have Zw2 : Hid (w1.heap.size ≤ w2.heap.size) := b.size
  replace B0 : Hid (Below w.heap.size w w2) := B0.out.trans (b.mono (by have := Zw1.out; omega))
  replace Or0 : Hid (Rd w2 w1.heap.size (.slice r0a R.length r0c) R) := Or0.out.below b (Nat.le_refl _)
  have XS0 : Hid (Bx w2 w1.heap.size (.slice r0a R.length r0c)) := x
  have cXS0 : w2.cell? ⟨w1.heap.size, 0, none⟩ = some (.slice r0a R.length r0c) := XS0.out.cell
  have LXS0 : Hid (w1.heap.size < w2.heap.size) := XS0.out.lt
  clear b hw x
  refine (HI.out w2 (laid_below HL.out B0.out) (max_below HX.out B0.out)).mono ?_
  rintro e w3 ⟨_, rfl, ⟨g0, rfl, o0⟩, b⟩
  obtain ⟨g0a, g0c, rfl⟩ := o0.shape
  have Zw3 : Hid (w2.heap.size ≤ w3.heap.size) := b.size
  replace B0 : Hid (Below w.heap.size w w3) := B0.out.trans (b.mono (by have := Zw1.out; have := Zw2.out; omega))
  replace Or0 : Hid (Rd w3 w1.heap.size (.slice r0a R.length r0c) R) := Or0.out.below b (by have := Zw2.out; omega)
  replace XS0 : Hid (Bx w3 w1.heap.size (.slice r0a R.length r0c)) := XS0.out.kept b
  replace cXS0 : w3.cell? ⟨w1.heap.size, 0, none⟩ = some (.slice r0a R.length r0c) := XS0.out.cell
  have Og0 : Hid (Own w3 w2.heap.size w3.heap.size (.slice g0a R.length g0c) R) := o0
  clear b o0
  have dXS0 : (w3.alloc (.cells #[(.slice g0a R.length g0c)] 28)).cell? ⟨w1.heap.size, 0, none⟩ = some (.slice r0a R.length r0c) := (XS0.out.alloc _).cell
  go_wp2_with fail
  clear dXS0
  obtain ⟨w4, hw⟩ : ∃ x, x = w3.alloc (.cells #[(.slice g0a R.length g0c)] 28) := ⟨_, rfl⟩
  rw [← hw]
  have b : Below w3.heap.size w3 w4 := by rw [hw]; exact new1 _ _
  have x : Bx w4 w3.heap.size (.slice g0a R.length g0c) := by rw [hw]; exact Bx.new _ _ _
  have Zw4 : Hid (w3.heap.size ≤ w4.heap.size) := b.size
  replace B0 : Hid (Below w.heap.size w w4) := B0.out.trans (b.mono (by have := Zw1.out; have := Zw2.out; have := Zw3.out; omega))
  replace Or0 : Hid (Rd w4 w1.heap.size (.slice r0a R.length r0c) R) := Or0.out.below b (by have := Zw2.out; have := Zw3.out; omega)
  replace Og0 : Hid (Own w4 w2.heap.size w3.heap.size (.slice g0a R.length g0c) R) := Og0.out.below b (Nat.le_refl _)
  replace XS0 : Hid (Bx w4 w1.heap.size (.slice r0a R.length r0c)) := XS0.out.kept b
  replace cXS0 : w4.cell? ⟨w1.heap.size, 0, none⟩ = some (.slice r0a R.length r0c) := XS0.out.cell
  have XG0 : Hid (Bx w4 w3.heap.size (.slice g0a R.length g0c)) := x
  have cXG0 : w4.cell? ⟨w3.heap.size, 0, none⟩ = some (.slice g0a R.length g0c) := XG0.out.cell
  have LXG0 : Hid (w3.heap.size < w4.heap.size) := XG0.out.lt
  clear b hw x
  refine (eqR_any ⟨_, rfl, (Og0.out.rd.ls (by have := Zw4.out; omega))⟩ ⟨_, rfl, (Or0.out.ls (by have := Zw2.out; have := Zw3.out; have := Zw4.out; omega))⟩).mono ?_
  rintro e w5 ⟨rfl, b⟩
  have Zw5 : Hid (w4.heap.size ≤ w5.heap.size) := b.size
  replace B0 : Hid (Below w.heap.size w w5) := B0.out.trans (b.mono (by have := Zw1.out; have := Zw2.out; have := Zw3.out; have := Zw4.out; omega))
  replace Or0 : Hid (Rd w5 w1.heap.size (.slice r0a R.length r0c) R) := Or0.out.below b (by have := Zw2.out; have := Zw3.out; have := Zw4.out; omega)
  replace Og0 : Hid (Own w5 w2.heap.size w3.heap.size (.slice g0a R.length g0c) R) := Og0.out.below b (by have := Zw4.out; omega)
  replace XS0 : Hid (Bx w5 w1.heap.size (.slice r0a R.length r0c)) := XS0.out.kept b
  replace cXS0 : w5.cell? ⟨w1.heap.size, 0, none⟩ = some (.slice r0a R.length r0c) := XS0.out.cell
  replace XG0 : Hid (Bx w5 w3.heap.size (.slice g0a R.length g0c)) := XG0.out.kept b
  replace cXG0 : w5.cell? ⟨w3.heap.size, 0, none⟩ = some (.slice g0a R.length g0c) := XG0.out.cell
  clear b
  go_wp2_with fail
  refine (markR_any ⟨_, rfl, Og0.out⟩ (by omega) (by omega) (by omega)).mono ?_
  rintro e w6 ⟨rfl, o, t⟩
  clear Og0
  have Zw6 : Hid (w5.heap.size ≤ w6.heap.size) := t.size
  replace B0 : Hid (Below w.heap.size w w6) := B0.out.trans (t.below (by have := Zw1.out; have := Zw2.out; omega) (by have := Zw1.out; have := Zw2.out; have := Zw3.out; have := Zw4.out; have := Zw5.out; omega))
  replace Or0 : Hid (Rd w6 w1.heap.size (.slice r0a R.length r0c) R) := Or0.out.turned t (by have := Zw2.out; omega) (by have := Zw2.out; have := Zw3.out; have := Zw4.out; have := Zw5.out; omega)
  replace XS0 : Hid (Bx w6 w1.heap.size (.slice r0a R.length r0c)) := XS0.out.turned t (by have := Zw1.out; have := Zw2.out; have := Zw3.out; have := Zw4.out; have := Zw5.out; have := LXS0.out; omega)
  replace cXS0 : w6.cell? ⟨w1.heap.size, 0, none⟩ = some (.slice r0a R.length r0c) := XS0.out.cell
  replace XG0 : Hid (Bx w6 w3.heap.size (.slice g0a R.length g0c)) := XG0.out.turned t (by have := Zw1.out; have := Zw2.out; have := Zw3.out; have := Zw4.out; have := Zw5.out; have := LXG0.out; omega)
  replace cXG0 : w6.cell? ⟨w3.heap.size, 0, none⟩ = some (.slice g0a R.length g0c) := XG0.out.cell
  obtain ⟨_, ho, o⟩ := o
  obtain rfl := agg_inj ho
  have Og0 : Hid (Own w6 w2.heap.size w3.heap.size (.slice g0a R.length g0c) (mk (1) R.length)) := o
  clear o t
  go_wp2_with fail
  refine (heldR_any ⟨_, rfl, (Og0.out.rd.ls (by have := Zw4.out; have := Zw5.out; have := Zw6.out; omega))⟩ (by omega) (by omega) (by omega)).mono ?_
  rintro e w7 ⟨rfl, b⟩
  have Zw7 : Hid (w6.heap.size ≤ w7.heap.size) := b.size
  replace B0 : Hid (Below w.heap.size w w7) := B0.out.trans (b.mono (by have := Zw1.out; have := Zw2.out; have := Zw3.out; have := Zw4.out; have := Zw5.out; have := Zw6.out; omega))
  replace Or0 : Hid (Rd w7 w1.heap.size (.slice r0a R.length r0c) R) := Or0.out.below b (by have := Zw2.out; have := Zw3.out; have := Zw4.out; have := Zw5.out; have := Zw6.out; omega)
  replace Og0 : Hid (Own w7 w2.heap.size w3.heap.size (.slice g0a R.length g0c) (mk (1) R.length)) := Og0.out.below b (by have := Zw4.out; have := Zw5.out; have := Zw6.out; omega)
  replace XS0 : Hid (Bx w7 w1.heap.size (.slice r0a R.length r0c)) := XS0.out.kept b
  replace cXS0 : w7.cell? ⟨w1.heap.size, 0, none⟩ = some (.slice r0a R.length r0c) := XS0.out.cell
  replace XG0 : Hid (Bx w7 w3.heap.size (.slice g0a R.length g0c)) := XG0.out.kept b
  replace cXG0 : w7.cell? ⟨w3.heap.size, 0, none⟩ = some (.slice g0a R.length g0c) := XG0.out.cell
  clear b
  go_wp2_with fail
  refine (HI.out w7 (laid_below HL.out B0.out) (max_below HX.out B0.out)).mono ?_
  rintro e w8 ⟨_, rfl, ⟨h0, rfl, o0⟩, b⟩
  obtain ⟨h0a, h0c, rfl⟩ := o0.shape
  have Zw8 : Hid (w7.heap.size ≤ w8.heap.size) := b.size
  replace B0 : Hid (Below w.heap.size w w8) := B0.out.trans (b.mono (by have := Zw1.out; have := Zw2.out; have := Zw3.out; have := Zw4.out; have := Zw5.out; have := Zw6.out; have := Zw7.out; omega))
  replace Or0 : Hid (Rd w8 w1.heap.size (.slice r0a R.length r0c) R) := Or0.out.below b (by have := Zw2.out; have := Zw3.out; have := Zw4.out; have := Zw5.out; have := Zw6.out; have := Zw7.out; omega)
  replace Og0 : Hid (Own w8 w2.heap.size w3.heap.size (.slice g0a R.length g0c) (mk (1) R.length)) := Og0.out.below b (by have := Zw4.out; have := Zw5.out; have := Zw6.out; have := Zw7.out; omega)
  replace XS0 : Hid (Bx w8 w1.heap.size (.slice r0a R.length r0c)) := XS0.out.kept b
  replace cXS0 : w8.cell? ⟨w1.heap.size, 0, none⟩ = some (.slice r0a R.length r0c) := XS0.out.cell
  replace XG0 : Hid (Bx w8 w3.heap.size (.slice g0a R.length g0c)) := XG0.out.kept b
  replace cXG0 : w8.cell? ⟨w3.heap.size, 0, none⟩ = some (.slice g0a R.length g0c) := XG0.out.cell
  have Oh0 : Hid (Own w8 w7.heap.size w8.heap.size (.slice h0a R.length h0c) R) := o0
  clear b o0
  have dXS0 : (w8.alloc (.cells #[(.slice h0a R.length h0c)] 28)).cell? ⟨w1.heap.size, 0, none⟩ = some (.slice r0a R.length r0c) := (XS0.out.alloc _).cell
  have dXG0 : (w8.alloc (.cells #[(.slice h0a R.length h0c)] 28)).cell? ⟨w3.heap.size, 0, none⟩ = some (.slice g0a R.length g0c) := (XG0.out.alloc _).cell
  go_wp2_with fail
  clear dXS0 dXG0
  obtain ⟨w9, hw⟩ : ∃ x, x = w8.alloc (.cells #[(.slice h0a R.length h0c)] 28) := ⟨_, rfl⟩
  rw [← hw]
  have b : Below w8.heap.size w8 w9 := by rw [hw]; exact new1 _ _
  have x : Bx w9 w8.heap.size (.slice h0a R.length h0c) := by rw [hw]; exact Bx.new _ _ _
  have Zw9 : Hid (w8.heap.size ≤ w9.heap.size) := b.size
  replace B0 : Hid (Below w.heap.size w w9) := B0.out.trans (b.mono (by have := Zw1.out; have := Zw2.out; have := Zw3.out; have := Zw4.out; have := Zw5.out; have := Zw6.out; have := Zw7.out; have := Zw8.out; omega))
  replace Or0 : Hid (Rd w9 w1.heap.size (.slice r0a R.length r0c) R) := Or0.out.below b (by have := Zw2.out; have := Zw3.out; have := Zw4.out; have := Zw5.out; have := Zw6.out; have := Zw7.out; have := Zw8.out; omega)
  replace Og0 : Hid (Own w9 w2.heap.size w3.heap.size (.slice g0a R.length g0c) (mk (1) R.length)) := Og0.out.below b (by have := Zw4.out; have := Zw5.out; have := Zw6.out; have := Zw7.out; have := Zw8.out; omega)
  replace Oh0 : Hid (Own w9 w7.heap.size w8.heap.size (.slice h0a R.length h0c) R) := Oh0.out.below b (Nat.le_refl _)
  replace XS0 : Hid (Bx w9 w1.heap.size (.slice r0a R.length r0c)) := XS0.out.kept b
  replace cXS0 : w9.cell? ⟨w1.heap.size, 0, none⟩ = some (.slice r0a R.length r0c) := XS0.out.cell
  replace XG0 : Hid (Bx w9 w3.heap.size (.slice g0a R.length g0c)) := XG0.out.kept b
  replace cXG0 : w9.cell? ⟨w3.heap.size, 0, none⟩ = some (.slice g0a R.length g0c) := XG0.out.cell
  have XH0 : Hid (Bx w9 w8.heap.size (.slice h0a R.length h0c)) := x
  have cXH0 : w9.cell? ⟨w8.heap.size, 0, none⟩ = some (.slice h0a R.length h0c) := XH0.out.cell
  have LXH0 : Hid (w8.heap.size < w9.heap.size) := XH0.out.lt
  clear b hw x
  refine (eqR_any ⟨_, rfl, (Oh0.out.rd.ls (by have := Zw9.out; omega))⟩ ⟨_, rfl, (Or0.out.ls (by have := Zw2.out; have := Zw3.out; have := Zw4.out; have := Zw5.out; have := Zw6.out; have := Zw7.out; have := Zw8.out; have := Zw9.out; omega))⟩).mono ?_
  rintro e w10 ⟨rfl, b⟩
  have Zw10 : Hid (w9.heap.size ≤ w10.heap.size) := b.size
  replace B0 : Hid (Below w.heap.size w w10) := B0.out.trans (b.mono (by have := Zw1.out; have := Zw2.out; have := Zw3.out; have := Zw4.out; have := Zw5.out; have := Zw6.out; have := Zw7.out; have := Zw8.out; have := Zw9.out; omega))
  replace Or0 : Hid (Rd w10 w1.heap.size (.slice r0a R.length r0c) R) := Or0.out.below b (by have := Zw2.out; have := Zw3.out; have := Zw4.out; have := Zw5.out; have := Zw6.out; have := Zw7.out; have := Zw8.out; have := Zw9.out; omega)
  replace Og0 : Hid (Own w10 w2.heap.size w3.heap.size (.slice g0a R.length g0c) (mk (1) R.length)) := Og0.out.below b (by have := Zw4.out; have := Zw5.out; have := Zw6.out; have := Zw7.out; have := Zw8.out; have := Zw9.out; omega)
  replace Oh0 : Hid (Own w10 w7.heap.size w8.heap.size (.slice h0a R.length h0c) R) := Oh0.out.below b (by have := Zw9.out; omega)
  replace XS0 : Hid (Bx w10 w1.heap.size (.slice r0a R.length r0c)) := XS0.out.kept b
  replace cXS0 : w10.cell? ⟨w1.heap.size, 0, none⟩ = some (.slice r0a R.length r0c) := XS0.out.cell
  replace XG0 : Hid (Bx w10 w3.heap.size (.slice g0a R.length g0c)) := XG0.out.kept b
  replace cXG0 : w10.cell? ⟨w3.heap.size, 0, none⟩ = some (.slice g0a R.length g0c) := XG0.out.cell
  replace XH0 : Hid (Bx w10 w8.heap.size (.slice h0a R.length h0c)) := XH0.out.kept b
  replace cXH0 : w10.cell? ⟨w8.heap.size, 0, none⟩ = some (.slice h0a R.length h0c) := XH0.out.cell
  clear b
  clear Oh0
  clear cXH0 XH0 LXH0
  go_wp2_with fail
  refine (heldR_any ⟨_, rfl, (Og0.out.rd.ls (by have := Zw4.out; have := Zw5.out; have := Zw6.out; have := Zw7.out; have := Zw8.out; have := Zw9.out; have := Zw10.out; omega))⟩ (by omega) (by omega) (by omega)).mono ?_
  rintro e w11 ⟨rfl, b⟩
  have Zw11 : Hid (w10.heap.size ≤ w11.heap.size) := b.size
  replace B0 : Hid (Below w.heap.size w w11) := B0.out.trans (b.mono (by have := Zw1.out; have := Zw2.out; have := Zw3.out; have := Zw4.out; have := Zw5.out; have := Zw6.out; have := Zw7.out; have := Zw8.out; have := Zw9.out; have := Zw10.out; omega))
  replace Or0 : Hid (Rd w11 w1.heap.size (.slice r0a R.length r0c) R) := Or0.out.below b (by have := Zw2.out; have := Zw3.out; have := Zw4.out; have := Zw5.out; have := Zw6.out; have := Zw7.out; have := Zw8.out; have := Zw9.out; have := Zw10.out; omega)
  replace Og0 : Hid (Own w11 w2.heap.size w3.heap.size (.slice g0a R.length g0c) (mk (1) R.length)) := Og0.out.below b (by have := Zw4.out; have := Zw5.out; have := Zw6.out; have := Zw7.out; have := Zw8.out; have := Zw9.out; have := Zw10.out; omega)
  replace XS0 : Hid (Bx w11 w1.heap.size (.slice r0a R.length r0c)) := XS0.out.kept b
  replace cXS0 : w11.cell? ⟨w1.heap.size, 0, none⟩ = some (.slice r0a R.length r0c) := XS0.out.cell
  replace XG0 : Hid (Bx w11 w3.heap.size (.slice g0a R.length g0c)) := XG0.out.kept b
  replace cXG0 : w11.cell? ⟨w3.heap.size, 0, none⟩ = some (.slice g0a R.length g0c) := XG0.out.cell
  clear b
  go_wp2_with fail
  go_ret
  exact ⟨rfl, B0.out⟩
end Go.Proofs.YtdeoemeibbkdoaaDoor.fnExactReadRealW
