/- Two wholes answered at once. -/
import Derived.Test.YtfhcfeafohcjpaaFnC
namespace Go.Proofs.Ytfhcfeafohcjpaa.wh
open Go.RowKit
/-- an ending: two wholes to read, and a Bool -/
def Ans2S (R R2 : List Int) (ok : Bool) (w : World) (e : Ending) (w' : World) : Prop := ∃ v v2, e = .returned (.tuple #[v, v2, .bool ok]) ∧ OwW w' w.heap.size w'.heap.size v R ∧ OwW w' w.heap.size w'.heap.size v2 R2 ∧ Below w.heap.size w w'
/-- an ending: two wholes, each in memory of its own, and a Bool -/
def Ans2I (R R2 : List Int) (ok : Bool) (w : World) (e : Ending) (w' : World) : Prop := ∃ v v2, e = .returned (.tuple #[v, v2, .bool ok]) ∧ (∃ wm : World, (w.heap.size ≤ wm.heap.size ∧ wm.heap.size ≤ w'.heap.size) ∧ OwW w' wm.heap.size w'.heap.size v R ∧ OwW w' w.heap.size wm.heap.size v2 R2) ∧ Below w.heap.size w w'
theorem Ans2I.s {R R2 : List Int} {ok : Bool} {w : World} {e : Ending} {w' : World} (h : Ans2I R R2 ok w e w') : Ans2S R R2 ok w e w' := by
  obtain ⟨v, v2, h1, ⟨wm, hm, h2, h3⟩, h4⟩ := h
  exact ⟨v, v2, h1, h2.wide hm.1 (Nat.le_refl _), h3.wide (Nat.le_refl _) hm.2, h4⟩
theorem bx4 (w : World) (u : Value) (t : TypeId) (o o2 o3 : Obj) : Bx ((((w.alloc o).alloc o2).alloc o3).alloc (.cells #[u] t)) (w.heap.size + 1 + 1 + 1) u := by
  have := Bx.new (((w.alloc o).alloc o2).alloc o3) u t
  simpa using this
theorem two_set {w : World} {r r2 : Nat} {x x2 : Value} (hX : Bx w r x) (hX2 : Bx w r2 x2) (hne : r ≠ r2) (s s2 : Value) :
    (((w.setCell ⟨r, 0, none⟩ s).setCell ⟨r2, 0, none⟩ s2).cell? ⟨r, 0, none⟩ = some s ∧ ((w.setCell ⟨r, 0, none⟩ s).setCell ⟨r2, 0, none⟩ s2).cell? ⟨r2, 0, none⟩ = some s2) ∧
    (w.setCell ⟨r, 0, none⟩ s).cell? ⟨r2, 0, none⟩ = some x2 ∧ (w.setCell ⟨r, 0, none⟩ s).frozen? ⟨r2, 0, none⟩ = false :=
  have h2 : Bx (w.setCell ⟨r, 0, none⟩ s) r2 x2 := hX2.other (by omega) s
  ⟨⟨((hX.set s).other hne s2).cell, (h2.set s2).cell⟩, h2.cell, h2.free⟩
theorem out2_no {w w5 : World} {r r2 : Nat} (hB : Below w.heap.size w w5) (h1 : w.heap.size ≤ r) (h2 : w.heap.size ≤ r2) :
    Ans2I [] [] false w (.returned (.tuple #[.agg #[.slice none 0 0], .agg #[.slice none 0 0], .bool false])) ((w5.setCell ⟨r, 0, none⟩ (.slice none 0 0)).setCell ⟨r2, 0, none⟩ (.slice none 0 0)) :=
  ⟨_, _, rfl, ⟨w, ⟨Nat.le_refl _, by have := hB.size; simpa using this⟩, OwW.zero _ _ _, OwW.zero _ _ _⟩, (hB.setCell h1 _).setCell h2 _⟩
theorem out2_yes {w W1 w5 wm : World} {r r2 : Nat} {s s2 : Value} {R R2 : List Int} {ok : Bool} (hB : Below w.heap.size w W1) (h1 : w.heap.size ≤ r) (h2 : r < W1.heap.size) (h3 : w.heap.size ≤ r2) (h4 : r2 < W1.heap.size) (hm : W1.heap.size ≤ wm.heap.size ∧ wm.heap.size ≤ w5.heap.size)
    (ho : Own w5 wm.heap.size w5.heap.size s R) (ho2 : Own w5 W1.heap.size wm.heap.size s2 R2) (hb : Below W1.heap.size W1 w5) :
    Ans2I R R2 ok w (.returned (.tuple #[.agg #[s], .agg #[s2], .bool ok])) ((w5.setCell ⟨r, 0, none⟩ s).setCell ⟨r2, 0, none⟩ s2) :=
  ⟨_, _, rfl, ⟨wm, ⟨Nat.le_trans hB.size hm.1, by have := hm.2; simpa using this⟩,
    ⟨_, rfl, ((ho.setBelow (by omega) s).setBelow (by omega) s2).wide (Nat.le_refl _) (by simp)⟩,
    ⟨_, rfl, ((ho2.setBelow h2 s).setBelow h4 s2).wide hB.size (Nat.le_refl _)⟩⟩, ((hB.trans (hb.mono hB.size)).setCell h1 _).setCell h3 _⟩
theorem out2_yesS {w W1 w5 : World} {r r2 : Nat} {s s2 : Value} {R R2 : List Int} {ok : Bool} (hB : Below w.heap.size w W1) (h1 : w.heap.size ≤ r) (h2 : r < W1.heap.size) (h3 : w.heap.size ≤ r2) (h4 : r2 < W1.heap.size)
    (ho : Own w5 W1.heap.size w5.heap.size s R) (ho2 : Own w5 W1.heap.size w5.heap.size s2 R2) (hb : Below W1.heap.size W1 w5) :
    Ans2S R R2 ok w (.returned (.tuple #[.agg #[s], .agg #[s2], .bool ok])) ((w5.setCell ⟨r, 0, none⟩ s).setCell ⟨r2, 0, none⟩ s2) :=
  ⟨_, _, rfl, ⟨_, rfl, ((ho.setBelow h2 s).setBelow h4 s2).wide hB.size (by simp)⟩,
    ⟨_, rfl, ((ho2.setBelow h2 s).setBelow h4 s2).wide hB.size (by simp)⟩, ((hB.trans (hb.mono hB.size)).setCell h1 _).setCell h3 _⟩
/-- what two variables' boxes hold behind a call whose order among the others is open -/
def Fin2 (W wx : World) (b : Nat) (v : Value) (R : List Int) (b2 : Nat) (v2 : Value) (R2 : List Int) : Prop := W.heap.size ≤ b ∧ W.heap.size ≤ b2 ∧ b ≠ b2 ∧ Bx wx b v ∧ Bx wx b2 v2 ∧ Rd wx wx.heap.size v R ∧ Rd wx wx.heap.size v2 R2 ∧ Below W.heap.size W wx
theorem fin2 {W wx : World} {b b2 : Nat} {v v2 : Value} {R R2 : List Int} (h1 : W.heap.size ≤ b) (h2 : W.heap.size ≤ b2) (h3 : b ≠ b2) (h4 : Bx wx b v) (h5 : Bx wx b2 v2) (h6 : Rd wx wx.heap.size v R) (h7 : Rd wx wx.heap.size v2 R2) (h8 : Below W.heap.size W wx) : Fin2 W wx b v R b2 v2 R2 := ⟨h1, h2, h3, h4, h5, h6, h7, h8⟩
theorem viaAA {W W' wt : World} {o o2 : Obj} (bd : Below W.heap.size W W') (b : Below ((W'.alloc o).alloc o2).heap.size ((W'.alloc o).alloc o2) wt) : Below W.heap.size W wt :=
  ((bd.alloc bd.size o).alloc (by have := bd.size; simp; omega) o2).trans (b.mono (by have := bd.size; simp; omega))
end Go.Proofs.Ytfhcfeafohcjpaa.wh
