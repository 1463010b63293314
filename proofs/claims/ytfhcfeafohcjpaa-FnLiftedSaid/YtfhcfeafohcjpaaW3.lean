/- Two wholes answered at once, laid into two variables' boxes: the worlds in which this ends. -/
import Derived.Test.YtfhcfeafohcjpaaW2
namespace Go.Proofs.Ytfhcfeafohcjpaa.wh
open Go.RowKit

theorem Bx.drew {w : World} {b : Nat} {v : Value} (h : Bx w b v) : Bx w.drew b v := h.kept (Below.refl _ _).drew
theorem rd_of {n wx : World} {lo : Nat} {v : Value} {R : List Int} (ho : Own n lo n.heap.size v R) (hs : n.heap.size ≤ wx.heap.size) (h : ∀ k, lo ≤ k → k < n.heap.size → wx.heap[k]? = n.heap[k]?) : Rd wx wx.heap.size v R :=
  ((ho.stay (w' := wx) fun k h1 _ h3 => h k h1 h3).rd).ls hs
theorem alloc_old (n : World) (o : Obj) {k : Nat} (h : k < n.heap.size) : (n.alloc o).heap[k]? = n.heap[k]? := ((Below.refl n.heap.size n).alloc (Nat.le_refl _) o).block k h
theorem set_old (n : World) (b : Nat) (v : Value) {k : Nat} (h : k ≠ b) : (n.setCell ⟨b, 0, none⟩ v).heap[k]? = n.heap[k]? := Below.heap_setCell _ _ _ _ h

section
variable {W n : World} {lo : Nat} {v v2 : Value} {R R2 : List Int} {t t2 : TypeId}
theorem leaf2 (o0 : Hid (Own n lo n.heap.size v R)) (o1 : Hid (Own n lo n.heap.size v2 R2)) (hb : Hid (Below W.heap.size W n)) :
    Fin2 W ((n.alloc (.cells #[v] t)).alloc (.cells #[v2] t2)) n.heap.size v R (n.heap.size + 1) v2 R2 := by
  have hz := hb.out.size
  have hk : ∀ k, lo ≤ k → k < n.heap.size → ((n.alloc (.cells #[v] t)).alloc (.cells #[v2] t2)).heap[k]? = n.heap[k]? := fun k _ h => (alloc_old _ _ (by simp; omega)).trans (alloc_old _ _ h)
  exact ⟨hz, by omega, by omega, (Bx.new _ _ _).alloc _, Bx.new2 _ _ _ _, rd_of o0.out (by simp; omega) hk, rd_of o1.out (by simp; omega) hk, (hb.out.alloc hz _).alloc (by simp; omega) _⟩
theorem leaf2s (o0 : Hid (Own n lo n.heap.size v R)) (o1 : Hid (Own n lo n.heap.size v2 R2)) (hb : Hid (Below W.heap.size W n)) :
    Fin2 W ((n.alloc (.cells #[v2] t)).alloc (.cells #[v] t2)) (n.heap.size + 1) v R n.heap.size v2 R2 := by
  have hz := hb.out.size
  have hk : ∀ k, lo ≤ k → k < n.heap.size → ((n.alloc (.cells #[v2] t)).alloc (.cells #[v] t2)).heap[k]? = n.heap[k]? := fun k _ h => (alloc_old _ _ (by simp; omega)).trans (alloc_old _ _ h)
  exact ⟨by omega, hz, by omega, Bx.new2 _ _ _ _, (Bx.new _ _ _).alloc _, rd_of o0.out (by simp; omega) hk, rd_of o1.out (by simp; omega) hk, (hb.out.alloc hz _).alloc (by simp; omega) _⟩
variable {b c : Nat} {u u2 : Value}
theorem leaf1 (hB : Hid (Bx n b u)) (o0 : Hid (Own n lo n.heap.size v R)) (o1 : Hid (Own n lo n.heap.size v2 R2)) (hb : Hid (Below W.heap.size W n)) (h1 : W.heap.size ≤ b) (h2 : b < lo) :
    Fin2 W ((n.setCell ⟨b, 0, none⟩ v).alloc (.cells #[v2] t)) b v R n.heap.size v2 R2 := by
  have hz := hb.out.size
  have hl := hB.out.lt
  have hk : ∀ k, lo ≤ k → k < n.heap.size → ((n.setCell ⟨b, 0, none⟩ v).alloc (.cells #[v2] t)).heap[k]? = n.heap[k]? := fun k h0 h => (alloc_old _ _ (by simpa using h)).trans (set_old _ _ _ (by omega))
  have e : (n.setCell ⟨b, 0, none⟩ v).heap.size = n.heap.size := by simp
  have hN : Bx ((n.setCell ⟨b, 0, none⟩ v).alloc (.cells #[v2] t)) n.heap.size v2 := by
    have h := Bx.new (n.setCell ⟨b, 0, none⟩ v) v2 t
    rw [e] at h
    exact h
  exact ⟨h1, hz, by omega, (hB.out.set v).alloc _, hN, rd_of o0.out (by simp) hk, rd_of o1.out (by simp) hk, (hb.out.setCell h1 _).alloc (by simp; omega) _⟩
theorem leaf1s (hB : Hid (Bx n b u)) (o0 : Hid (Own n lo n.heap.size v R)) (o1 : Hid (Own n lo n.heap.size v2 R2)) (hb : Hid (Below W.heap.size W n)) (h1 : W.heap.size ≤ b) (h2 : b < lo) :
    Fin2 W ((n.setCell ⟨b, 0, none⟩ v2).alloc (.cells #[v] t)) n.heap.size v R b v2 R2 := by
  have hz := hb.out.size
  have hl := hB.out.lt
  have hk : ∀ k, lo ≤ k → k < n.heap.size → ((n.setCell ⟨b, 0, none⟩ v2).alloc (.cells #[v] t)).heap[k]? = n.heap[k]? := fun k h0 h => (alloc_old _ _ (by simpa using h)).trans (set_old _ _ _ (by omega))
  have e : (n.setCell ⟨b, 0, none⟩ v2).heap.size = n.heap.size := by simp
  have hN : Bx ((n.setCell ⟨b, 0, none⟩ v2).alloc (.cells #[v] t)) n.heap.size v := by
    have h := Bx.new (n.setCell ⟨b, 0, none⟩ v2) v t
    rw [e] at h
    exact h
  exact ⟨hz, h1, by omega, hN, (hB.out.set v2).alloc _, rd_of o0.out (by simp) hk, rd_of o1.out (by simp) hk, (hb.out.setCell h1 _).alloc (by simp; omega) _⟩
theorem leaf1a (hB : Hid (Bx n b u)) (o0 : Hid (Own n lo n.heap.size v R)) (o1 : Hid (Own n lo n.heap.size v2 R2)) (hb : Hid (Below W.heap.size W n)) (h1 : W.heap.size ≤ b) (h2 : b < lo) :
    Fin2 W ((n.alloc (.cells #[v2] t)).setCell ⟨b, 0, none⟩ v) b v R n.heap.size v2 R2 := by
  have hz := hb.out.size
  have hl := hB.out.lt
  have hk : ∀ k, lo ≤ k → k < n.heap.size → ((n.alloc (.cells #[v2] t)).setCell ⟨b, 0, none⟩ v).heap[k]? = n.heap[k]? := fun k h0 h => (set_old _ _ _ (by omega)).trans (alloc_old _ _ h)
  exact ⟨h1, hz, by omega, (hB.out.alloc _).set v, (Bx.new _ _ _).other (by omega) _, rd_of o0.out (by simp) hk, rd_of o1.out (by simp) hk, (hb.out.alloc hz _).setCell h1 _⟩
theorem leaf1as (hB : Hid (Bx n b u)) (o0 : Hid (Own n lo n.heap.size v R)) (o1 : Hid (Own n lo n.heap.size v2 R2)) (hb : Hid (Below W.heap.size W n)) (h1 : W.heap.size ≤ b) (h2 : b < lo) :
    Fin2 W ((n.alloc (.cells #[v] t)).setCell ⟨b, 0, none⟩ v2) n.heap.size v R b v2 R2 := by
  have hz := hb.out.size
  have hl := hB.out.lt
  have hk : ∀ k, lo ≤ k → k < n.heap.size → ((n.alloc (.cells #[v] t)).setCell ⟨b, 0, none⟩ v2).heap[k]? = n.heap[k]? := fun k h0 h => (set_old _ _ _ (by omega)).trans (alloc_old _ _ h)
  exact ⟨hz, h1, by omega, (Bx.new _ _ _).other (by omega) _, (hB.out.alloc _).set v2, rd_of o0.out (by simp) hk, rd_of o1.out (by simp) hk, (hb.out.alloc hz _).setCell h1 _⟩
theorem leaf1b {z : Value} (hB : Hid (Bx n b u)) (o0 : Hid (Own n lo n.heap.size v R)) (o1 : Hid (Own n lo n.heap.size v2 R2)) (hb : Hid (Below W.heap.size W n)) (h1 : W.heap.size ≤ b) (h2 : b < lo) :
    Fin2 W (((n.alloc (.cells #[z] t)).setCell ⟨b, 0, none⟩ v).setCell ⟨n.heap.size, 0, none⟩ v2) b v R n.heap.size v2 R2 := by
  have hz := hb.out.size
  have hl := hB.out.lt
  have hk : ∀ k, lo ≤ k → k < n.heap.size → (((n.alloc (.cells #[z] t)).setCell ⟨b, 0, none⟩ v).setCell ⟨n.heap.size, 0, none⟩ v2).heap[k]? = n.heap[k]? := fun k h0 h => (set_old _ _ _ (by omega)).trans ((set_old _ _ _ (by omega)).trans (alloc_old _ _ h))
  exact ⟨h1, hz, by omega, ((hB.out.alloc _).set v).other (by omega) _, ((Bx.new _ _ _).other (by omega) _).set v2, rd_of o0.out (by simp) hk, rd_of o1.out (by simp) hk, ((hb.out.alloc hz _).setCell h1 _).setCell hz _⟩
theorem leaf1bs {z : Value} (hB : Hid (Bx n b u)) (o0 : Hid (Own n lo n.heap.size v R)) (o1 : Hid (Own n lo n.heap.size v2 R2)) (hb : Hid (Below W.heap.size W n)) (h1 : W.heap.size ≤ b) (h2 : b < lo) :
    Fin2 W (((n.alloc (.cells #[z] t)).setCell ⟨b, 0, none⟩ v2).setCell ⟨n.heap.size, 0, none⟩ v) n.heap.size v R b v2 R2 := by
  have hz := hb.out.size
  have hl := hB.out.lt
  have hk : ∀ k, lo ≤ k → k < n.heap.size → (((n.alloc (.cells #[z] t)).setCell ⟨b, 0, none⟩ v2).setCell ⟨n.heap.size, 0, none⟩ v).heap[k]? = n.heap[k]? := fun k h0 h => (set_old _ _ _ (by omega)).trans ((set_old _ _ _ (by omega)).trans (alloc_old _ _ h))
  exact ⟨hz, h1, by omega, ((Bx.new _ _ _).other (by omega) _).set v, ((hB.out.alloc _).set v2).other (by omega) _, rd_of o0.out (by simp) hk, rd_of o1.out (by simp) hk, ((hb.out.alloc hz _).setCell h1 _).setCell hz _⟩
theorem leaf0 (hB : Hid (Bx n b u)) (hC : Hid (Bx n c u2)) (o0 : Hid (Own n lo n.heap.size v R)) (o1 : Hid (Own n lo n.heap.size v2 R2)) (hb : Hid (Below W.heap.size W n)) (h1 : W.heap.size ≤ b) (h2 : b < lo) (h3 : W.heap.size ≤ c) (h4 : c < lo) (hne : b ≠ c) :
    Fin2 W ((n.setCell ⟨b, 0, none⟩ v).setCell ⟨c, 0, none⟩ v2) b v R c v2 R2 := by
  have hk : ∀ k, lo ≤ k → k < n.heap.size → ((n.setCell ⟨b, 0, none⟩ v).setCell ⟨c, 0, none⟩ v2).heap[k]? = n.heap[k]? := fun k h0 _ => (set_old _ _ _ (by omega)).trans (set_old _ _ _ (by omega))
  exact ⟨h1, h3, hne, (hB.out.set v).other hne _, (hC.out.other (Ne.symm hne) _).set v2, rd_of o0.out (by simp) hk, rd_of o1.out (by simp) hk, (hb.out.setCell h1 _).setCell h3 _⟩
theorem leaf0s (hB : Hid (Bx n b u)) (hC : Hid (Bx n c u2)) (o0 : Hid (Own n lo n.heap.size v R)) (o1 : Hid (Own n lo n.heap.size v2 R2)) (hb : Hid (Below W.heap.size W n)) (h1 : W.heap.size ≤ b) (h2 : b < lo) (h3 : W.heap.size ≤ c) (h4 : c < lo) (hne : b ≠ c) :
    Fin2 W ((n.setCell ⟨c, 0, none⟩ v2).setCell ⟨b, 0, none⟩ v) b v R c v2 R2 := by
  have hk : ∀ k, lo ≤ k → k < n.heap.size → ((n.setCell ⟨c, 0, none⟩ v2).setCell ⟨b, 0, none⟩ v).heap[k]? = n.heap[k]? := fun k h0 _ => (set_old _ _ _ (by omega)).trans (set_old _ _ _ (by omega))
  exact ⟨h1, h3, hne, (hB.out.other hne _).set v, (hC.out.set v2).other (Ne.symm hne) _, rd_of o0.out (by simp) hk, rd_of o1.out (by simp) hk, (hb.out.setCell h3 _).setCell h1 _⟩
end
end Go.Proofs.Ytfhcfeafohcjpaa.wh
