/- What a law draws from its bytes. -/
import Derived.Test.YtfhcfeafohcjpaaSameWholeF
import Derived.Test.YtfhcfeafohcjpaaBysW
import Derived.Deep.RegionHeld3
import Derived.Laws.Bits64b
namespace Go.Proofs.Ytfhcfeafohcjpaa.fw
open Go.RowKit Go.Pl Go.Proofs.Ytfhcfeafohcjpaa.wh Go.Proofs.Ytfhcfeafohcjpaa.bys

theorem cell_lt {w : World} {b o : Nat} {v : Value} (h : w.cell? ⟨b, o, none⟩ = some v) : b < w.heap.size := by
  unfold World.cell? at h
  split at h
  · next hb => exact (Array.getElem?_eq_some_iff.1 hb).1
  · cases h
/-- the block of a source: its bytes, how many were taken, its seed -/
def Sr (w : World) (g : Nat) (v : Value) (a : Int) : Prop := ∃ s : Int, w.heap[g]? = some (.cells #[v, .int .i64 a, .int .u64 s] 91 (0, 0)) ∧ 0 ≤ s ∧ s ≤ 18446744073709551615

theorem Sr.put {w : World} {g : Nat} {v : Value} {a a' : Int} {s s' : Int} (hg : w.heap[g]? = some (.cells #[v, .int .i64 a, .int .u64 s] 91 (0, 0))) (hs : 0 ≤ s' ∧ s' ≤ 18446744073709551615) :
    Sr ((w.setCell ⟨g, 1, none⟩ (.int .i64 a')).setCell ⟨g, 2, none⟩ (.int .u64 s')) g v a' ∧ Turned g (g + 1) w ((w.setCell ⟨g, 1, none⟩ (.int .i64 a')).setCell ⟨g, 2, none⟩ (.int .u64 s')) := by
  refine ⟨⟨s', ?_, hs⟩, ?_⟩
  · have h1 := heap_setCell_same w g 1 _ _ (.int .i64 a') hg
    have h2 := heap_setCell_same (w.setCell ⟨g, 1, none⟩ (.int .i64 a')) g 2 _ _ (.int .u64 s') h1
    rw [h2]; rfl
  · exact ((Turned.refl _ _ _).setCell (Nat.le_refl _) (by omega) _).setCell (Nat.le_refl _) (by omega) _
theorem wrap_u (x : Int) : 0 ≤ IntKind.u64.wrap x ∧ IntKind.u64.wrap x ≤ 18446744073709551615 := by
  have h : IntKind.u64.wrap x = x % 18446744073709551616 := by
    unfold IntKind.wrap
    simp [IntKind.signed, IntKind.bits]
  rw [h]; omega
theorem and_255 (E : Int) (h0 : 0 ≤ E) (h1 : E ≤ 18446744073709551615) : 0 ≤ bits BinOp.and IntKind.u64 E 255 ∧ bits BinOp.and IntKind.u64 E 255 ≤ 255 := by
  have h := bits_and_u64_nat E.toNat 255 (by omega) (by omega)
  have h2 : E.toNat &&& 255 = E.toNat % 256 := Nat.and_two_pow_sub_one_eq_mod E.toNat 8
  rw [h2, Int.toNat_of_nonneg h0] at h
  have h3 : bits BinOp.and IntKind.u64 E 255 = ((E.toNat % 256 : Nat) : Int) := h
  rw [h3]; omega
theorem turned_drew {lo hi : Nat} {w w1 : World} (h : Turned lo hi w w1) : Turned lo hi w w1.drew := ⟨h.os, h.tape, h.output, h.size, h.block⟩
theorem next_in {w : World} {g b off len cap : Nat} {a s z : Int} (hg : w.heap[g]? = some (.cells #[.slice (some ⟨b, off, none⟩) len cap, .int .i64 a, .int .u64 s] 91 (0, 0)))
    (ha0 : 0 ≤ a) (ha : a < (len : Int)) (hl : len ≤ 9223372036854775807) (hz : 0 ≤ z ∧ z ≤ 255) (hc : w.cell? ⟨b, off + a.toNat, none⟩ = some (.int .u8 z)) :
    Calls Try.prog 83 #[.pointer (some ⟨g, 0, none⟩)] w fun e w' => e = .returned (.int .i64 z) ∧ Sr w' g (.slice (some ⟨b, off, none⟩) len cap) (a + 1) ∧ Turned g (g + 1) w w' := by
  obtain ⟨k, rfl⟩ : ∃ k : Nat, a = k := ⟨a.toNat, by omega⟩
  rw [Int.toNat_natCast] at hc
  have c0 : w.cell? ⟨g, 0, none⟩ = some (.slice (some ⟨b, off, none⟩) len cap) := by rw [cell_of_row w g 0 _ _ _ hg]; rfl
  have c1 : w.cell? ⟨g, 1, none⟩ = some (.int .i64 k) := by rw [cell_of_row w g 1 _ _ _ hg]; rfl
  have c2 : w.cell? ⟨g, 2, none⟩ = some (.int .u64 s) := by rw [cell_of_row w g 2 _ _ _ hg]; rfl
  have f1 : w.frozen? ⟨g, 1, none⟩ = false := frozen_of_row _ _ _ _ _ hg
  have f2 : w.frozen? ⟨g, 2, none⟩ = false := frozen_of_row _ _ _ _ _ hg
  go_enter Try.func83, Try.ntmps83
  go_wp2_with fail
  go_region
  go_wp2_with fail
  go_region
  go_wp2_with fail
  go_region
  go_wp2_with fail
  go_ret
  have P := Sr.put (a' := (k : Int) + 1) hg (wrap_u (IntKind.u64.wrap (IntKind.u64.wrap (s * 6364136223846793005) + z) + 1442695040888963407))
  exact ⟨rfl, P.1, turned_drew (turned_drew (turned_drew P.2))⟩
theorem next_out {w : World} {g len cap : Nat} {ao : Option Addr} {a s : Int} (hg : w.heap[g]? = some (.cells #[.slice ao len cap, .int .i64 a, .int .u64 s] 91 (0, 0)))
    (ha0 : 0 ≤ a) (ha : (len : Int) ≤ a) (ha2 : a ≤ 1000) :
    Calls Try.prog 83 #[.pointer (some ⟨g, 0, none⟩)] w fun e w' => ∃ r : Int, e = .returned (.int .i64 r) ∧ 0 ≤ r ∧ r ≤ 255 ∧ Sr w' g (.slice ao len cap) (a + 1) ∧ Turned g (g + 1) w w' := by
  obtain ⟨k, rfl⟩ : ∃ k : Nat, a = k := ⟨a.toNat, by omega⟩
  have c0 : w.cell? ⟨g, 0, none⟩ = some (.slice ao len cap) := by rw [cell_of_row w g 0 _ _ _ hg]; rfl
  have c1 : w.cell? ⟨g, 1, none⟩ = some (.int .i64 k) := by rw [cell_of_row w g 1 _ _ _ hg]; rfl
  have c2 : w.cell? ⟨g, 2, none⟩ = some (.int .u64 s) := by rw [cell_of_row w g 2 _ _ _ hg]; rfl
  have f1 : w.frozen? ⟨g, 1, none⟩ = false := frozen_of_row _ _ _ _ _ hg
  have f2 : w.frozen? ⟨g, 2, none⟩ = false := frozen_of_row _ _ _ _ _ hg
  go_enter Try.func83, Try.ntmps83
  go_wp2_with fail
  go_region
  go_wp2_with fail
  go_region
  go_wp2_with fail
  go_ret
  obtain ⟨S, hS⟩ : ∃ S, S = IntKind.u64.wrap (IntKind.u64.wrap (IntKind.u64.wrap (s * 6364136223846793005)) + 1442695040888963407) := ⟨_, rfl⟩
  have hb : 0 ≤ S ∧ S ≤ 18446744073709551615 := by rw [hS]; exact wrap_u _
  have P := Sr.put (a' := (k : Int) + 1) hg hb
  have hA := and_255 (S / 1099511627776) (by omega) (by omega)
  rw [← hS]
  exact ⟨_, rfl, by rw [IntWalk.wrap64_in _ (by omega)]; exact hA.1, by rw [IntWalk.wrap64_in _ (by omega)]; exact hA.2, P.1, turned_drew (turned_drew P.2)⟩

/-- the bytes lie in blocks below B -/
def Bb (w : World) (B : Nat) (v : Value) : Prop := Bys w v ∧ ∀ b off len cap, v = .slice (some ⟨b, off, none⟩) len cap → 0 < len → b < B
theorem Bb.of {w : World} {v : Value} (h : Bys w v) : Bb w w.heap.size v := by
  refine ⟨h, fun b off len cap e h0 => ?_⟩
  rcases h with ⟨ao, c, rfl⟩ | ⟨b1, off1, len1, cap1, z, rfl, _, _, hc⟩
  · simp only [Value.slice.injEq] at e; omega
  · simp only [Value.slice.injEq, Option.some.injEq, Addr.mk.injEq, and_true] at e
    obtain ⟨⟨rfl, rfl⟩, rfl, rfl⟩ := e
    exact cell_lt (hc 0 h0).1
theorem Bb.below {w w' : World} {B : Nat} {v : Value} (h : Bb w B v) (hb : Below B w w') : Bb w' B v := by
  refine ⟨?_, h.2⟩
  rcases h.1 with ⟨ao, cap, rfl⟩ | ⟨b, off, len, cap, z, rfl, hl, h0, hcell⟩
  · exact .inl ⟨_, _, rfl⟩
  · exact .inr ⟨b, off, len, cap, z, rfl, hl, h0, fun k hk => ⟨(hb.cell (p := ⟨b, off + k, none⟩) (h.2 b off len cap rfl h0)).trans (hcell k hk).1, (hcell k hk).2⟩⟩
theorem next_any {w : World} {g B : Nat} {v : Value} {a : Int} (h : Bb w B v) (hS : Sr w g v a) (ha0 : 0 ≤ a) (ha2 : a ≤ 1000) :
    Calls Try.prog 83 #[.pointer (some ⟨g, 0, none⟩)] w fun e w' => ∃ r : Int, e = .returned (.int .i64 r) ∧ 0 ≤ r ∧ r ≤ 255 ∧ Sr w' g v (a + 1) ∧ Turned g (g + 1) w w' := by
  obtain ⟨s, hg, _⟩ := hS
  rcases id h.1 with ⟨ao, cap, rfl⟩ | ⟨b, off, len, cap, z, rfl, hl, h0, hcell⟩
  · exact next_out hg ha0 (by simpa using ha0) ha2
  · by_cases hlt : a < (len : Int)
    · have hc := hcell a.toNat (by omega)
      exact (next_in hg ha0 hlt hl hc.2 hc.1).mono fun _ _ ⟨e1, e2, e3⟩ => ⟨_, e1, hc.2.1, hc.2.2, e2, e3⟩
    · exact next_out hg ha0 (by omega) ha2
theorem pick_any {w : World} {g B : Nat} {v : Value} {a n : Int} (h : Bb w B v) (hS : Sr w g v a) (ha0 : 0 ≤ a) (ha2 : a ≤ 1000) (hn : 1 < n) (hn2 : n ≤ 200) :
    Calls Try.prog 50 #[.pointer (some ⟨g, 0, none⟩), .int .i64 n] w fun e w' => ∃ r : Int, e = .returned (.int .i64 r) ∧ 0 ≤ r ∧ r < n ∧ Sr w' g v (a + 1) ∧ Turned g (g + 1) w w' := by
  have hn0 : n ≠ 0 := by omega
  have HB : Hid (Bb w B v) := h
  have HS : Hid (Sr w g v a) := hS
  clear h hS
  go_enter Try.func50, Try.ntmps50
  go_wp2_with fail
  refine (next_any HB.out HS.out ha0 ha2).mono ?_
  rintro e w1 ⟨r, rfl, hr0, hr1, o, t⟩
  have O1 : Hid (Sr w1 g v (a + 1)) := o
  have T1 : Hid (Turned g (g + 1) w w1) := t
  clear o t
  have hm := mod_lt (a := r) (n := n) (by omega)
  go_wp2_with fail
  go_ret
  exact ⟨_, rfl, hm.1, hm.2, O1.out, T1.out⟩
theorem row_turned {w w' : World} {base e size n lo hi : Nat} {v : Value} {xs : List Value} (h : w.ownsRow base e size v n xs) (ht : Turned lo hi w w') (hb : hi ≤ base) : w'.ownsRow base e size v n xs := by
  obtain ⟨h1, h2 | ⟨g, cap, cur, hv, hB, hg, hr⟩⟩ := h
  · exact ⟨h1, .inl h2⟩
  · exact ⟨h1, .inr ⟨g, cap, cur, hv, hB, by rw [ht.block g (Array.getElem?_eq_some_iff.1 hg).1 (by omega)]; exact hg, hr⟩⟩
theorem Sr.lt {w : World} {g : Nat} {v : Value} {a : Int} (h : Sr w g v a) : g < w.heap.size := by
  obtain ⟨s, hg, _⟩ := h
  exact (Array.getElem?_eq_some_iff.1 hg).1
theorem Sr.below {w w' : World} {g B : Nat} {v : Value} {a : Int} (h : Sr w g v a) (hb : Below B w w') (hB : g < B) : Sr w' g v a := by
  obtain ⟨s, hg, hs⟩ := h
  exact ⟨s, by rw [hb.block g hB]; exact hg, hs⟩
end Go.Proofs.Ytfhcfeafohcjpaa.fw
namespace Go.Proofs.Ytfhcfeafohcjpaa.wh
open Go.RowKit
theorem Turned.also {lo hi B : Nat} {w w1 w2 : World} (h : Turned lo hi w w1) (hb : Below B w1 w2) (hB : w.heap.size ≤ B) : Turned lo hi w w2 :=
  ⟨hb.os.trans h.os, hb.tape.trans h.tape, hb.output.trans h.output, Nat.le_trans h.size hb.size, fun k hk ho => (hb.block k (by omega)).trans (h.block k hk ho)⟩
theorem Turned.two {lo hi : Nat} {w w1 w2 : World} (h : Turned lo hi w w1) (h2 : Turned lo hi w1 w2) : Turned lo hi w w2 :=
  ⟨h2.os.trans h.os, h2.tape.trans h.tape, h2.output.trans h.output, Nat.le_trans h.size h2.size, fun k hk ho => (h2.block k (Nat.lt_of_lt_of_le hk h.size) ho).trans (h.block k hk ho)⟩
end Go.Proofs.Ytfhcfeafohcjpaa.wh
namespace Go.Proofs.Ytfhcfeafohcjpaa.fw
open Go.RowKit Go.Pl Go.Proofs.Ytfhcfeafohcjpaa.wh Go.Proofs.Ytfhcfeafohcjpaa.bys
theorem from_any (ao : Option Addr) (n cap : Nat) (w : World) : Calls Try.prog 49 #[.slice ao n cap] w fun e w' => e = .returned (.pointer (some ⟨w.heap.size, 0, none⟩)) ∧ w' = w.alloc (.cells #[.slice ao n cap, .int .i64 0, .int .u64 0] 91) := by
  go_enter Try.func49, Try.ntmps49
  go_wp2_with fail
  go_ret
  exact ⟨rfl, rfl⟩
theorem bys_shape {w : World} {v : Value} (h : Bys w v) : ∃ ao n cap, v = .slice ao n cap := by
  rcases h with ⟨ao, cap, rfl⟩ | ⟨b, off, len, cap, z, rfl, _⟩
  · exact ⟨_, _, _, rfl⟩
  · exact ⟨_, _, _, rfl⟩
end Go.Proofs.Ytfhcfeafohcjpaa.fw
