/- The eight hexadecimal digits of a number's bits: the program's and the model's. -/
import Derived.Test.YtclogbnecgfndaaRows
import Derived.WalkKit
import Derived.WalkLawsBesides
import Derived.Deep.Draws
import Derived.Test.YtclogbnecgfndaaBitsW
import Derived.Test.YtclogbnecgfndaaBitsIW
import Derived.Test.YtclogbnecgfndaaHexP
import Derived.Lib.ItoaNum
namespace Go.Proofs.Ytclogbnecgfndaa.hex
open Go.RowKit Go.Fl Go.Proofs.Ytclogbnecgfndaa.bits Go.Hex

theorem info_b : (Try.prog.info? 5).map (fun i => (i.zero, i.size, i.bytes)) = some (some (.int .u8 0), 1, 1) := by kernel_rfl

theorem own_shape {w : World} {B e n : Nat} {v : Value} {xs : List Value} (h : w.ownsRow B e 1 v n xs) (hn : n ≠ 0) : ∃ g cap, v = .slice (some ⟨g, 0, none⟩) n cap := by
  rcases h.2 with ⟨_, h0⟩ | ⟨g, cap, cur, hv, _⟩
  · exact absurd h0 hn
  · exact ⟨g, cap, hv⟩
theorem own_ge {w : World} {B e g n cap m : Nat} {xs : List Value} (h : w.ownsRow B e 1 (.slice (some ⟨g, 0, none⟩) n cap) m xs) : B ≤ g ∧ g < w.heap.size := by
  rcases h.2 with ⟨h', _⟩ | ⟨g', cap', cur, h', hb, hg, _⟩
  · simp at h'
  · simp only [Value.slice.injEq, Option.some.injEq, Addr.mk.injEq, and_true] at h'
    obtain ⟨rfl, _⟩ := h'
    exact ⟨hb, (Array.getElem?_eq_some_iff.1 hg).1⟩
theorem conv_str {w : World} {B e g cap n : Nat} {acc : List UInt8} (hn : acc.length = n) (h : w.ownsRow B e 1 (.slice (some ⟨g, 0, none⟩) n cap) n (acc.map bv)) :
    (convert 22 9 (.slice (some ⟨g, 0, none⟩) n cap)).run Try.prog w = .ok (.string ⟨acc.toArray⟩) w := by
  subst hn
  exact run_convert_bytes_back w 22 9 5 ⟨g, 0, none⟩ cap acc Try.underlying22 Try.underlying5 Try.underlying9 (fun j hj => by
    rw [Addr.add_lit, Nat.zero_add, h.cellAt j (by omega), List.getElem?_map, List.getElem?_eq_getElem hj]
    rfl)
theorem one_new (w : World) (u : Value) : ∀ j v, [u][j]? = some v → (w.alloc (.cells #[u] 5)).cell? ((⟨w.heap.size, 0, none⟩ : Addr).add j) = some v := by
  have ho : (w.alloc (.cells #[u] 5)).ownsRow w.heap.size 5 1 (.slice (some ⟨w.heap.size, 0, none⟩) 1 1) 1 [u] :=
    ⟨rfl, .inr ⟨w.heap.size, 1, #[u], rfl, Nat.le_refl _, heap_alloc_new w _, by omega, by decide, rfl, rfl⟩⟩
  intro j v hj
  have hl : j < 1 := by
    have := (List.getElem?_eq_some_iff.1 hj).1
    simpa using this
  rw [Addr.add_lit, Nat.zero_add, ho.cellAt j (by omega)]
  exact hj
theorem store_u8 {w : World} {a : Addr} {b : Int} {u : Value} (h : w.cell? a = some u) (hf : w.frozen? a = false) : (store a (.int .u8 b)).run Try.prog w = .ok () (w.setCell a (.int .u8 b)) := by
  rw [run_store _ _ _ _ _ rfl]
  simp [h, hf]

/-- the text of a number -/
def hx (b : Nat) : List UInt8 := hex (bitsOf b).toNat
theorem bits_nat (b : Nat) (hb : (b : Int) ≤ 4294967295) : ∃ N : Nat, bitsOf b = N ∧ N < 4294967296 ∧ Hid (hx b = hex N) := by
  unfold hx bitsOf
  split
  · exact ⟨2143289344, rfl, by omega, rfl⟩
  · exact ⟨b, rfl, by omega, rfl⟩

set_option maxRecDepth 100000 in
set_option maxHeartbeats 1600000 in
theorem spec_any (b : Nat) (hb : (b : Int) ≤ 4294967295) (w : World) :
    Calls Try.prog 136 #[.float .f32 b] w fun e w' => e = .returned (.string ⟨(hx b).toArray⟩) ∧ Below w.heap.size w w' := by
  have hB := bits_spec b hb
  obtain ⟨N, hN, hN2, hxx⟩ := bits_nat b hb
  rw [hN] at hB
  obtain ⟨i0, hi, hz0, hz1, hz2⟩ := info_parts info_b
  have start : Hid ((w.alloc (.cells #[] 5)).ownsRow w.heap.size 5 1 (.slice (some ⟨w.heap.size, 0, none⟩) 0 0) 0 ((pre N 0).map bv)) :=
    ⟨rfl, .inr ⟨w.heap.size, 0, #[], rfl, Nat.le_refl _, heap_alloc_new w _, by simp, by decide, rfl, rfl⟩⟩
  have startB : Hid (Below w.heap.size w (w.alloc (.cells #[] 5))) := (Below.refl _ _).alloc (Nat.le_refl _) _
  clear hN hb
  go_enter Try.func136, Try.ntmps136
  go_wp2_with fail
  refine (hB _).mono ?_
  rintro e w1 ⟨rfl, hw1⟩
  rw [← hw1]
  clear hw1 hB
  go_wp2_with fail
  go_loopw [4, 5] (fun v i wr => ∃ (j g cap : Nat), j ≤ 8 ∧ v = .slice (some ⟨g, 0, none⟩) j cap ∧ i = .int .i64 (28 - 4 * (j : Int)) ∧ Hid (wr.ownsRow w.heap.size 5 1 (.slice (some ⟨g, 0, none⟩) j cap) j ((pre N j).map bv)) ∧ Hid (Below w.heap.size w wr)) (fun _ i _ => (intOf i + 100).toNat)
  case atStart => exact ⟨0, _, _, by omega, rfl, rfl, start, startB⟩
  case round =>
    obtain ⟨j, g, cap, hj, rfl, rfl, ho, hbl⟩ := hrel
    clear start startB
    by_cases hp : j < 8
    · obtain ⟨hbd1, hbd2⟩ := and_lt N j hN2 hp
      have HD := fun D h e => spec_dig N j hN2 hp D h e
      have HS : Hid (w.heap.size ≤ wr.heap.size) := by have := own_ge ho.out; show _ ≤ _; omega
      have HG : Hid (w.heap.size ≤ g) := (own_ge ho.out).1
      have HDD : Hid (∀ (D : Nat) (h : D < hexs.size), D = (bits .and .i64 ((N : Int) / 2 ^ (28 - 4 * j)) 15).toNat → Value.int .u8 ((hexs[D]'h).toNat : Int) = bv (dig N (7 - j))) := HD
      clear HD
      go_wp2_with (first | (at_builtin; refine wpList_append_own _ rfl (.tmp 13) (.tmp 20) 22 rfl w.heap.size 5 i0 (.int .u8 0) 1 1 Try.underlying22 hi hz0 hz1 hz2 rfl (by decide) _ j ((pre N j).map bv) rfl (ho.out.alloc _) ⟨wr.heap.size, 0, none⟩ 1 1 [.int .u8 _] rfl rfl (one_new wr _) (by intro u hu; rw [List.mem_singleton] at hu; subst hu; rfl) (by unfold maxLen; omega) (by omega) (by have := HS.out; simp; omega) ?_; intro v' w2 hown' hgrow _))
      rw [HDD.out _ _ rfl] at hown'
      obtain ⟨g', cap', rfl⟩ := own_shape hown' (by omega)
      have HO2 : Hid (w2.ownsRow w.heap.size 5 1 (.slice (some ⟨g', 0, none⟩) (j + 1) cap') (j + 1) ((pre N (j + 1)).map bv)) := by show World.ownsRow _ _ _ _ _ _ _; rw [pre_succ, List.map_append]; exact hown'
      have HB2 : Hid (Below w.heap.size w w2) := (hbl.out.alloc HS.out _).grown hgrow (by have := HS.out; simp; omega) (by intro k hk; have hk' : some g = some k := hk; injection hk' with hk'; have := HG.out; omega)
      clear hown' hgrow ho hbl HDD
      go_roundw
      case rel => exact ⟨j + 1, g', cap', by omega, rfl, by go_num, HO2, HB2⟩
      case measure => simp [intOf]; omega
    · obtain rfl : j = 8 := by omega
      have hcv := conv_str (pre_length N 8) ho.out
      rw [pre_all] at hcv
      go_wp2
      go_ret
      exact ⟨by rw [hxx.out]; rfl, hbl.out⟩

set_option maxRecDepth 100000 in
set_option maxHeartbeats 1600000 in
theorem impl_any (b : Nat) (hb : (b : Int) ≤ 4294967295) (w : World) :
    Calls Try.prog 107 #[.float .f32 b] w fun e w' => e = .returned (.tuple #[.string ⟨(hx b).toArray⟩, .bool true]) ∧ Below w.heap.size w w' := by
  have hB := bits_impl b hb
  obtain ⟨N, hN, hN2, hxx⟩ := bits_nat b hb
  rw [hN] at hB
  have start : Hid ((w.alloc (.cells #[.int .u8 0, .int .u8 0, .int .u8 0, .int .u8 0, .int .u8 0, .int .u8 0, .int .u8 0, .int .u8 0] 149)).ownsRow w.heap.size 149 1 (.slice (some ⟨w.heap.size, 0, none⟩) 8 8) 8 [.int .u8 0, .int .u8 0, .int .u8 0, .int .u8 0, .int .u8 0, .int .u8 0, .int .u8 0, .int .u8 0]) :=
    ⟨rfl, .inr ⟨w.heap.size, 8, _, rfl, Nat.le_refl _, heap_alloc_new w _, by omega, by decide, rfl, rfl⟩⟩
  have startB : Hid (Below w.heap.size w (w.alloc (.cells #[.int .u8 0, .int .u8 0, .int .u8 0, .int .u8 0, .int .u8 0, .int .u8 0, .int .u8 0, .int .u8 0] 149))) := (Below.refl _ _).alloc (Nat.le_refl _) _
  clear hN hb
  go_enter Try.func107, Try.ntmps107
  go_wp2_with fail
  refine (hB _).mono ?_
  rintro e w1 ⟨rfl, hw1⟩
  rw [← hw1]
  clear hw1 hB
  go_wp2_with fail
  obtain ⟨B, hBB⟩ : ∃ B, B = w.heap.size := ⟨_, rfl⟩
  rw [← hBB] at start startB
  rw [← hBB]
  have HE : Hid (B = w.heap.size) := hBB
  clear hBB
  go_loopw [4, 6] (fun m i wr => ∃ (j : Nat) (xs : List Value), j ≤ 8 ∧ i = .int .i64 (7 - (j : Int)) ∧ m = .int .i64 ((N / 16 ^ j : Nat) : Int) ∧ Hid (wr.ownsRow B 149 1 (.slice (some ⟨B, 0, none⟩) 8 8) 8 xs) ∧ Hid (∀ t, t < 8 → 8 ≤ t + j → xs[t]? = some (bv (dig N (7 - t)))) ∧ Hid (Below B w wr)) (fun _ i _ => (intOf i + 100).toNat)
  case atStart => exact ⟨0, _, by omega, rfl, by simp, start, fun t h1 h2 => by omega, startB⟩
  case round =>
    obtain ⟨j, xs, hj, rfl, rfl, ho, hx, hbl⟩ := hrel
    clear start startB
    have hxl : xs.length = 8 := by have := ho.out.1; simpa using this
    by_cases hp : j < 8
    · obtain ⟨q, hq⟩ : ∃ q, q + j = 7 := ⟨7 - j, by omega⟩
      have hqi : (7 - (j : Int)) = (q : Int) := by omega
      rw [hqi]
      obtain ⟨M, hM⟩ : ∃ M, Hid (M = N / 16 ^ j) := ⟨_, rfl⟩
      rw [← hM.out]
      have hMl : M < 4294967296 := by have := hM.out; have := Nat.div_le_self N (16 ^ j); omega
      have e2 : wr.cell? ⟨B, q, none⟩ = xs[q]? := ho.out.cellAt q (by omega)
      obtain ⟨u, hu⟩ : ∃ u, xs[q]? = some u := ⟨xs[q]'(by omega), List.getElem?_eq_getElem (by omega)⟩
      rw [hu] at e2
      have e3 : wr.frozen? ⟨B, q, none⟩ = false := ho.out.frozenAt q
      have hst := fun z => store_u8 (b := z) e2 e3
      have HO : Hid (∀ v, (wr.setCell ⟨B, q, none⟩ v).ownsRow B 149 1 (.slice (some ⟨B, 0, none⟩) 8 8) 8 (xs.set q v)) := fun v => (ho.out.stored q v).1
      have HB : Hid (∀ v, Below B w (wr.setCell ⟨B, q, none⟩ v)) := fun v => hbl.out.setCell (p := ⟨B, q, none⟩) (Nat.le_refl B) _
      have HX : Hid (∀ v, v = bv (dig N j) → ∀ t, t < 8 → 8 ≤ t + (j + 1) → (xs.set q v)[t]? = some (bv (dig N (7 - t)))) := by
        intro v hv t h1 h2
        by_cases htq : t = q
        · subst htq
          rw [List.getElem?_set_self (by omega), hv]
          congr 3; omega
        · rw [List.getElem?_set_ne (by omega)]
          exact hx.out t h1 (by omega)
      have hMM : Hid (M % 16 < hexs.size) := Nat.mod_lt _ (by decide)
      clear ho hx hbl hqi hu
      have HV : Hid (Value.int .u8 ((hexs[M % 16]'hMM.out).toNat : Int) = bv (dig N j)) := by
        show _ = _
        rw [hd_at _ hMM.out, hM.out]
        rfl
      have HM : Hid ((M : Int) / 16 = ((N / 16 ^ (j + 1) : Nat) : Int)) := by show _ = _; rw [← Go.Hex.step, ← hM.out]; omega
      go_wp2_with fail
      go_roundw
      case rel => exact ⟨j + 1, _, by omega, by congr 1; omega, by rw [HM.out], HO.out _, HX.out _ HV.out, HB.out _⟩
      case measure => simp [intOf]; omega
    · obtain rfl : j = 8 := by omega
      have hxe : xs = (hex N).map bv := by
        apply List.ext_getElem?
        intro t
        by_cases ht : t < 8
        · rw [hx.out t ht (by omega)]
          unfold hex
          rw [List.getElem?_map, List.getElem?_map, List.getElem?_range ht]
          rfl
        · rw [List.getElem?_eq_none (by omega), List.getElem?_eq_none (by simp [hex]; omega)]
      have hcv := conv_str (hex_length N) (hxe ▸ ho.out)
      clear hx hxl hxe ho
      go_wp2
      go_ret2
      exact ⟨by rw [hxx.out]; rfl, by rw [← HE.out]; exact hbl.out⟩
end Go.Proofs.Ytclogbnecgfndaa.hex
