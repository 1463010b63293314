/- The model's decimal text of a number is the library's. -/
import Derived.Test.YtdeoemeibbkdoaaDoorRows
import Derived.WalkKit
import Derived.WalkLawsBesides
import Derived.Deep.Draws
import Derived.Test.YtdeoemeibbkdoaaDoorDecP
namespace Go.Proofs.YtdeoemeibbkdoaaDoor.dec
open Go.RowKit Go.Lib Go.Dec

theorem info_b : (Tryd.prog.info? 5).map (fun i => (i.zero, i.size, i.bytes)) = some (some (.int .u8 0), 1, 1) := by kernel_rfl

theorem own_new (w : World) (B : Nat) (hB : B ≤ w.heap.size) (u : Value) : (w.alloc (.cells #[u] 5)).ownsRow B 5 1 (.slice (some ⟨w.heap.size, 0, none⟩) 1 1) 1 [u] :=
  ⟨rfl, .inr ⟨w.heap.size, 1, #[u], rfl, hB, heap_alloc_new w _, by omega, by decide, rfl, rfl⟩⟩

theorem own_shape {w : World} {B e n : Nat} {v : Value} {xs : List Value} (h : w.ownsRow B e 1 v n xs) (hn : n ≠ 0) : ∃ g cap, v = .slice (some ⟨g, 0, none⟩) n cap := by
  rcases h.2 with ⟨_, h0⟩ | ⟨g, cap, cur, hv, _⟩
  · exact absurd h0 hn
  · exact ⟨g, cap, hv⟩

theorem tmod_abs (z : Int) : (z.tmod 10).natAbs = z.natAbs % 10 ∧ -10 < z.tmod 10 ∧ z.tmod 10 < 10 := by
  have h : (z.tmod 10).natAbs = z.natAbs % 10 := Int.natAbs_tmod z 10
  have h2 : z.natAbs % 10 < 10 := Nat.mod_lt _ (by omega)
  exact ⟨h, by omega, by omega⟩
theorem tdiv_abs (z : Int) : (z.tdiv 10).natAbs = z.natAbs / 10 := Int.natAbs_tdiv z 10

/-- the loop's relation -/
def Rel (B : Nat) (w : World) (n z : Int) (g cap : Nat) (acc : List UInt8) (wr : World) : Prop :=
  z.natAbs = n.natAbs / 10 ^ acc.length ∧ acc.length ≤ 19 ∧ Inv n.natAbs z.natAbs acc ∧ wr.ownsRow B 5 1 (.slice (some ⟨g, 0, none⟩) acc.length cap) acc.length (acc.map bv) ∧ Below B w wr ∧ B ≤ wr.heap.size

theorem rel_next {B : Nat} {w wr w2 : World} {n z : Int} {g cap g' cap' : Nat} {acc : List UInt8} {d : Nat} {u : Value} (hn : n.natAbs ≤ 9223372036854775808) (h : Rel B w n z g cap acc wr) (hgo : z ≠ 0 ∨ acc.length = 0) (hd : d = z.natAbs % 10) (hu : u = bv (UInt8.ofNat (48 + d)))
    (ho : w2.ownsRow B 5 1 (.slice (some ⟨g', 0, none⟩) (1 + acc.length) cap') (1 + acc.length) ([u] ++ acc.map bv)) (hg : (wr.alloc (.cells #[u] 5)).grownBy w2 (some wr.heap.size)) :
    Rel B w n (z.tdiv 10) g' cap' (UInt8.ofNat (48 + d) :: acc) w2 := by
  obtain ⟨h1, h2, h3, h4, h5, h6⟩ := h
  have hgo' : z.natAbs ≠ 0 ∨ acc = [] := by
    rcases hgo with h | h
    · exact .inl (by omega)
    · exact .inr (List.eq_nil_of_length_eq_zero h)
  have hk : acc.length ≤ 18 := by
    rcases hgo' with h | h
    · rw [h1] at h; exact short h hn
    · rw [h]; simp
  subst hd hu
  refine ⟨by rw [tdiv_abs, h1, List.length_cons, next], by simp; omega, by rw [tdiv_abs]; exact inv_step h3 hgo', ?_, ?_, ?_⟩
  · have e : 1 + acc.length = (UInt8.ofNat (48 + z.natAbs % 10) :: acc).length := by rw [List.length_cons]; omega
    rw [e] at ho
    exact ho
  · exact (h5.alloc h6 _).grown hg (by simp; omega) (by intro k hk; injection hk with hk; omega)
  · have := hg.size
    simp at this
    omega

theorem conv_str {w : World} {B e g cap : Nat} {acc : List UInt8} (h : w.ownsRow B e 1 (.slice (some ⟨g, 0, none⟩) acc.length cap) acc.length (acc.map bv)) :
    (convert 63 9 (.slice (some ⟨g, 0, none⟩) acc.length cap)).run Tryd.prog w = .ok (.string ⟨acc.toArray⟩) w :=
  run_convert_bytes_back w 63 9 5 ⟨g, 0, none⟩ cap acc Tryd.underlying63 Tryd.underlying5 Tryd.underlying9 (fun j hj => by
    rw [Addr.add_lit, Nat.zero_add, h.cellAt j (by omega), List.getElem?_map, List.getElem?_eq_getElem hj]
    rfl)

theorem cells_of {w : World} {B e g cap : Nat} {acc : List UInt8} (h : w.ownsRow B e 1 (.slice (some ⟨g, 0, none⟩) acc.length cap) acc.length (acc.map bv)) (o : Obj) (j : Nat) (u : Value) (hj : (acc.map bv)[j]? = some u) : (w.alloc o).cell? ((⟨g, 0, none⟩ : Addr).add j) = some u := by
  have h' := h.alloc o
  have hl : j < acc.length := by
    have := (List.getElem?_eq_some_iff.1 hj).1
    simpa using this
  rw [Addr.add_lit, Nat.zero_add, h'.cellAt j (by omega)]
  exact hj

theorem bv_one (acc : List UInt8) : ∀ u ∈ acc.map bv, u.oneCell' = true := by
  intro u hu
  obtain ⟨b, _, rfl⟩ := List.mem_map.1 hu
  rfl

def mea (v : Value) (z : Int) : Nat := 2 * z.natAbs + (if lenV v = 0 then 1 else 0)

set_option maxRecDepth 100000 in
set_option maxHeartbeats 1600000 in
theorem l01_any (n : Int) (h0 : -9223372036854775808 ≤ n) (h1 : n ≤ 9223372036854775807) (w : World) :
    Calls Tryd.prog 55 #[.int .i64 n] w fun e w' => e = .returned (.string ⟨(itoa n).toArray⟩) ∧ Below w.heap.size w w' := by
  obtain ⟨i0, hi, hz0, hz1, hz2⟩ := info_parts info_b
  obtain ⟨B, hB⟩ : ∃ B, B = w.heap.size := ⟨_, rfl⟩
  have start : Hid (Rel B w n n w.heap.size 0 [] (w.alloc (.cells #[] 5))) := by
    refine ⟨by simp, by simp, inv_start _, ⟨rfl, .inr ⟨w.heap.size, 0, #[], rfl, by omega, heap_alloc_new w _, by simp, by decide, rfl, rfl⟩⟩, (Below.refl _ _).alloc (by omega) _, by simp; omega⟩
  have HE : Hid (B = w.heap.size) := hB
  clear hB
  go_enter Tryd.func55, Tryd.ntmps55
  go_wp2
  go_loopw [3, 4] (fun v r wr => ∃ (z : Int) (g cap : Nat) (acc : List UInt8), v = .slice (some ⟨g, 0, none⟩) acc.length cap ∧ r = .int .i64 z ∧ -9223372036854775808 ≤ z ∧ z ≤ 9223372036854775807 ∧ Hid (Rel B w n z g cap acc wr)) (fun v r _ => mea v (intOf r))
  case atStart => exact ⟨n, _, _, [], rfl, rfl, h0, h1, start⟩
  case round =>
    obtain ⟨z, g, cap, acc, rfl, rfl, hza, hzb, hR⟩ := hrel
    clear start
    have hlen : acc.length ≤ 19 := hR.out.2.1
    have HB : Hid (∀ o, B ≤ (wr.alloc o).heap.size) := fun o => by have := hR.out.2.2.2.2.2; simp; omega
    by_cases hgo : z ≠ 0 ∨ acc.length = 0
    · obtain ⟨t1, t2, t3⟩ := tmod_abs z
      have hq : (z.tdiv 10).natAbs = z.natAbs / 10 := tdiv_abs z
      have M : Hid (∀ v', lenV v' ≠ 0 → mea v' (z.tdiv 10) < mea (.slice (some ⟨g, 0, none⟩) acc.length cap) z) := by
        intro v' hv'
        unfold mea
        rw [if_neg hv', hq]
        show _ < 2 * z.natAbs + (if acc.length = 0 then 1 else 0)
        rcases hgo with h | h
        · have : z.natAbs / 10 < z.natAbs := Nat.div_lt_self (by omega) (by omega)
          omega
        · rw [if_pos h]
          have : z.natAbs / 10 ≤ z.natAbs := Nat.div_le_self _ _
          omega
      have hqa : -9223372036854775808 ≤ z.tdiv 10 := by omega
      have hqb : z.tdiv 10 ≤ 9223372036854775807 := by omega
      have HG : Hid (z ≠ 0 ∨ acc.length = 0) := hgo
      have HQ : Hid (z.natAbs % 10 < 10) := Nat.mod_lt _ (by omega)
      have hsg : (¬ z.tmod 10 < 0 ∧ Hid (z.tmod 10 = ((z.natAbs % 10 : Nat) : Int))) ∨ (z.tmod 10 < 0 ∧ Hid (-z.tmod 10 = ((z.natAbs % 10 : Nat) : Int))) := by
        by_cases h : z.tmod 10 < 0
        · exact .inr ⟨h, by show _ = _; omega⟩
        · exact .inl ⟨h, by show _ = _; omega⟩
      clear hq t1
      have HS : Hid (B ≤ wr.heap.size) := hR.out.2.2.2.2.2
      have HO : Hid (wr.ownsRow B 5 1 (.slice (some ⟨g, 0, none⟩) acc.length cap) acc.length (acc.map bv)) := hR.out.2.2.2.1
      have HN : Hid (n.natAbs ≤ 9223372036854775808) := by show _ ≤ _; omega
      clear hgo
      have hcond : ((acc.length : Int) = 0) ∨ (((acc.length : Int) == 0) = false ∧ (z != 0) = true) := by
        by_cases h : (acc.length : Int) = 0
        · exact .inl h
        · refine .inr ⟨by simpa using h, ?_⟩
          rcases HG.out with h2 | h2
          · simpa using h2
          · omega
      rcases hsg with ⟨hs, hd⟩ | ⟨hs, hd⟩
      · have HU : Hid (Value.int .u8 (48 + z.tmod 10) = bv (UInt8.ofNat (48 + z.natAbs % 10))) := by
          show _ = _
          unfold bv
          rw [digit_byte HQ.out, hd.out]
        rcases hcond with hl | ⟨hl, hz⟩
        · have he : acc = [] := List.eq_nil_of_length_eq_zero (by omega)
          subst he
          go_wp2_with (first | (at_builtin; refine wpList_append_own _ rfl (.tmp 24) (.tmp 25) 63 rfl B 5 i0 (.int .u8 0) 1 1 Tryd.underlying63 hi hz0 hz1 hz2 rfl (by decide) _ 1 [.int .u8 _] rfl (own_new wr B HS.out _) ⟨g, 0, none⟩ 0 cap ([] : List Value) rfl (by simp) (cells_of HO.out _) (bv_one []) (by unfold maxLen; omega) (by omega) (HB.out _) ?_; intro v' w2 hown' hgrow _))
          obtain ⟨g', cap', rfl⟩ := own_shape hown' (by omega)
          have HR2 : Hid (Rel B w n (z.tdiv 10) g' cap' (UInt8.ofNat (48 + z.natAbs % 10) :: []) w2) := rel_next HN.out hR.out HG.out rfl HU.out hown' hgrow
          clear hown' hgrow
          go_roundw
          case rel => exact ⟨z.tdiv 10, g', cap', _, by first | rfl | simp [Nat.add_comm], rfl, hqa, hqb, HR2⟩
          case measure => exact M.out _ (by show 1 + 0 ≠ 0; omega)
        · skip
          go_wp2_with (first | (at_builtin; refine wpList_append_own _ rfl (.tmp 24) (.tmp 25) 63 rfl B 5 i0 (.int .u8 0) 1 1 Tryd.underlying63 hi hz0 hz1 hz2 rfl (by decide) _ 1 [.int .u8 _] rfl (own_new wr B HS.out _) ⟨g, 0, none⟩ acc.length cap (acc.map bv) rfl (by simp) (cells_of HO.out _) (bv_one acc) (by unfold maxLen; omega) (by omega) (HB.out _) ?_; intro v' w2 hown' hgrow _))
          obtain ⟨g', cap', rfl⟩ := own_shape hown' (by omega)
          have HR2 : Hid (Rel B w n (z.tdiv 10) g' cap' (UInt8.ofNat (48 + z.natAbs % 10) :: acc) w2) := rel_next HN.out hR.out HG.out rfl HU.out hown' hgrow
          clear hown' hgrow
          go_roundw
          case rel => exact ⟨z.tdiv 10, g', cap', _, by first | rfl | simp [Nat.add_comm], rfl, hqa, hqb, HR2⟩
          case measure => exact M.out _ (by show 1 + acc.length ≠ 0; omega)
      · have HU : Hid (Value.int .u8 (48 + -z.tmod 10) = bv (UInt8.ofNat (48 + z.natAbs % 10))) := by
          show _ = _
          unfold bv
          rw [digit_byte HQ.out, hd.out]
        rcases hcond with hl | ⟨hl, hz⟩
        · have he : acc = [] := List.eq_nil_of_length_eq_zero (by omega)
          subst he
          go_wp2_with (first | (at_builtin; refine wpList_append_own _ rfl (.tmp 24) (.tmp 25) 63 rfl B 5 i0 (.int .u8 0) 1 1 Tryd.underlying63 hi hz0 hz1 hz2 rfl (by decide) _ 1 [.int .u8 _] rfl (own_new wr B HS.out _) ⟨g, 0, none⟩ 0 cap ([] : List Value) rfl (by simp) (cells_of HO.out _) (bv_one []) (by unfold maxLen; omega) (by omega) (HB.out _) ?_; intro v' w2 hown' hgrow _))
          obtain ⟨g', cap', rfl⟩ := own_shape hown' (by omega)
          have HR2 : Hid (Rel B w n (z.tdiv 10) g' cap' (UInt8.ofNat (48 + z.natAbs % 10) :: []) w2) := rel_next HN.out hR.out HG.out rfl HU.out hown' hgrow
          clear hown' hgrow
          go_roundw
          case rel => exact ⟨z.tdiv 10, g', cap', _, by first | rfl | simp [Nat.add_comm], rfl, hqa, hqb, HR2⟩
          case measure => exact M.out _ (by show 1 + 0 ≠ 0; omega)
        · skip
          go_wp2_with (first | (at_builtin; refine wpList_append_own _ rfl (.tmp 24) (.tmp 25) 63 rfl B 5 i0 (.int .u8 0) 1 1 Tryd.underlying63 hi hz0 hz1 hz2 rfl (by decide) _ 1 [.int .u8 _] rfl (own_new wr B HS.out _) ⟨g, 0, none⟩ acc.length cap (acc.map bv) rfl (by simp) (cells_of HO.out _) (bv_one acc) (by unfold maxLen; omega) (by omega) (HB.out _) ?_; intro v' w2 hown' hgrow _))
          obtain ⟨g', cap', rfl⟩ := own_shape hown' (by omega)
          have HR2 : Hid (Rel B w n (z.tdiv 10) g' cap' (UInt8.ofNat (48 + z.natAbs % 10) :: acc) w2) := rel_next HN.out hR.out HG.out rfl HU.out hown' hgrow
          clear hown' hgrow
          go_roundw
          case rel => exact ⟨z.tdiv 10, g', cap', _, by first | rfl | simp [Nat.add_comm], rfl, hqa, hqb, HR2⟩
          case measure => exact M.out _ (by show 1 + acc.length ≠ 0; omega)
    · have hz : z = 0 := by omega
      have hl' : ¬ (acc.length : Int) = 0 := by omega
      have hl : ((acc.length : Int) == 0) = false := by simpa using hl'
      subst hz
      have hdig : decDigits n.natAbs = acc := hR.out.2.2.1.2 (by decide) (fun h => hl' (by rw [h]; rfl))
      have HS : Hid (B ≤ wr.heap.size) := hR.out.2.2.2.2.2
      have HO : Hid (wr.ownsRow B 5 1 (.slice (some ⟨g, 0, none⟩) acc.length cap) acc.length (acc.map bv)) := hR.out.2.2.2.1
      have HW : Hid (Below B w wr) := hR.out.2.2.2.2.1
      by_cases hneg : n < 0
      · have hit : Hid (itoa n = 45 :: acc) := by show _ = _; unfold itoa; rw [if_pos hneg, hdig]
        clear hdig hgo hl'
        go_wp2_with (first | (at_builtin; refine wpList_append_own _ rfl (.tmp 31) (.tmp 32) 63 rfl B 5 i0 (.int .u8 0) 1 1 Tryd.underlying63 hi hz0 hz1 hz2 rfl (by decide) _ 1 [.int .u8 _] rfl (own_new wr B HS.out _) ⟨g, 0, none⟩ acc.length cap (acc.map bv) rfl (by simp) (cells_of HO.out _) (bv_one acc) (by unfold maxLen; omega) (by omega) (HB.out _) ?_; intro v' w2 hown' hgrow _))
        obtain ⟨g', cap', rfl⟩ := own_shape hown' (by omega)
        have e1 : 1 + acc.length = (45 :: acc).length := by rw [List.length_cons]; omega
        have hown2 : w2.ownsRow B 5 1 (.slice (some ⟨g', 0, none⟩) (45 :: acc).length cap') (45 :: acc).length ((45 :: acc).map bv) := by rw [← e1]; exact hown'
        have hcv := conv_str hown2
        have HB2 : Hid (Below w.heap.size w w2) := by
          have hgrow2 : (wr.alloc (.cells #[.int .u8 45] 5)).grownBy w2 (some wr.heap.size) := hgrow
          have := (HW.out.alloc HS.out (.cells #[.int .u8 45] 5)).grown hgrow2 (by simp; have := HS.out; omega) (by intro k hk; injection hk with hk; have := HS.out; omega)
          rw [← HE.out]
          exact this
        rw [← e1] at hcv
        clear hown' hgrow hown2 e1
        rw [hcv]
        go_wp2
        go_ret
        exact ⟨by rw [hit.out]; rfl, HB2.out⟩
      · have hit : Hid (itoa n = acc) := by
          show _ = _
          unfold itoa
          have e : n.toNat = n.natAbs := by omega
          rw [if_neg hneg, e, hdig]
        have hcv := conv_str HO.out
        clear hdig hgo hl'
        go_wp2
        go_ret
        exact ⟨by rw [hit.out]; rfl, by rw [← HE.out]; exact HW.out⟩
end Go.Proofs.YtdeoemeibbkdoaaDoor.dec
