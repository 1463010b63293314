/- The model's reading of a list of numbers. -/
import Derived.Test.YtdeoemeibbkdoaaDoorRlC
namespace Go.Proofs.YtdeoemeibbkdoaaDoor.rl
open Go.RowKit Go.Lib Go.Rd Go.Rl Go.Proofs.YtdeoemeibbkdoaaDoor.dec Go.Proofs.YtdeoemeibbkdoaaDoor.own

/-- an append to one block leaves another be -/
theorem other {w w' : World} {B e e' g g1 n cap m : Nat} {xs : List Value} {cs : Array Value} {fz : Nat × Nat} {o : Obj} (h : w.ownsRow B e 1 (.slice (some ⟨g, 0, none⟩) n cap) m xs) (h1 : w.heap[g1]? = some (.cells cs e' fz)) (he : e ≠ e') (hg : (w.alloc o).grownBy w' (some g)) : w'.heap[g1]? = w.heap[g1]? := by
  obtain ⟨c, hc⟩ := own_obj h
  have hl : g1 < w.heap.size := (Array.getElem?_eq_some_iff.1 h1).1
  have hne : g1 ≠ g := fun e0 => by
    rw [e0, hc] at h1
    injection h1 with h1
    injection h1 with _ h2
    exact he h2
  have h2 := hg.block g1 (by simp; omega) (fun e0 => hne (Option.some.inj e0))
  rw [h2]
  exact ((Below.refl w.heap.size w).alloc (Nat.le_refl _) o).block g1 hl

/-- the list that is read -/
def lst (s : List UInt8) : List Int := if good s then vals s else []
/-- an ending that answers so, its list in memory of its own -/
def RAns (s : ByteArray) (w : World) (e : Ending) (w' : World) : Prop :=
  ∃ v, e = .returned (.tuple #[v, .bool (good s.data.toList)]) ∧ w'.ownsRow w.heap.size 2 1 v (lst s.data.toList).length ((lst s.data.toList).map (Value.int .i64)) ∧ Below w.heap.size w w'
theorem RAns.no {s : ByteArray} {w w' : World} (h : good s.data.toList = false) (hb : Below w.heap.size w w') : RAns s w (.returned (.tuple #[.slice none 0 0, .bool false])) w' :=
  ⟨_, by rw [h], by unfold lst; rw [h]; exact ⟨rfl, .inl ⟨rfl, rfl⟩⟩, hb⟩

theorem good_none {s : List UInt8} (h : s = none_) : good s = true := by unfold good; rw [decide_eq_true h]; rfl
theorem lst_none {s : List UInt8} (h : s = none_) : lst s = [] := by unfold lst vals; rw [good_none h, if_pos rfl, if_pos h]
theorem good_many {s : List UInt8} (h : s ≠ none_) (h2 : 64 < (cutA [] s).length) : good s = false := by
  unfold good; rw [decide_eq_false h, decide_eq_false (by omega : ¬ _ ≤ 64)]; rfl
theorem good_bad {s : List UInt8} (h : s ≠ none_) {p : List UInt8} (hp : p ∈ cutA [] s) (hk : ok p = false) : good s = false := by
  unfold good
  rw [decide_eq_false h, Bool.false_or, Bool.and_eq_false_iff]
  exact .inr (List.all_eq_false.2 ⟨p, hp, by rw [hk]; simp⟩)
theorem good_all {s : List UInt8} (h2 : (cutA [] s).length ≤ 64) (h : ∀ p ∈ cutA [] s, ok p = true) : good s = true := by
  unfold good
  rw [decide_eq_true h2, List.all_eq_true.2 h]
  simp
theorem lst_all {s : List UInt8} (hn : s ≠ none_) (h2 : (cutA [] s).length ≤ 64) (h : ∀ p ∈ cutA [] s, ok p = true) : lst s = (cutA [] s).map zof := by
  unfold lst vals; rw [good_all h2 h, if_pos rfl, if_neg hn]
theorem tl_none {s : ByteArray} (h : s.data.toList = none_) : (s.toList == [110, 111, 110, 101]) = true := by rw [ByteArray.toList_eq, h]; rfl
theorem tl_other {s : ByteArray} (h : s.data.toList ≠ none_) : (s.toList == [110, 111, 110, 101]) = false := by
  rw [ByteArray.toList_eq, beq_eq_false_iff_ne]; exact h

theorem info_i : (Tryd.prog.info? 2).map (fun i => (i.zero, i.size, i.bytes)) = some (some (.int .i64 0), 1, 8) := by kernel_rfl
theorem one_int (w : World) (u : Value) : ∀ j v, [u][j]? = some v → (w.alloc (.cells #[u] 2)).cell? ((⟨w.heap.size, 0, none⟩ : Addr).add j) = some v := by
  have ho : (w.alloc (.cells #[u] 2)).ownsRow w.heap.size 2 1 (.slice (some ⟨w.heap.size, 0, none⟩) 1 1) 1 [u] :=
    ⟨rfl, .inr ⟨w.heap.size, 1, #[u], rfl, Nat.le_refl _, heap_alloc_new w _, by omega, by decide, rfl, rfl⟩⟩
  intro j v hj
  have hl : j < 1 := by
    have := (List.getElem?_eq_some_iff.1 hj).1
    simpa using this
  rw [Addr.add_lit, Nat.zero_add, ho.cellAt j (by omega)]
  exact hj
theorem own_from {w : World} {B C e n : Nat} {v : Value} {xs : List Value} (h : w.ownsRow C e 1 v n xs) (hB : B ≤ C) : w.ownsRow B e 1 v n xs := by
  refine ⟨h.1, ?_⟩
  rcases h.2 with h' | ⟨g, cap, cur, h', hb, r⟩
  · exact .inl h'
  · exact .inr ⟨g, cap, cur, h', by omega, r⟩

set_option maxRecDepth 100000 in
set_option maxHeartbeats 1600000 in
theorem numbers_any (s : ByteArray) (hs : s.size ≤ 1048576) (w : World) :
    Calls Tryd.prog 60 #[.string s] w (RAns s w) := by
  obtain ⟨i0, hi, hz0, hz1, hz2⟩ := info_parts info_i
  have start : Hid ((w.alloc (.cells #[] 2)).ownsRow w.heap.size 2 1 (.slice (some ⟨w.heap.size, 0, none⟩) 0 0) 0 (([] : List Int).map (Value.int .i64))) :=
    ⟨rfl, .inr ⟨w.heap.size, 0, #[], rfl, Nat.le_refl _, heap_alloc_new w _, by simp, by decide, rfl, rfl⟩⟩
  have startB : Hid (Below w.heap.size w (w.alloc (.cells #[] 2))) := (Below.refl _ _).alloc (Nat.le_refl _) _
  by_cases hno : s.data.toList = none_
  · have htl := tl_none hno
    have HA : Hid (RAns s w (.returned (.tuple #[.slice (some ⟨w.heap.size, 0, none⟩) 0 0, .bool true])) (w.alloc (.cells #[] 2))) := ⟨_, by rw [good_none hno], by rw [lst_none hno]; exact start.out, startB.out⟩
    clear hno start startB
    go_enter Tryd.func60, Tryd.ntmps60
    go_wp2
    go_ret2
    exact HA.out
  · have htl := tl_other hno
    have HN : Hid (s.data.toList ≠ none_) := hno
    clear hno
    go_enter Tryd.func60, Tryd.ntmps60
    go_wp2_with fail
    refine (cut_any s hs _).mono ?_
    rintro e w1 ⟨v1, ps, rfl, hps, ht, b1⟩
    obtain ⟨g1, cap1, cs1, fz1, rfl, hob1, hcell⟩ := ht
    have HPS : Hid (ps.map (·.data.toList) = cutA [] s.data.toList) := hps
    have hpl : Hid (ps.length = (cutA [] s.data.toList).length) := by show _ = _; rw [← hps, List.length_map]
    have HC : Hid (∀ k p, ps[k]? = some p → w1.cell? ⟨g1, k, none⟩ = some (.string p)) := hcell
    have HG1 : Hid (w1.heap[g1]? = some (.cells cs1 9 fz1)) := hob1
    have HO : Hid (w1.ownsRow w.heap.size 2 1 (.slice (some ⟨w.heap.size, 0, none⟩) 0 0) 0 (([] : List Int).map (Value.int .i64))) := own_below start.out b1
    have HB1 : Hid (Below w.heap.size w w1) := startB.out.trans (b1.mono (by simp))
    have HW1 : Hid (w.heap.size < w1.heap.size) := ils.own_lt HO.out
    clear start startB hps hcell hob1 b1
    by_cases h64 : 64 < ps.length
    · have HA : Hid (RAns s w (.returned (.tuple #[.slice none 0 0, .bool false])) w1) := .no (good_many HN.out (by have := hpl.out; omega)) HB1.out
      clear hi hz0 hz1 hz2
      go_wp2_with fail
      go_ret2
      exact HA.out
    · have h64' : ps.length ≤ 64 := by omega
      clear h64
      go_wp2_with fail
      go_loopw [4, 6] (fun v q wr => ∃ (k g cap : Nat), k ≤ ps.length ∧ v = .slice (some ⟨g, 0, none⟩) k cap ∧ q = .int .i64 k ∧ Hid (wr.ownsRow w.heap.size 2 1 (.slice (some ⟨g, 0, none⟩) k cap) k (((ps.take k).map fun p => zof p.data.toList).map (Value.int .i64))) ∧ Hid (∀ p ∈ ps.take k, ok p.data.toList = true) ∧ Hid (wr.heap[g1]? = some (.cells cs1 9 fz1)) ∧ Hid (Below w.heap.size w wr)) (fun _ q _ => ps.length - (RowKit.intOf q).toNat)
      case atStart => exact ⟨0, _, _, by omega, rfl, rfl, HO, by show ∀ p ∈ _, _; simp, HG1, HB1⟩
      case round =>
        obtain ⟨k, g, cap, hk, rfl, rfl, ho, hok, hg1, hb⟩ := hrel
        by_cases hlt : k < ps.length
        · obtain ⟨p, hp⟩ : ∃ p, ps[k]? = some p := ⟨ps[k], List.getElem?_eq_getElem hlt⟩
          have e1 : wr.cell? ⟨g1, k, none⟩ = some (.string p) := (World.cell?_of_block (a := ⟨g1, k, none⟩) (by rw [hg1.out, HG1.out])).trans (HC.out k p hp)
          have hpm : Hid (p.data.toList ∈ cutA [] s.data.toList) := by show _ ∈ _; rw [← HPS.out]; exact List.mem_map.2 ⟨p, List.mem_of_getElem? hp, rfl⟩
          have htk : Hid (ps.take (k + 1) = ps.take k ++ [p]) := by show _ = _; rw [List.take_add_one, hp]; rfl
          have hcall := rd.value_any p wr
          clear hp
          go_wp2_with fail
          refine hcall.mono ?_
          rintro e w2 ⟨⟨z, b, rfl, ho2⟩, b2⟩
          cases b with
          | false =>
            have HA : Hid (RAns s w (.returned (.tuple #[.slice none 0 0, .bool false])) w2) := .no (good_bad HN.out hpm.out (out_not ho2).1) (hb.out.trans (b2.mono hb.out.size))
            clear ho2 b2 hcall ho hok hb hg1 e1
            go_wp2_with fail
            go_ret2
            exact HA.out
          | true =>
            obtain ⟨hok1, rfl⟩ := out_yes ho2
            have HOK : Hid (∀ q ∈ ps.take (k + 1), ok q.data.toList = true) := fun q hq => by
              rw [htk.out] at hq
              rcases List.mem_append.1 hq with hq | hq
              · exact hok.out q hq
              · rw [List.mem_singleton.1 hq]; exact hok1
            have HO3 := own_below ho.out b2
            have HG3 : Hid (w2.heap[g1]? = some (.cells cs1 9 fz1)) := by show _ = _; rw [b2.block g1 (Array.getElem?_eq_some_iff.1 hg1.out).1]; exact hg1.out
            have HB3 : Hid (Below w.heap.size w w2) := hb.out.trans (b2.mono hb.out.size)
            have HO4 : Hid (w2.ownsRow w.heap.size 2 1 (.slice (some ⟨g, 0, none⟩) k cap) k (((ps.take k).map fun p => zof p.data.toList).map (Value.int .i64))) := HO3
            have HS : Hid (w.heap.size ≤ w2.heap.size) := by have := hb.out.size; have := b2.size; show _ ≤ _; omega
            have hzz : Hid (((ps.take k).map fun p => zof p.data.toList).map (Value.int .i64) ++ [Value.int .i64 (zof p.data.toList)] = (((ps.take (k + 1)).map fun p => zof p.data.toList).map (Value.int .i64))) := by show _ = _; rw [htk.out]; simp
            have HGg : Hid (w.heap.size ≤ g) := by
              rcases ho.out.2 with ⟨h', _⟩ | ⟨g', cap', cur, h', hB, _⟩
              · simp at h'
              · simp only [Value.slice.injEq, Option.some.injEq, Addr.mk.injEq, and_true] at h'
                obtain ⟨rfl, _⟩ := h'
                exact hB
            clear ho2 b2 hcall ho hok hb hg1 e1 HO3 hok1
            generalize zof p.data.toList = z at hzz
            go_wp2_with (first | (at_builtin; refine wpList_append_own _ rfl (.tmp 34) (.tmp 36) 22 rfl w.heap.size 2 i0 (.int .i64 0) 1 8 Tryd.underlying22 hi hz0 hz1 hz2 rfl (by decide) _ k _ rfl (HO4.out.alloc _) ⟨w2.heap.size, 0, none⟩ 1 1 [.int .i64 _] rfl rfl (one_int w2 _) (by intro u hu; rw [List.mem_singleton] at hu; subst hu; rfl) (by unfold maxLen; omega) (by omega) (by have := HS.out; simp; omega) ?_; intro v' w3 hown' hgrow _))
            obtain ⟨g', cap', rfl⟩ := own_shape hown' (by omega)
            rw [hzz.out] at hown'
            have HO5 : Hid (w3.ownsRow w.heap.size 2 1 (.slice (some ⟨g', 0, none⟩) (k + 1) cap') (k + 1) (((ps.take (k + 1)).map fun p => zof p.data.toList).map (Value.int .i64))) := hown'
            have HG5 : Hid (w3.heap[g1]? = some (.cells cs1 9 fz1)) := by show _ = _; rw [other HO4.out HG3.out (by decide) hgrow]; exact HG3.out
            have HB5 : Hid (Below w.heap.size w w3) := (HB3.out.alloc HS.out _).grown hgrow (by have := HS.out; simp; omega) (by intro j hj; have hj' : some g = some j := hj; injection hj' with hj'; have := HGg.out; omega)
            clear hown' hgrow
            go_roundw
            case rel => exact ⟨k + 1, g', cap', by omega, rfl, by go_num, HO5, HOK, HG5, HB5⟩
            case measure => simp [RowKit.intOf]; omega
        · obtain rfl : k = ps.length := by omega
          have hall : ∀ p ∈ cutA [] s.data.toList, ok p = true := fun p hp => by
            rw [← HPS.out] at hp
            obtain ⟨q, hq, rfl⟩ := List.mem_map.1 hp
            exact hok.out q (by rw [List.take_length]; exact hq)
          have h64'' : (cutA [] s.data.toList).length ≤ 64 := by have := hpl.out; omega
          have HA : Hid (RAns s w (.returned (.tuple #[.slice (some ⟨g, 0, none⟩) ps.length cap, .bool true])) wr) := by
            refine ⟨_, by rw [good_all h64'' hall], ?_, hb.out⟩
            rw [lst_all HN.out h64'' hall, ← HPS.out, List.map_map, List.length_map]
            have := ho.out
            rw [List.take_length] at this
            exact this
          clear hall h64'' ho hok hb hg1 hi hz0 hz1 hz2
          go_wp2_with fail
          go_ret2
          exact HA.out
end Go.Proofs.YtdeoemeibbkdoaaDoor.rl
