/- ReadList: by the library's contracts. -/
import Derived.Test.YtdeoemeibbkdoaaDoorRlW
import Derived.Test.YtdeoemeibbkdoaaDoorRdI
import Derived.Test.YtdeoemeibbkdoaaDoorSShelf
import Derived.Test.YtdeoemeibbkdoaaDoorPost
import Derived.Shelf.Strings.SplitShaped
import Derived.Shelf.Strings.Count
import Derived.Outline
namespace Go.Proofs.YtdeoemeibbkdoaaDoor.rl
open Go.RowKit Go.Lib Go.Rd Go.Rl Go.Proofs.YtdeoemeibbkdoaaDoor.dec Go.Proofs.YtdeoemeibbkdoaaDoor.own Go.Proofs.YtdeoemeibbkdoaaDoor.rd Go.Shelf

/-- some number stands in the library's variable -/
def MaxOk (w : World) : Prop := ∃ m, w.cell? ⟨0, 0, none⟩ = some (.int .i64 m)
theorem max_below {w w' : World} (h : MaxOk w) (hb : Below w.heap.size w w') : MaxOk w' := by
  obtain ⟨m, hm⟩ := h
  refine ⟨m, (hb.cell ?_).trans hm⟩
  show 0 < w.heap.size
  rcases Nat.lt_or_ge 0 w.heap.size with h | h
  · exact h
  · simp [World.cell?, Array.getElem?_eq_none h] at hm
def com : ByteArray := ⟨#[44]⟩

theorem count_com (s : ByteArray) : Lib.countB s com = s.data.toList.count 44 := count_one 44 s.data.toList
theorem split_com (s : ByteArray) : (Lib.splitB com 0 (Lib.countB s com) s).map (·.data.toList) = cutA [] s.data.toList := by
  rw [splitB_data, count_com, cut_split]; rfl
theorem split_len (s : ByteArray) : (Lib.splitB com 0 (Lib.countB s com) s).length = Lib.countB s com + 1 := splitB_all com (by decide) 0 _ s rfl

theorem count_any (s : ByteArray) (w : World) :
    Calls Tryd.prog 79 #[.string s, .string ⟨#[44]⟩] w fun e w' => e = .returned (.int .i64 ((cutA [] s.data.toList).length - 1)) ∧ w' = w := by
  have h : Calls Tryd.prog 79 #[.string s, .string ⟨#[44]⟩] w fun e w' => e = .returned (.int .i64 (Lib.countByte s.data.toList 44)) ∧ w' = w := Any.strings_Count_one Tryd.lays138 s 44 w
  refine h.mono ?_
  rintro e w' ⟨rfl, rfl⟩
  refine ⟨?_, rfl⟩
  rw [cut_length]
  simp [Lib.countByte]

theorem split_any (s : ByteArray) (hs : s.size ≤ 1048576) (w : World) (hm : MaxOk w) :
    Calls Tryd.prog 64 #[.string s, .string ⟨#[44]⟩] w fun e w' => ∃ (ps : List ByteArray) (g : Nat), e = .returned (.slice (some ⟨g, 0, none⟩) ps.length ps.length) ∧ ps.map (·.data.toList) = cutA [] s.data.toList ∧ g < w'.heap.size ∧ (∀ k p, ps[k]? = some p → w'.cell? ⟨g, k, none⟩ = some (.string p)) ∧ Below w.heap.size w w' := by
  obtain ⟨m, hm⟩ := hm
  have h : Calls Tryd.prog 64 #[.string s, .string com] w fun e w' =>
      e = .returned (.slice (some ⟨w.heap.size, 0, none⟩) (Lib.countB s com + 1) (Lib.countB s com + 1)) ∧ w' = w.alloc (.cells ((Lib.splitB com 0 (Lib.countB s com) s).map Value.string).toArray 9) :=
    Any.strings_Split (L := { Tryd.lays146 with }) Tryd.lays146.i9 s com m w (by omega) hm (by decide)
  refine h.mono ?_
  rintro e w' ⟨rfl, rfl⟩
  refine ⟨Lib.splitB com 0 (Lib.countB s com) s, w.heap.size, by rw [split_len], split_com s, by simp, fun k p hk => ?_, (Below.refl _ _).alloc (Nat.le_refl _) _⟩
  have hg := heap_alloc_new w (.cells ((Lib.splitB com 0 (Lib.countB s com) s).map Value.string).toArray 9)
  show (match (w.alloc (.cells ((Lib.splitB com 0 (Lib.countB s com) s).map Value.string).toArray 9)).heap[w.heap.size]? with | some (.cells c _ _) => c[k]? | _ => none) = _
  rw [hg]
  simp [hk]
theorem part_le : ∀ (l cur : List UInt8) (p : List UInt8), p ∈ cutA cur l → p.length ≤ cur.length + l.length
  | [], cur, p, h => by
    rw [cutA, List.mem_singleton] at h
    rw [h]; simp
  | c :: r, cur, p, h => by
    by_cases hc : c = 44
    · subst hc
      rw [cutA_com] at h
      rcases List.mem_cons.1 h with h | h
      · rw [h]; simp
      · have := part_le r [] p h
        simp at *; omega
    · rw [cutA_let _ _ _ hc] at h
      have := part_le r _ p h
      simp at *; omega

set_option maxRecDepth 100000 in
set_option maxHeartbeats 1600000 in
theorem items_any (s : ByteArray) (hs : s.size ≤ 1048576) (w : World) (hl : LaidOk w) (hm : MaxOk w) :
    Calls Tryd.prog 61 #[.string s, .int .i64 64, .func (.func 62) #[] #[]] w (RAns s w) := by
  obtain ⟨i0, hi, hz0, hz1, hz2⟩ := info_parts info_i
  have HL : Hid (LaidOk w) := hl
  have HM : Hid (MaxOk w) := hm
  clear hl hm
  by_cases hno : s.data.toList = none_
  · have htl := tl_none hno
    have HA : Hid (RAns s w (.returned (.tuple #[.slice none 0 0, .bool true])) w) := ⟨_, by rw [good_none hno], by rw [lst_none hno]; exact ⟨rfl, .inl ⟨rfl, rfl⟩⟩, Below.refl _ _⟩
    clear hno hi hz0 hz1 hz2
    go_enter Tryd.func61, Tryd.ntmps61
    go_wp2
    go_ret2
    exact HA.out
  · have htl := tl_other hno
    have HN : Hid (s.data.toList ≠ none_) := hno
    clear hno
    have hcnt := count_any s w
    have hsp := split_any s hs w HM.out
    have hp1 : Hid (1 ≤ (cutA [] s.data.toList).length) := by show _ ≤ _; rw [cut_length]; omega
    by_cases h64 : 64 < (cutA [] s.data.toList).length
    · have HA : Hid (RAns s w (.returned (.tuple #[.slice none 0 0, .bool false])) w) := .no (good_many HN.out h64) (Below.refl _ _)
      clear hi hz0 hz1 hz2 hsp
      generalize (cutA [] s.data.toList).length = n at *
      go_enter Tryd.func61, Tryd.ntmps61
      go_wp2_with fail
      refine hcnt.mono ?_
      rintro e w1 ⟨rfl, rfl⟩
      have d1 : (64 : Int) ≤ (n : Int) - 1 := by omega
      go_wp2_with fail
      go_ret2
      exact HA.out
    · have h64' : (cutA [] s.data.toList).length ≤ 64 := by omega
      clear h64
      have d1 : ¬ (64 : Int) ≤ ((cutA [] s.data.toList).length : Int) - 1 := by omega
      have H64 : Hid ((cutA [] s.data.toList).length ≤ 64) := h64'
      clear h64'
      obtain ⟨n, hn⟩ : ∃ n, n = (cutA [] s.data.toList).length := ⟨_, rfl⟩
      rw [← hn] at hcnt d1
      have Hn : Hid (n = (cutA [] s.data.toList).length) := hn
      clear hn
      go_enter Tryd.func61, Tryd.ntmps61
      go_wp2_with fail
      refine hcnt.mono ?_
      rintro e w0 ⟨rfl, hw0⟩
      rw [hw0]
      clear hw0 hcnt
      go_wp2_with fail
      refine hsp.mono ?_
      rintro e w1 ⟨ps, g1, rfl, hps, hg1, hcell, b1⟩
      have HPS : Hid (ps.map (·.data.toList) = cutA [] s.data.toList) := hps
      have hpl : Hid (ps.length = (cutA [] s.data.toList).length) := by show _ = _; rw [← hps, List.length_map]
      have HC : Hid (∀ k p, ps[k]? = some p → w1.cell? ⟨g1, k, none⟩ = some (.string p)) := hcell
      have HG1 : Hid (g1 < w1.heap.size) := hg1
      have HB1 : Hid (Below w.heap.size w w1) := b1
      have hp64 : ps.length ≤ 64 := by have := hpl.out; have := H64.out; omega
      have hml : ps.length ≤ maxLen := by have := hpl.out; have := H64.out; unfold maxLen; omega
      clear hps hcell hg1 b1 hsp d1 Hn
      have hB0 : w.heap.size ≤ w1.heap.size := HB1.out.size
      go_wp2_with (first | (refine wpList_make_own _ rfl (.const (.int .i64 0)) (.tmp 23) 22 rfl w.heap.size 2 i0 (.int .i64 0) 1 Tryd.underlying22 hi hz0 hz1 .i64 .i64 _ ps.length rfl rfl rfl (by rw [hz2]; have := hpl.out; have := H64.out; omega) hml hB0 ?_; intro w2 hown hgrow))
      obtain ⟨G, hG⟩ : ∃ G, G = w1.heap.size := ⟨_, rfl⟩
      rw [← hG] at hown
      rw [← hG]
      have HG : Hid (G = w1.heap.size) := hG
      have hB2 : Hid (Below w1.heap.size w1 w2) := (Below.refl _ _).grown hgrow (Nat.le_refl _) (by intro k hk; cases hk)
      have hB3 : Hid (Below w.heap.size w w2) := HB1.out.trans (hB2.out.mono hB0)
      have HB0 : Hid (w.heap.size ≤ G) := by show _ ≤ _; rw [hG]; exact hB0
      clear hgrow hG hB0
      go_loopw [9, 27] (fun v i wr => ∃ (k : Nat), k ≤ ps.length ∧ v = .slice (some ⟨G, 0, none⟩) k ps.length ∧ i = .int .i64 k ∧ Hid (wr.ownsRow w.heap.size 2 1 (.slice (some ⟨G, 0, none⟩) k ps.length) k (((ps.take k).map fun p => zof p.data.toList).map (Value.int .i64))) ∧ Hid (∀ p ∈ ps.take k, ok p.data.toList = true) ∧ Hid (Below w1.heap.size w1 wr) ∧ Hid (Below w.heap.size w wr)) (fun _ i _ => ps.length - (RowKit.intOf i).toNat)
      case atStart => exact ⟨0, by omega, rfl, rfl, hown, by show ∀ p ∈ _, _; simp, hB2, hB3⟩
      case round =>
        obtain ⟨k, hk, rfl, rfl, ho, hok, hb1, hb⟩ := hrel
        clear hown hB2 hB3
        by_cases hlt : k < ps.length
        · obtain ⟨p, hp⟩ : ∃ p, ps[k]? = some p := ⟨ps[k], List.getElem?_eq_getElem hlt⟩
          have e1 : wr.cell? ⟨g1, k, none⟩ = some (.string p) := (hb1.out.cell (p := ⟨g1, k, none⟩) HG1.out).trans (HC.out k p hp)
          have hpm : Hid (p.data.toList ∈ cutA [] s.data.toList) := by show _ ∈ _; rw [← HPS.out]; exact List.mem_map.2 ⟨p, List.mem_of_getElem? hp, rfl⟩
          have htk : Hid (ps.take (k + 1) = ps.take k ++ [p]) := by show _ = _; rw [List.take_add_one, hp]; rfl
          have hps : p.size ≤ 1048576 := by
            have := part_le _ _ _ hpm.out
            simp at this
            omega
          have hcall := rd.impl_any p hps wr (laid_below HL.out hb.out)
          clear hp hps
          go_wp2_with fail
          refine hcall.mono ?_
          rintro e w2 ⟨⟨z, b, rfl, ho2⟩, b2⟩
          cases b with
          | false =>
            have HA : Hid (RAns s w (.returned (.tuple #[.slice none 0 0, .bool false])) w2) := .no (good_bad HN.out hpm.out (out_not ho2).1) (hb.out.trans (b2.mono hb.out.size))
            clear ho2 b2 hcall ho hok hb hb1 e1
            go_wp2_with fail
            go_ret2
            exact HA.out
          | true =>
            obtain ⟨hok1, rfl⟩ := out_yes ho2
            have HOK : Hid (∀ q ∈ ps.take (k + 1), ok q.data.toList = true) := fun q hq => by
              rw [htk.out] at hq
              rcases List.mem_append.1 hq with hq | hq
              · exact hok.out q hq
              · rw [List.mem_singleton.1 hq]; exact hok1
            have HO4 : Hid (w2.ownsRow w.heap.size 2 1 (.slice (some ⟨G, 0, none⟩) k ps.length) k (((ps.take k).map fun p => zof p.data.toList).map (Value.int .i64))) := own_below ho.out b2
            have HB3 : Hid (Below w.heap.size w w2) := hb.out.trans (b2.mono hb.out.size)
            have HB4 : Hid (Below w1.heap.size w1 w2) := hb1.out.trans (b2.mono hb1.out.size)
            have HS : Hid (w1.heap.size ≤ w2.heap.size) := by have := hb1.out.size; have := b2.size; show _ ≤ _; omega
            have hzz : Hid (((ps.take k).map fun p => zof p.data.toList).map (Value.int .i64) ++ [Value.int .i64 (zof p.data.toList)] = (((ps.take (k + 1)).map fun p => zof p.data.toList).map (Value.int .i64))) := by show _ = _; rw [htk.out]; simp
            clear ho2 b2 hcall ho hok hb hb1 e1 hok1
            generalize zof p.data.toList = z at hzz
            go_wp2_with (first | (at_builtin; refine wpList_append_fits _ rfl (.tmp 39) (.tmp 41) 22 rfl w.heap.size 2 i0 1 Tryd.underlying22 hi hz1 G k ps.length _ rfl (HO4.out.alloc _) ⟨w2.heap.size, 0, none⟩ 1 1 [.int .i64 _] rfl rfl (one_int w2 _) (by intro u hu; rw [List.mem_singleton] at hu; subst hu; rfl) (by omega) ?_; intro w3 hown' hgrow))
            rw [hzz.out] at hown'
            have HO5 : Hid (w3.ownsRow w.heap.size 2 1 (.slice (some ⟨G, 0, none⟩) (k + 1) ps.length) (k + 1) (((ps.take (k + 1)).map fun p => zof p.data.toList).map (Value.int .i64))) := hown'
            have HB5 : Hid (Below w.heap.size w w3) := (HB3.out.alloc (by have := HS.out; have := HB0.out; have := HG.out; omega) _).grown hgrow (by have := HS.out; have := HB0.out; have := HG.out; simp; omega) (by intro j hj; injection hj with hj; have := HB0.out; omega)
            have HB6 : Hid (Below w1.heap.size w1 w3) := (HB4.out.alloc HS.out _).grown hgrow (by have := HS.out; simp; omega) (by intro j hj; injection hj with hj; have := HG.out; omega)
            clear hown' hgrow
            go_roundw
            case rel => exact ⟨k + 1, by omega, rfl, by go_num, HO5, HOK, HB6, HB5⟩
            case measure => simp [RowKit.intOf]; omega
        · obtain rfl : k = ps.length := by omega
          have hall : ∀ p ∈ cutA [] s.data.toList, ok p = true := fun p hp => by
            rw [← HPS.out] at hp
            obtain ⟨q, hq, rfl⟩ := List.mem_map.1 hp
            exact hok.out q (by rw [List.take_length]; exact hq)
          have HA : Hid (RAns s w (.returned (.tuple #[.slice (some ⟨G, 0, none⟩) ps.length ps.length, .bool true])) wr) := by
            refine ⟨_, by rw [good_all H64.out hall], ?_, hb.out⟩
            rw [lst_all HN.out H64.out hall, ← HPS.out, List.map_map, List.length_map]
            have := ho.out
            rw [List.take_length] at this
            exact this
          clear hall ho hok hb hb1 hi hz0 hz1 hz2
          go_wp2_with fail
          go_ret2
          exact HA.out

theorem impl_any (s : ByteArray) (hs : s.size ≤ 1048576) (w : World) (hl : LaidOk w) (hm : MaxOk w) :
    Calls Tryd.prog 36 #[.string s] w (RAns s w) := by
  have hi := items_any s hs w hl hm
  clear hl hm
  go_enter Tryd.func36, Tryd.ntmps36
  go_wp2_with fail
  refine hi.mono ?_
  rintro e w' ⟨v, rfl, ho, hb⟩
  have HA : Hid (RAns s w (.returned (.tuple #[v, .bool (good s.data.toList)])) w') := ⟨v, rfl, ho, hb⟩
  clear hi ho hb
  go_wp2_with fail
  go_ret2
  exact HA.out
end Go.Proofs.YtdeoemeibbkdoaaDoor.rl
