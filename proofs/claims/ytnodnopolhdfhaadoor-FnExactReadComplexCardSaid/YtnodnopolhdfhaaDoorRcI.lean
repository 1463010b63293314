/- ReadComplex: by the library's contracts. -/
import Derived.Test.YtnodnopolhdfhaaDoorRcW
import Derived.Test.YtnodnopolhdfhaaDoorRlI
namespace Go.Proofs.YtnodnopolhdfhaaDoor.rc
open Go.RowKit Go.Lib Go.Fl Go.Rl Go.Rg Go.Proofs.YtnodnopolhdfhaaDoor.own
open Go.Proofs.YtnodnopolhdfhaaDoor.rl (MaxOk max_below tl_none tl_other)

set_option maxRecDepth 100000 in
set_option maxHeartbeats 1600000 in
theorem items_any (s : ByteArray) (hs : s.size ≤ 1048576) (w : World) (hm : MaxOk w) :
    Calls Tryd.prog 82 #[.string s, .int .i64 256, .func (.func 83) #[] #[]] w (RAns s w) := by
  obtain ⟨i0, hi, hz0, hz1, hz2⟩ := info_parts info_c
  have HM : Hid (MaxOk w) := hm
  clear hm
  by_cases hno : s.data.toList = none_
  · have htl := tl_none hno
    have HA : Hid (RAns s w (.returned (.tuple #[.slice none 0 0, .bool true])) w) := ⟨_, by unfold GOOD; rw [good_none hno], by unfold LST; rw [lst_none hno]; exact ⟨rfl, .inl ⟨rfl, rfl⟩⟩, Below.refl _ _⟩
    clear hno hi hz0 hz1 hz2
    go_enter Tryd.func82, Tryd.ntmps82
    go_wp2
    go_ret2
    exact HA.out
  · have htl := tl_other hno
    have HN : Hid (s.data.toList ≠ none_) := hno
    clear hno
    have hcnt := rl.count_any s w
    have hsp := rl.split_any s hs w HM.out
    have hp1 : Hid (1 ≤ (cutA [] s.data.toList).length) := by show _ ≤ _; rw [cut_length]; omega
    by_cases h64 : 256 < (cutA [] s.data.toList).length
    · have HA : Hid (RAns s w (.returned (.tuple #[.slice none 0 0, .bool false])) w) := .no (good_many HN.out h64) (Below.refl _ _)
      clear hi hz0 hz1 hz2 hsp
      generalize (cutA [] s.data.toList).length = n at *
      go_enter Tryd.func82, Tryd.ntmps82
      go_wp2_with fail
      refine hcnt.mono ?_
      rintro e w1 ⟨rfl, rfl⟩
      have d1 : (256 : Int) ≤ (n : Int) - 1 := by omega
      go_wp2_with fail
      go_ret2
      exact HA.out
    · have h64' : (cutA [] s.data.toList).length ≤ 256 := by omega
      clear h64
      have d1 : ¬ (256 : Int) ≤ ((cutA [] s.data.toList).length : Int) - 1 := by omega
      have H64 : Hid ((cutA [] s.data.toList).length ≤ 256) := h64'
      clear h64'
      obtain ⟨n, hn⟩ : ∃ n, n = (cutA [] s.data.toList).length := ⟨_, rfl⟩
      rw [← hn] at hcnt d1
      have Hn : Hid (n = (cutA [] s.data.toList).length) := hn
      clear hn
      go_enter Tryd.func82, Tryd.ntmps82
      go_wp2_with fail
      refine hcnt.mono ?_
      rintro e w0 ⟨rfl, hw0⟩
      rw [hw0]
      clear hw0 hcnt
      go_wp2_with fail
      refine hsp.mono ?_
      rintro e w1 ⟨ps, g1, rfl, hps, hg1, hcell, b1⟩
      have HPS : Hid (ps.map (·.data.toList) = cutA [] s.data.toList) := hps
      have hpl : Hid (ps.length = (cutA [] s.data.toList).length) := by show _ = _; rw [← hps, List.length_map]
      have HC : Hid (∀ k p, ps[k]? = some p → w1.cell? ⟨g1, k, none⟩ = some (.string p)) := hcell
      have HG1 : Hid (g1 < w1.heap.size) := hg1
      have HB1 : Hid (Below w.heap.size w w1) := b1
      have hp64 : ps.length ≤ 256 := by have := hpl.out; have := H64.out; omega
      have hml : ps.length ≤ maxLen := by have := hpl.out; have := H64.out; unfold maxLen; omega
      clear hps hcell hg1 b1 hsp d1 Hn
      have hB0 : w.heap.size ≤ w1.heap.size := HB1.out.size
      go_wp2_with (first | (refine wpList_make_own _ rfl (.const (.int .i64 0)) (.tmp 23) 45 rfl w.heap.size 42 i0 (.complex .f32 0 0) 1 Tryd.underlying45 hi hz0 hz1 .i64 .i64 _ ps.length rfl rfl rfl (by rw [hz2]; have := hpl.out; have := H64.out; omega) hml hB0 ?_; intro w2 hown hgrow))
      obtain ⟨G, hG⟩ : ∃ G, G = w1.heap.size := ⟨_, rfl⟩
      rw [← hG] at hown
      rw [← hG]
      have HG : Hid (G = w1.heap.size) := hG
      have hB2 : Hid (Below w1.heap.size w1 w2) := (Below.refl _ _).grown hgrow (Nat.le_refl _) (by intro k hk; cases hk)
      have hB3 : Hid (Below w.heap.size w w2) := HB1.out.trans (hB2.out.mono hB0)
      have HB0 : Hid (w.heap.size ≤ G) := by show _ ≤ _; rw [hG]; exact hB0
      clear hgrow hG hB0
      go_loopw [9, 27] (fun v i wr => ∃ (k : Nat), k ≤ ps.length ∧ v = .slice (some ⟨G, 0, none⟩) k ps.length ∧ i = .int .i64 k ∧ Hid (wr.ownsRow w.heap.size 42 1 (.slice (some ⟨G, 0, none⟩) k ps.length) k ((ps.take k).map fun p => cv2 p.data.toList)) ∧ Hid (∀ p ∈ ps.take k, okc p.data.toList = true) ∧ Hid (Below w1.heap.size w1 wr) ∧ Hid (Below w.heap.size w wr)) (fun _ i _ => ps.length - (RowKit.intOf i).toNat)
      case atStart => exact ⟨0, by omega, rfl, rfl, hown, by show ∀ p ∈ _, _; simp, hB2, hB3⟩
      case round =>
        obtain ⟨k, hk, rfl, rfl, ho, hok, hb1, hb⟩ := hrel
        clear hown hB2 hB3
        by_cases hlt : k < ps.length
        · obtain ⟨p, hp⟩ : ∃ p, ps[k]? = some p := ⟨ps[k], List.getElem?_eq_getElem hlt⟩
          have e1 : wr.cell? ⟨g1, k, none⟩ = some (.string p) := (hb1.out.cell (p := ⟨g1, k, none⟩) HG1.out).trans (HC.out k p hp)
          have hpm : Hid (p.data.toList ∈ cutA [] s.data.toList) := by show _ ∈ _; rw [← HPS.out]; exact List.mem_map.2 ⟨p, List.mem_of_getElem? hp, rfl⟩
          have htk : Hid (ps.take (k + 1) = ps.take k ++ [p]) := by show _ = _; rw [List.take_add_one, hp]; rfl
          have hcall := parts_any p wr
          unfold NAns at hcall
          clear hp
          cases hk2 : okc p.data.toList with
          | false =>
            rw [hk2] at hcall
            simp only [Bool.false_eq_true, if_false] at hcall
            have HA0 : Hid (GOOD s.data.toList = false) := good_bad HN.out hpm.out hk2
            clear hk2
            go_wp2_with fail
            refine hcall.mono ?_
            rintro e w2 ⟨rfl, b2⟩
            have HA : Hid (RAns s w (.returned (.tuple #[.slice none 0 0, .bool false])) w2) := .no HA0.out (hb.out.trans (b2.mono hb.out.size))
            clear b2 hcall ho hok hb hb1 e1
            go_wp2_with fail
            go_ret2
            exact HA.out
          | true =>
            rw [hk2] at hcall
            simp only [if_true] at hcall
            have HOK : Hid (∀ q ∈ ps.take (k + 1), okc q.data.toList = true) := fun q hq => by
              rw [htk.out] at hq
              rcases List.mem_append.1 hq with hq | hq
              · exact hok.out q hq
              · rw [List.mem_singleton.1 hq]; exact hk2
            have hzz : Hid (((ps.take k).map fun p => cv2 p.data.toList) ++ [Value.complex .f32 (hval (p.data.toList.take 8)) (hval (p.data.toList.drop 8))] = ((ps.take (k + 1)).map fun p => cv2 p.data.toList)) := by show _ = _; rw [htk.out]; simp [cv2]
            unfold cv2 at hcall
            clear hk2
            go_wp2_with fail
            refine hcall.mono ?_
            rintro e w2 ⟨rfl, b2⟩
            have HO4 : Hid (w2.ownsRow w.heap.size 42 1 (.slice (some ⟨G, 0, none⟩) k ps.length) k ((ps.take k).map fun p => cv2 p.data.toList)) := own_below ho.out b2
            have HB3 : Hid (Below w.heap.size w w2) := hb.out.trans (b2.mono hb.out.size)
            have HB4 : Hid (Below w1.heap.size w1 w2) := hb1.out.trans (b2.mono hb1.out.size)
            have HS : Hid (w1.heap.size ≤ w2.heap.size) := by have := hb1.out.size; have := b2.size; show _ ≤ _; omega
            clear b2 hcall ho hok hb hb1 e1
            go_wp2_with (first | (at_builtin; refine wpList_append_fits _ rfl (.tmp 39) (.tmp 41) 45 rfl w.heap.size 42 i0 1 Tryd.underlying45 hi hz1 G k ps.length _ rfl (HO4.out.alloc _) ⟨w2.heap.size, 0, none⟩ 1 1 [_] rfl rfl (one_cplx w2 _) (by intro u hu; rw [List.mem_singleton] at hu; subst hu; rfl) (by omega) ?_; intro w3 hown' hgrow))
            rw [hzz.out] at hown'
            have HO5 : Hid (w3.ownsRow w.heap.size 42 1 (.slice (some ⟨G, 0, none⟩) (k + 1) ps.length) (k + 1) ((ps.take (k + 1)).map fun p => cv2 p.data.toList)) := hown'
            have HB5 : Hid (Below w.heap.size w w3) := (HB3.out.alloc (by have := HS.out; have := HB0.out; have := HG.out; omega) _).grown hgrow (by have := HS.out; have := HB0.out; have := HG.out; simp; omega) (by intro j hj; injection hj with hj; have := HB0.out; omega)
            have HB6 : Hid (Below w1.heap.size w1 w3) := (HB4.out.alloc HS.out _).grown hgrow (by have := HS.out; simp; omega) (by intro j hj; injection hj with hj; have := HG.out; omega)
            clear hown' hgrow
            go_roundw
            case rel => exact ⟨k + 1, by omega, rfl, by go_num, HO5, HOK, HB6, HB5⟩
            case measure => simp [RowKit.intOf]; omega
        · obtain rfl : k = ps.length := by omega
          have hall : ∀ p ∈ cutA [] s.data.toList, okc p = true := fun p hp => by
            rw [← HPS.out] at hp
            obtain ⟨q, hq, rfl⟩ := List.mem_map.1 hp
            exact hok.out q (by rw [List.take_length]; exact hq)
          have HA : Hid (RAns s w (.returned (.tuple #[.slice (some ⟨G, 0, none⟩) ps.length ps.length, .bool true])) wr) := by
            refine ⟨_, by unfold GOOD; rw [good_all H64.out hall], ?_, hb.out⟩
            unfold LST
            rw [lst_all HN.out H64.out hall, ← HPS.out, List.map_map, List.length_map]
            have := ho.out
            rw [List.take_length] at this
            exact this
          clear hall ho hok hb hb1 hi hz0 hz1 hz2
          go_wp2_with fail
          go_ret2
          exact HA.out

theorem impl_any (s : ByteArray) (hs : s.size ≤ 1048576) (w : World) (hm : MaxOk w) :
    Calls Tryd.prog 34 #[.string s] w (RAns s w) := by
  have hi := items_any s hs w hm
  clear hm
  go_enter Tryd.func34, Tryd.ntmps34
  go_wp2_with fail
  refine hi.mono ?_
  rintro e w' ⟨v, rfl, ho, hb⟩
  have HA : Hid (RAns s w (.returned (.tuple #[v, .bool (GOOD s.data.toList)])) w') := ⟨v, rfl, ho, hb⟩
  clear hi ho hb
  go_wp2_with fail
  go_ret2
  exact HA.out
theorem model_any (s : ByteArray) (hs : s.size ≤ 1048576) (w : World) :
    Calls Tryd.prog 41 #[.string s] w (RAns s w) := by
  have hi := spec_any s hs w
  go_enter Tryd.func41, Tryd.ntmps41
  go_wp2_with fail
  refine hi.mono ?_
  rintro e w' ⟨v, rfl, ho, hb⟩
  have HA : Hid (RAns s w (.returned (.tuple #[v, .bool (GOOD s.data.toList)])) w') := ⟨v, rfl, ho, hb⟩
  clear hi ho hb
  go_wp2_with fail
  go_ret2
  exact HA.out
end Go.Proofs.YtnodnopolhdfhaaDoor.rc
