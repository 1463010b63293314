/- The model's reading of a list of complex numbers. -/
import Derived.Test.YtnodnopolhdfhaaDoorRcR
namespace Go.Proofs.YtnodnopolhdfhaaDoor.rc
open Go.RowKit Go.Lib Go.Fl Go.Rl Go.Rg Go.Proofs.YtnodnopolhdfhaaDoor.dec Go.Proofs.YtnodnopolhdfhaaDoor.own
open Go.Proofs.YtnodnopolhdfhaaDoor.rn (fv)
open Go.Proofs.YtnodnopolhdfhaaDoor.rl (Strs own_obj cut_any tl_none tl_other other)

def GOOD (s : List UInt8) : Bool := good okc 256 s
def LST (s : List UInt8) : List Value := lst okc 256 cv2 s
/-- an ending that answers so, its list in memory of its own -/
def RAns (s : ByteArray) (w : World) (e : Ending) (w' : World) : Prop :=
  ∃ v, e = .returned (.tuple #[v, .bool (GOOD s.data.toList)]) ∧ w'.ownsRow w.heap.size 42 1 v (LST s.data.toList).length (LST s.data.toList) ∧ Below w.heap.size w w'
theorem RAns.no {s : ByteArray} {w w' : World} (h : GOOD s.data.toList = false) (hb : Below w.heap.size w w') : RAns s w (.returned (.tuple #[.slice none 0 0, .bool false])) w' :=
  ⟨_, by rw [h], by unfold LST lst; unfold GOOD at h; rw [h]; exact ⟨rfl, .inl ⟨rfl, rfl⟩⟩, hb⟩

theorem info_c : (Tryd.prog.info? 42).map (fun i => (i.zero, i.size, i.bytes)) = some (some (.complex .f32 0 0), 1, 8) := by kernel_rfl
theorem one_cplx (w : World) (u : Value) : ∀ j v, [u][j]? = some v → (w.alloc (.cells #[u] 42)).cell? ((⟨w.heap.size, 0, none⟩ : Addr).add j) = some v := by
  have ho : (w.alloc (.cells #[u] 42)).ownsRow w.heap.size 42 1 (.slice (some ⟨w.heap.size, 0, none⟩) 1 1) 1 [u] :=
    ⟨rfl, .inr ⟨w.heap.size, 1, #[u], rfl, Nat.le_refl _, heap_alloc_new w _, by omega, by decide, rfl, rfl⟩⟩
  intro j v hj
  have hl : j < 1 := by
    have := (List.getElem?_eq_some_iff.1 hj).1
    simpa using this
  rw [Addr.add_lit, Nat.zero_add, ho.cellAt j (by omega)]
  exact hj

set_option maxRecDepth 100000 in
set_option maxHeartbeats 1600000 in
theorem spec_any (s : ByteArray) (hs : s.size ≤ 1048576) (w : World) :
    Calls Tryd.prog 89 #[.string s] w (RAns s w) := by
  obtain ⟨i0, hi, hz0, hz1, hz2⟩ := info_parts info_c
  have start : Hid ((w.alloc (.cells #[] 42)).ownsRow w.heap.size 42 1 (.slice (some ⟨w.heap.size, 0, none⟩) 0 0) 0 []) :=
    ⟨rfl, .inr ⟨w.heap.size, 0, #[], rfl, Nat.le_refl _, heap_alloc_new w _, by simp, by decide, rfl, rfl⟩⟩
  have startB : Hid (Below w.heap.size w (w.alloc (.cells #[] 42))) := (Below.refl _ _).alloc (Nat.le_refl _) _
  by_cases hno : s.data.toList = none_
  · have htl := tl_none hno
    have HA : Hid (RAns s w (.returned (.tuple #[.slice (some ⟨w.heap.size, 0, none⟩) 0 0, .bool true])) (w.alloc (.cells #[] 42))) := ⟨_, by unfold GOOD; rw [good_none hno], by unfold LST; rw [lst_none hno]; exact start.out, startB.out⟩
    clear hno start startB
    go_enter Tryd.func89, Tryd.ntmps89
    go_wp2
    go_ret2
    exact HA.out
  · have htl := tl_other hno
    have HN : Hid (s.data.toList ≠ none_) := hno
    clear hno
    go_enter Tryd.func89, Tryd.ntmps89
    go_wp2_with fail
    refine (cut_any s hs _).mono ?_
    rintro e w1 ⟨v1, ps, rfl, hps, ht, b1⟩
    obtain ⟨g1, cap1, cs1, fz1, rfl, hob1, hcell⟩ := ht
    have HPS : Hid (ps.map (·.data.toList) = cutA [] s.data.toList) := hps
    have hpl : Hid (ps.length = (cutA [] s.data.toList).length) := by show _ = _; rw [← hps, List.length_map]
    have HC : Hid (∀ k p, ps[k]? = some p → w1.cell? ⟨g1, k, none⟩ = some (.string p)) := hcell
    have HG1 : Hid (w1.heap[g1]? = some (.cells cs1 9 fz1)) := hob1
    have HO : Hid (w1.ownsRow w.heap.size 42 1 (.slice (some ⟨w.heap.size, 0, none⟩) 0 0) 0 []) := own_below start.out b1
    have HB1 : Hid (Below w.heap.size w w1) := startB.out.trans (b1.mono (by simp))
    have HW1 : Hid (w.heap.size < w1.heap.size) := ils.own_lt HO.out
    clear start startB hps hcell hob1 b1
    by_cases h64 : 256 < ps.length
    · have HA : Hid (RAns s w (.returned (.tuple #[.slice none 0 0, .bool false])) w1) := .no (good_many HN.out (by have := hpl.out; omega)) HB1.out
      clear hi hz0 hz1 hz2
      go_wp2_with fail
      go_ret2
      exact HA.out
    · have h64' : ps.length ≤ 256 := by omega
      clear h64
      go_wp2_with fail
      go_loopw [4, 6] (fun v q wr => ∃ (k g cap : Nat), k ≤ ps.length ∧ v = .slice (some ⟨g, 0, none⟩) k cap ∧ q = .int .i64 k ∧ Hid (wr.ownsRow w.heap.size 42 1 (.slice (some ⟨g, 0, none⟩) k cap) k ((ps.take k).map fun p => cv2 p.data.toList)) ∧ Hid (∀ p ∈ ps.take k, okc p.data.toList = true) ∧ Hid (wr.heap[g1]? = some (.cells cs1 9 fz1)) ∧ Hid (Below w.heap.size w wr)) (fun _ q _ => ps.length - (RowKit.intOf q).toNat)
      case atStart => exact ⟨0, _, _, by omega, rfl, rfl, HO, by show ∀ p ∈ _, _; simp, HG1, HB1⟩
      case round =>
        obtain ⟨k, g, cap, hk, rfl, rfl, ho, hok, hg1, hb⟩ := hrel
        by_cases hlt : k < ps.length
        · obtain ⟨p, hp⟩ : ∃ p, ps[k]? = some p := ⟨ps[k], List.getElem?_eq_getElem hlt⟩
          have e1 : wr.cell? ⟨g1, k, none⟩ = some (.string p) := (World.cell?_of_block (a := ⟨g1, k, none⟩) (by rw [hg1.out, HG1.out])).trans (HC.out k p hp)
          have hpm : Hid (p.data.toList ∈ cutA [] s.data.toList) := by show _ ∈ _; rw [← HPS.out]; exact List.mem_map.2 ⟨p, List.mem_of_getElem? hp, rfl⟩
          have htk : Hid (ps.take (k + 1) = ps.take k ++ [p]) := by show _ = _; rw [List.take_add_one, hp]; rfl
          clear hp
          by_cases h16 : p.size = 16
          · have hp16 : Hid (p.data.toList.length = 16) := by show _ = _; simpa using h16
            have hre := digits_any (p.extract 0 8) (by simp; omega) wr
            have him := digits_any (p.extract 8 16) (by simp; omega) wr
            unfold rn.NAns at hre him
            rw [lo_list] at hre
            rw [hi_list p h16] at him
            have HA0 : Hid (okc p.data.toList = false → RAns s w (.returned (.tuple #[.slice none 0 0, .bool false])) wr) := fun h => .no (good_bad HN.out hpm.out h) hb.out
            have yes : Hid (okc p.data.toList = true → ∀ q ∈ ps.take (k + 1), okc q.data.toList = true) := fun h q hq => by
              rw [htk.out] at hq
              rcases List.mem_append.1 hq with hq | hq
              · exact hok.out q hq
              · rw [List.mem_singleton.1 hq]; exact h
            have hzz : Hid (((ps.take k).map fun p => cv2 p.data.toList) ++ [Value.complex .f32 (hval (p.data.toList.take 8)) (hval (p.data.toList.drop 8))] = ((ps.take (k + 1)).map fun p => cv2 p.data.toList)) := by show _ = _; rw [htk.out]; simp [cv2]
            clear hpm htk hok
            cases h1 : okn (p.data.toList.take 8) with
            | false =>
              have HA : Hid (RAns s w (.returned (.tuple #[.slice none 0 0, .bool false])) wr) := HA0.out (okc_re h1)
              rw [h1] at hre
              simp only [Bool.false_eq_true, if_false] at hre
              have HT : ∃ (b2 : Bool) (u : Nat), Hid ((.float .f32 u : Value) = if okn (p.data.toList.drop 8) = true then fv (p.data.toList.drop 8) else .float .f32 0) ∧ b2 = okn (p.data.toList.drop 8) := by
                cases h2 : okn (p.data.toList.drop 8) with
                | false => exact ⟨false, 0, rfl, rfl⟩
                | true => exact ⟨true, hval (p.data.toList.drop 8), rfl, rfl⟩
              obtain ⟨b2, u, hu, hb2⟩ := HT
              rw [← hu.out, ← hb2] at him
              clear h1 HA0 yes hzz hu hb2 ho
              go_wp2_with fail
              refine hre.mono ?_
              rintro e w2 ⟨rfl, hw2⟩
              rw [hw2]
              clear hw2 hre
              go_wp2_with fail
              refine him.mono ?_
              rintro e w2 ⟨rfl, hw2⟩
              rw [hw2]
              clear hw2 him
              go_wp2_with fail
              go_ret2
              exact HA.out
            | true =>
              rw [h1] at hre
              simp only [if_true] at hre
              unfold fv at hre
              cases h2 : okn (p.data.toList.drop 8) with
              | false =>
                have HA : Hid (RAns s w (.returned (.tuple #[.slice none 0 0, .bool false])) wr) := HA0.out (okc_im h2)
                rw [h2] at him
                simp only [Bool.false_eq_true, if_false] at him
                clear h1 h2 HA0 yes hzz ho
                go_wp2_with fail
                refine hre.mono ?_
                rintro e w2 ⟨rfl, hw2⟩
                rw [hw2]
                clear hw2 hre
                go_wp2_with fail
                refine him.mono ?_
                rintro e w2 ⟨rfl, hw2⟩
                rw [hw2]
                clear hw2 him
                go_wp2_with fail
                go_ret2
                exact HA.out
              | true =>
                rw [h2] at him
                simp only [if_true] at him
                unfold fv at him
                have HOK : Hid (∀ q ∈ ps.take (k + 1), okc q.data.toList = true) := yes.out (okc_yes hp16.out h1 h2)
                clear h1 h2 HA0 yes
                generalize hval (p.data.toList.take 8) = A at *
                generalize hval (p.data.toList.drop 8) = B at *
                have hS : w.heap.size ≤ g ∧ g < wr.heap.size := ⟨by rcases ho.out.2 with ⟨h', _⟩ | ⟨g', cap', cur, h', hB, _⟩ <;> simp at h' <;> omega, ils.own_lt ho.out⟩
                have HS : Hid (w.heap.size ≤ wr.heap.size) := by show _ ≤ _; omega
                have HG : Hid (w.heap.size ≤ g) := hS.1
                clear hS
                go_wp2_with fail
                refine hre.mono ?_
                rintro e w2 ⟨rfl, hw2⟩
                rw [hw2]
                clear hw2 hre
                go_wp2_with fail
                refine him.mono ?_
                rintro e w2 ⟨rfl, hw2⟩
                rw [hw2]
                clear hw2 him
                go_wp2_with (first | (at_builtin; refine wpList_append_own _ rfl (.tmp 56) (.tmp 60) 45 rfl w.heap.size 42 i0 (.complex .f32 0 0) 1 8 Tryd.underlying45 hi hz0 hz1 hz2 rfl (by decide) _ k _ rfl (ho.out.alloc _) ⟨wr.heap.size, 0, none⟩ 1 1 [_] rfl rfl (one_cplx wr _) (by intro u hu; rw [List.mem_singleton] at hu; subst hu; rfl) (by unfold maxLen; omega) (by omega) (by have := HS.out; simp; omega) ?_; intro v' w3 hown' hgrow _))
                obtain ⟨g', cap', rfl⟩ := own_shape hown' (by omega)
                rw [hzz.out] at hown'
                have HO5 : Hid (w3.ownsRow w.heap.size 42 1 (.slice (some ⟨g', 0, none⟩) (k + 1) cap') (k + 1) ((ps.take (k + 1)).map fun p => cv2 p.data.toList)) := hown'
                have HG5 : Hid (w3.heap[g1]? = some (.cells cs1 9 fz1)) := by show _ = _; rw [other ho.out hg1.out (by decide) hgrow]; exact hg1.out
                have HB5 : Hid (Below w.heap.size w w3) := (hb.out.alloc HS.out _).grown hgrow (by have := HS.out; simp; omega) (by intro j hj; have hj' : some g = some j := hj; injection hj' with hj'; have := HG.out; omega)
                clear hown' hgrow ho hb hg1
                go_roundw
                case rel => exact ⟨k + 1, g', cap', by omega, rfl, by go_num, HO5, HOK, HG5, HB5⟩
                case measure => simp [RowKit.intOf]; omega
          · have HA : Hid (RAns s w (.returned (.tuple #[.slice none 0 0, .bool false])) wr) := .no (good_bad HN.out hpm.out (okc_len (by simpa using h16))) hb.out
            have h16' : ((p.size : Int) == 16) = false := by rw [beq_eq_false_iff_ne]; omega
            go_wp2_with fail
            go_ret2
            exact HA.out
        · obtain rfl : k = ps.length := by omega
          have hall : ∀ p ∈ cutA [] s.data.toList, okc p = true := fun p hp => by
            rw [← HPS.out] at hp
            obtain ⟨q, hq, rfl⟩ := List.mem_map.1 hp
            exact hok.out q (by rw [List.take_length]; exact hq)
          have h64'' : (cutA [] s.data.toList).length ≤ 256 := by have := hpl.out; omega
          have HA : Hid (RAns s w (.returned (.tuple #[.slice (some ⟨g, 0, none⟩) ps.length cap, .bool true])) wr) := by
            refine ⟨_, by unfold GOOD; rw [good_all h64'' hall], ?_, hb.out⟩
            unfold LST
            rw [lst_all HN.out h64'' hall, ← HPS.out, List.map_map, List.length_map]
            have := ho.out
            rw [List.take_length] at this
            exact this
          clear hall h64'' ho hok hb hg1 hi hz0 hz1 hz2
          go_wp2_with fail
          go_ret2
          exact HA.out
end Go.Proofs.YtnodnopolhdfhaaDoor.rc
