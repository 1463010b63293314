/- CountOutputs: what the program answers, and the law's walk. -/
import Derived.Test.YtdeoemeibbkdoaaDoorCtF
import Derived.Test.YtdeoemeibbkdoaaDoorLnS
namespace Go.Proofs.YtdeoemeibbkdoaaDoor.ct
open Go.RowKit Go.Lib Go.Ln Go.Ct Go.Proofs.YtdeoemeibbkdoaaDoor.lno Go.Proofs.YtdeoemeibbkdoaaDoor.ln Go.Proofs.YtdeoemeibbkdoaaDoor.lns

set_option maxRecDepth 100000 in
set_option maxHeartbeats 1600000 in
/-- the program's lines of a text -/
theorem linesOf_any (s : ByteArray) (hs : s.size ≤ 1048576) (w : World) (hm : MaxOk w) :
    Calls Tryd.prog 41 #[.string s] w fun e w' => Below w.heap.size w w' ∧
      ((ok s.data.toList = false ∧ ∃ v, e = .returned (.tuple #[v, .bool false])) ∨
       (ok s.data.toList = true ∧ ∃ (g n : Nat) (ps : List ByteArray), e = .returned (.tuple #[.slice (some ⟨g, 0, none⟩) n (n + 1), .bool true]) ∧ ps.map (·.data.toList) = cutA [] s.data.toList ∧ ps.length = n + 1 ∧ n ≤ 16000 ∧ g < w'.heap.size ∧ ∀ k p, ps[k]? = some p → w'.cell? ⟨g, k, none⟩ = some (.string p))) := by
  have hl := split_any s hs w hm
  have hsz : s.data.toList.length = s.size := by simp
  by_cases hbig : 16000 < s.size
  · have hk : ok s.data.toList = false := by unfold ok; rw [decide_eq_false (by omega)]; rfl
    have HK : Hid (ok s.data.toList = false) := hk
    clear hl hk hsz
    go_enter Tryd.func41, Tryd.ntmps41
    go_wp2
    go_ret2
    exact ⟨Below.refl _ _, .inl ⟨HK.out, _, rfl⟩⟩
  · go_enter Tryd.func41, Tryd.ntmps41
    go_wp2_with fail
    refine hl.mono ?_
    rintro e w1 ⟨ps, g, rfl, hps, hg, hcell, hb⟩
    have hn1 : (cutA [] s.data.toList).length = ps.length := by rw [← hps, List.length_map]
    have hsz1 : ps.length ≤ 16001 := by
      rw [← hn1, cut_length]
      have h2 : s.data.toList.count 10 ≤ s.data.toList.length := List.count_le_length
      omega
    have h1 : 1 ≤ ps.length := by rw [← hn1, cut_length]; omega
    obtain ⟨n, hn⟩ : ∃ n, ps.length = n + 1 := ⟨ps.length - 1, by omega⟩
    obtain ⟨p, hp⟩ : ∃ p, ps[n]? = some p := ⟨ps[n]'(by omega), List.getElem?_eq_getElem (by omega)⟩
    have hlast := hcell n p hp
    have hpe : Hid ((cutA [] s.data.toList).getLast? = some p.data.toList) := by
      show _ = _
      rw [← hps, List.getLast?_eq_getElem?, List.length_map, List.getElem?_map, show ps.length - 1 = n by omega, hp]; rfl
    rw [hn]
    have e1 : ((n + 1 : Nat) : Int) - 1 = n := by omega
    have e2 : ((n : Int) + 1) - 1 = n := by omega
    have q1 : IntKind.i64.wrap (n : Int) = n := IntWalk.i64_in _ (by omega)
    have q2 : wrap64 (n : Int) = n := IntWalk.wrap64_in _ (by omega)
    have q3 : (0 : Int) ≤ n := by omega
    have q5 : (n : Int) < (n : Int) + 1 := by omega
    have q6 : (n : Int) < ((n + 1 : Nat) : Int) := by omega
    have q7 : n ≤ n + 1 := by omega
    have HB : Hid (Below w.heap.size w w1) := hb
    have HC : Hid (∀ k p, ps[k]? = some p → w1.cell? ⟨g, k, none⟩ = some (.string p)) := hcell
    have HG : Hid (g < w1.heap.size) := hg
    have HPS : Hid (ps.map (·.data.toList) = cutA [] s.data.toList) := hps
    have HNL : Hid (ps.length = n + 1) := hn
    have HN16 : Hid (n ≤ 16000) := by show _ ≤ _; omega
    by_cases he : p.data.toList = []
    · have htl : (p.toList == []) = true := by rw [ByteArray.toList_eq, he]; rfl
      have HK : Hid (ok s.data.toList = true) := by show _ = _; unfold ok; rw [decide_eq_true (by omega), hpe.out, he]; rfl
      clear hl hb hcell hg hps hpe hp h1 hn1 hsz1 hn hbig hsz he
      go_wp2_with fail
      go_ret2
      exact ⟨HB.out, .inr ⟨HK.out, g, n, ps, rfl, HPS.out, HNL.out, HN16.out, HG.out, HC.out⟩⟩
    · have htl : (p.toList == []) = false := by rw [ByteArray.toList_eq, beq_eq_false_iff_ne]; exact he
      have hne : ¬ ((cutA [] s.data.toList).getLast? = some []) := by rw [hpe.out]; intro h; exact he (Option.some.inj h)
      have HK : Hid (ok s.data.toList = false) := by show _ = _; unfold ok; rw [decide_eq_false hne]; simp
      clear hl hb hcell hg hps hpe hp h1 hn1 hsz1 hn hbig hsz he hne
      go_wp2_with fail
      go_ret2
      exact ⟨HB.out, .inl ⟨HK.out, _, rfl⟩⟩

set_option maxRecDepth 100000 in
set_option maxHeartbeats 1600000 in
theorem impl_any (s : ByteArray) (hs : s.size ≤ 1048576) (w : World) (hm : MaxOk w) :
    Calls Tryd.prog 18 #[.string s] w fun e w' => e = .returned (.tuple #[.int .i64 (bad s.data.toList), .int .i64 (oth s.data.toList), .bool (ok s.data.toList)]) ∧ Below w.heap.size w w' := by
  have hl := linesOf_any s hs w hm
  go_enter Tryd.func18, Tryd.ntmps18
  go_wp2_with fail
  refine hl.mono ?_
  rintro e w1 ⟨hb, ⟨hk, v, rfl⟩ | ⟨hk, g, n, ps, rfl, hps, hn, hn16, hg, hcell⟩⟩
  · have hA : Hid (bad s.data.toList = 0 ∧ oth s.data.toList = 0) := by unfold bad oth; rw [hk]; exact ⟨rfl, rfl⟩
    have HK : Hid (ok s.data.toList = false) := hk
    have HB : Hid (Below w.heap.size w w1) := hb
    clear hl hk hb hm hs
    go_wp2_with fail
    go_ret3
    exact ⟨by rw [hA.out.1, hA.out.2, HK.out]; rfl, HB.out⟩
  · have hn1 : (cutA [] s.data.toList).length = n + 1 := by rw [← hps, List.length_map, hn]
    have hA : Hid (bad s.data.toList = cnt ((cutA [] s.data.toList).take n) ∧ oth s.data.toList = (n : Int) - cnt ((cutA [] s.data.toList).take n)) := by
      unfold bad oth
      rw [hk, if_pos rfl, if_pos rfl, List.dropLast_eq_take, hn1]
      exact ⟨rfl, by rw [Nat.add_sub_cancel]; omega⟩
    have HK : Hid (ok s.data.toList = true) := hk
    have HB : Hid (Below w.heap.size w w1) := hb
    have HC : Hid (∀ k p, ps[k]? = some p → w1.cell? ⟨g, k, none⟩ = some (.string p)) := hcell
    have HG : Hid (g < w1.heap.size) := hg
    have HPS : Hid (ps.map (·.data.toList) = cutA [] s.data.toList) := hps
    have HNL : Hid (ps.length = n + 1) := hn
    have hB1 : Hid (Below w1.heap.size w1 w1) := Below.refl _ _
    clear hl hk hb hcell hg hps hn1 hn hm hs
    generalize hL : cutA [] s.data.toList = L at *
    clear hL
    go_wp2_with fail
    go_loopw [7, 19] (fun b i wr => ∃ k : Nat, k ≤ n ∧ b = .int .i64 (cnt (L.take k)) ∧ i = .int .i64 k ∧ Hid (Below w1.heap.size w1 wr)) (fun _ i _ => n - (RowKit.intOf i).toNat)
    case atStart => exact ⟨0, by omega, by simp [cnt], rfl, hB1⟩
    case round =>
      obtain ⟨k, hk, rfl, rfl, hb⟩ := hrel
      clear hB1
      by_cases hlt : k < n
      · obtain ⟨q, hq⟩ : ∃ q, ps[k]? = some q := ⟨ps[k]'(by have := HNL.out; omega), List.getElem?_eq_getElem (by have := HNL.out; omega)⟩
        have hcell : wr.cell? ⟨g, k, none⟩ = some (.string q) := (hb.out.cell (p := ⟨g, k, none⟩) HG.out).trans (HC.out k q hq)
        have hLq : L[k]? = some q.data.toList := by rw [← HPS.out, List.getElem?_map, hq]; rfl
        have hst := cnt_take hLq
        have hc1 : cnt (L.take k) ≤ k := Nat.le_trans (cnt_le _) (by simp; omega)
        generalize cnt (L.take k) = c at *
        have q1 : IntKind.i64.wrap ((c : Int) + 1) = (c : Int) + 1 := IntWalk.i64_in _ (by omega)
        have q2 : wrap64 ((c : Int) + 1) = (c : Int) + 1 := IntWalk.wrap64_in _ (by omega)
        by_cases h1 : q.data.toList = [110, 111]
        · have t1 := isB_no h1
          have hB : isB q.data.toList = true := by rw [h1]; rfl
          rw [hB] at hst
          clear hq hLq hB h1
          go_wp2_with fail
          go_roundw
          case rel => exact ⟨k + 1, by omega, by rw [hst]; go_num, by go_num, hb⟩
          case measure => simp [RowKit.intOf]; omega
        · have t1 := isB_no' h1
          by_cases h2 : q.data.toList = [119, 104, 97, 116]
          · have t2 := isB_wh h2
            have hB : isB q.data.toList = true := by rw [h2]; rfl
            rw [hB] at hst
            clear hq hLq hB h1 h2
            go_wp2_with fail
            go_roundw
            case rel => exact ⟨k + 1, by omega, by rw [hst]; go_num, by go_num, hb⟩
            case measure => simp [RowKit.intOf]; omega
          · have t2 := isB_wh' h2
            have hB : isB q.data.toList = false := by unfold isB; rw [decide_eq_false h1, decide_eq_false h2]; rfl
            rw [hB] at hst
            clear hq hLq hB h1 h2
            go_wp2_with fail
            go_roundw
            case rel => exact ⟨k + 1, by omega, by rw [hst]; go_num, by go_num, hb⟩
            case measure => simp [RowKit.intOf]; omega
      · obtain rfl : k = n := by omega
        have hc1 : cnt (L.take k) ≤ k := Nat.le_trans (cnt_le _) (by simp; omega)
        have HB2 : Hid (Below w.heap.size w wr) := HB.out.trans (hb.out.mono HB.out.size)
        clear hb
        generalize cnt (L.take k) = c at *
        have q1 : IntKind.i64.wrap ((k : Int) - c) = (k : Int) - c := IntWalk.i64_in _ (by omega)
        have q2 : wrap64 ((k : Int) - c) = (k : Int) - c := IntWalk.wrap64_in _ (by omega)
        go_wp2_with fail
        go_ret3
        exact ⟨by rw [hA.out.1, hA.out.2, HK.out]; rfl, HB2.out⟩
end Go.Proofs.YtdeoemeibbkdoaaDoor.ct
namespace Go.Proofs.YtdeoemeibbkdoaaDoor.fnExactCountOutputsW
open Go.RowKit Go.Lib Go.Ln Go.Ct Go.Proofs.YtdeoemeibbkdoaaDoor.lns

set_option maxHeartbeats 800000 in
theorem walk (s : ByteArray) (hm : s.size ≤ maxLen) (w : World) (hx : MaxOk w) :
    Calls Tryd.prog 5 #[.string s] w fun e w' => e = .returned (.bool true) ∧ Below w.heap.size w w' := by
  unfold maxLen at hm
  by_cases hs : s.size ≤ 1048576
  · have hS := ct.spec_any s hs w
    have HI : Hid (∀ w, MaxOk w → Calls Tryd.prog 18 #[.string s] w fun e w' => e = .returned (.tuple #[.int .i64 (bad s.data.toList), .int .i64 (oth s.data.toList), .bool (ok s.data.toList)]) ∧ Below w.heap.size w w') := fun w a => ct.impl_any s hs w a
    have HX : Hid (MaxOk w) := hx
    clear hx
    generalize bad s.data.toList = x at *
    generalize oth s.data.toList = y at *
    generalize ok s.data.toList = z at *
    go_enter Tryd.func5, Tryd.ntmps5
    go_wp2_with fail
    refine hS.mono ?_
    rintro e w1 ⟨rfl, b1⟩
    have B1 : Hid (Below w.heap.size w w1) := b1
    have hi := HI.out w1 (max_below HX.out b1)
    clear b1 hS
    go_wp2_with fail
    refine hi.mono ?_
    rintro e w2 ⟨rfl, b2⟩
    have B2 : Hid (Below w.heap.size w w2) := B1.out.trans (b2.mono B1.out.size)
    clear b2 hi HI HX B1
    go_wp2_with fail
    go_ret
    exact ⟨rfl, B2.out⟩
  · have hgt : 1048576 < s.size := by omega
    clear hs hx
    go_enter Tryd.func5, Tryd.ntmps5
    go_wp2_with fail
    go_ret
    exact ⟨rfl, Below.refl _ _⟩
end Go.Proofs.YtdeoemeibbkdoaaDoor.fnExactCountOutputsW
