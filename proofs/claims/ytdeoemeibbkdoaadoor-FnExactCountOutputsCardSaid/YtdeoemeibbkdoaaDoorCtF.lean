/- CountOutputs: what both sides answer. -/
import Derived.Test.YtdeoemeibbkdoaaDoorLnC
import Derived.Test.YtdeoemeibbkdoaaDoorPost
namespace Go.Ct
open Go.Lib Go.Ln
/-- is the line no or what -/
def isB (p : List UInt8) : Bool := decide (p = [110, 111]) || decide (p = [119, 104, 97, 116])
def cnt (ps : List (List UInt8)) : Nat := ps.countP isB
theorem cnt_le (ps : List (List UInt8)) : cnt ps ≤ ps.length := List.countP_le_length
theorem cnt_snoc (ps : List (List UInt8)) (p : List UInt8) : cnt (ps ++ [p]) = cnt ps + if isB p then 1 else 0 := by
  unfold cnt
  rw [List.countP_append, List.countP_singleton]
theorem isB_no {p : ByteArray} (h : p.data.toList = [110, 111]) : (p.toList == [110, 111]) = true := by rw [ByteArray.toList_eq, h]; rfl
theorem isB_no' {p : ByteArray} (h : p.data.toList ≠ [110, 111]) : (p.toList == [110, 111]) = false := by rw [ByteArray.toList_eq, beq_eq_false_iff_ne]; exact h
theorem isB_wh {p : ByteArray} (h : p.data.toList = [119, 104, 97, 116]) : (p.toList == [119, 104, 97, 116]) = true := by rw [ByteArray.toList_eq, h]; rfl
theorem isB_wh' {p : ByteArray} (h : p.data.toList ≠ [119, 104, 97, 116]) : (p.toList == [119, 104, 97, 116]) = false := by rw [ByteArray.toList_eq, beq_eq_false_iff_ne]; exact h
theorem cnt_take {ps : List (List UInt8)} {k : Nat} {p : List UInt8} (h : ps[k]? = some p) : cnt (ps.take (k + 1)) = cnt (ps.take k) + if isB p then 1 else 0 := by
  rw [List.take_add_one, h]
  exact cnt_snoc _ _
/-- is it a text of lines -/
def ok (s : List UInt8) : Bool := decide (s.length ≤ 16000) && decide ((cutA [] s).getLast? = some [])
def bad (s : List UInt8) : Int := if ok s then cnt (cutA [] s).dropLast else 0
def oth (s : List UInt8) : Int := if ok s then ((cutA [] s).length - 1 : Int) - cnt (cutA [] s).dropLast else 0
end Go.Ct
namespace Go.Proofs.YtdeoemeibbkdoaaDoor.ct
open Go.RowKit Go.Lib Go.Ln Go.Ct Go.Proofs.YtdeoemeibbkdoaaDoor.lno Go.Proofs.YtdeoemeibbkdoaaDoor.ln

set_option maxRecDepth 100000 in
set_option maxHeartbeats 1600000 in
theorem lines_any (s : ByteArray) (hs : s.size ≤ 1048576) (w : World) :
    Calls Tryd.prog 40 #[.string s] w fun e w' => ∃ (g cap : Nat) (ps : List ByteArray) (p : ByteArray), e = .returned (.tuple #[.slice (some ⟨g, 0, none⟩) (ps.length - 1) cap, .string p]) ∧ ps.map (·.data.toList) = cutA [] s.data.toList ∧ ps[ps.length - 1]? = some p ∧ 1 ≤ ps.length ∧ ps.length - 1 ≤ cap ∧ Strs w' (.slice (some ⟨g, 0, none⟩) ps.length cap) ps ∧ Below w.heap.size w w' := by
  have hc := cut_any s hs w
  go_enter Tryd.func40, Tryd.ntmps40
  go_wp2_with fail
  refine hc.mono ?_
  rintro e w1 ⟨v, ps, rfl, hps, hst, hb⟩
  have H : Hid (ps.map (·.data.toList) = cutA [] s.data.toList) := hps
  have HS : Hid (Strs w1 v ps) := hst
  have HB : Hid (Below w.heap.size w w1) := hb
  obtain ⟨g, cap, cs, fz, rfl, hg, hcap, hcell⟩ := hst
  have h1 : 1 ≤ ps.length := by
    have := congrArg List.length hps
    rw [List.length_map, cut_length] at this
    omega
  have hsz : ps.length ≤ 1048577 := by
    have := congrArg List.length hps
    rw [List.length_map, cut_length] at this
    have h2 : s.data.toList.count 10 ≤ s.data.toList.length := List.count_le_length
    have h3 : s.data.toList.length = s.size := by simp
    omega
  obtain ⟨n, hn⟩ : ∃ n, ps.length = n + 1 := ⟨ps.length - 1, by omega⟩
  obtain ⟨p, hp⟩ : ∃ p, ps[n]? = some p := ⟨ps[n]'(by omega), List.getElem?_eq_getElem (by omega)⟩
  have hlast := hcell n p hp
  have HP : Hid (ps[ps.length - 1]? = some p) := by show _ = _; rw [hn]; exact hp
  have HN : Hid (ps.length = n + 1) := hn
  rw [hn]
  rw [hn] at HS
  have e1 : ((n + 1 : Nat) : Int) - 1 = n := by omega
  have e2 : ((n : Int) + 1) - 1 = n := by omega
  have q1 : IntKind.i64.wrap (n : Int) = n := IntWalk.i64_in _ (by omega)
  have q2 : wrap64 (n : Int) = n := IntWalk.wrap64_in _ (by omega)
  have q3 : (0 : Int) ≤ n := by omega
  have q4 : (n : Int) ≤ cap := by omega
  have q5 : (n : Int) < (n : Int) + 1 := by omega
  have q6 : (n : Int) < ((n + 1 : Nat) : Int) := by omega
  have q7 : n ≤ cap := by omega
  clear hps hb hc hn h1 hcell hg hp hsz
  go_wp2
  go_region
  go_wp2
  go_ret2
  refine ⟨g, cap, ps, p, ?_, H.out, HP.out, by have := HN.out; omega, by have := HN.out; omega, ?_, Go.Pst.below_drewN HB.out 1⟩
  · rw [HN.out]; rfl
  · rw [HN.out]; exact HS.out
set_option maxRecDepth 100000 in
set_option maxHeartbeats 1600000 in
theorem spec_any (s : ByteArray) (hs : s.size ≤ 1048576) (w : World) :
    Calls Tryd.prog 17 #[.string s] w fun e w' => e = .returned (.tuple #[.int .i64 (bad s.data.toList), .int .i64 (oth s.data.toList), .bool (ok s.data.toList)]) ∧ Below w.heap.size w w' := by
  have hl := lines_any s hs w
  have hsz : s.data.toList.length = s.size := by simp
  by_cases hbig : 16000 < s.size
  · have hk : ok s.data.toList = false := by unfold ok; rw [decide_eq_false (by omega)]; rfl
    have hA : Hid (bad s.data.toList = 0 ∧ oth s.data.toList = 0) := by unfold bad oth; rw [hk]; exact ⟨rfl, rfl⟩
    rw [hA.out.1, hA.out.2, hk]
    clear hl hA hk hsz
    go_enter Tryd.func17, Tryd.ntmps17
    go_wp2
    go_ret3
    exact ⟨rfl, Below.refl _ _⟩
  · go_enter Tryd.func17, Tryd.ntmps17
    go_wp2_with fail
    refine hl.mono ?_
    rintro e w1 ⟨g, cap, ps, p, rfl, hps, hp, h1, hcap, hst, hb⟩
    have hpe : Hid ((cutA [] s.data.toList).getLast? = some p.data.toList) := by
      show _ = _
      rw [← hps, List.getLast?_eq_getElem?, List.length_map, List.getElem?_map, hp]; rfl
    have hn1 : (cutA [] s.data.toList).length = ps.length := by rw [← hps, List.length_map]
    have hsz1 : ps.length ≤ 16001 := by
      rw [← hn1, cut_length]
      have h2 : s.data.toList.count 10 ≤ s.data.toList.length := List.count_le_length
      omega
    by_cases he : p.data.toList = []
    · have htl : (p.toList == []) = true := by rw [ByteArray.toList_eq, he]; rfl
      have hk : ok s.data.toList = true := by unfold ok; rw [decide_eq_true (by omega), hpe.out, he]; rfl
      obtain ⟨n, hn⟩ : ∃ n, ps.length = n + 1 := ⟨ps.length - 1, by omega⟩
      have hA : Hid (bad s.data.toList = cnt ((cutA [] s.data.toList).take n) ∧ oth s.data.toList = (n : Int) - cnt ((cutA [] s.data.toList).take n)) := by
        unfold bad oth
        rw [hk, if_pos rfl, if_pos rfl, List.dropLast_eq_take, hn1, hn]
        exact ⟨rfl, by rw [Nat.add_sub_cancel]; omega⟩
      have HK : Hid (ok s.data.toList = true) := hk
      have hen : ps.length - 1 = n := by omega
      rw [hen]
      rw [hen] at hcap
      have HB : Hid (Below w.heap.size w w1) := hb
      obtain ⟨g', cap', cs, fz, hv, hg, _, hcell⟩ := hst
      simp only [Value.slice.injEq, Option.some.injEq, Addr.mk.injEq, and_true] at hv
      obtain ⟨rfl, _, rfl⟩ := hv
      have HC : Hid (∀ k p, ps[k]? = some p → w1.cell? ⟨g, k, none⟩ = some (.string p)) := hcell
      have HG : Hid (g < w1.heap.size) := (Array.getElem?_eq_some_iff.1 hg).1
      have HPS : Hid (ps.map (·.data.toList) = cutA [] s.data.toList) := hps
      have hn16 : n ≤ 16000 := by omega
      have HNL : Hid (ps.length = n + 1) := hn
      have hB1 : Hid (Below w1.heap.size w1 w1) := Below.refl _ _
      clear hl hk hb hcell hg hps hpe hp h1 hn1 hsz1 hn hen hbig hsz
      generalize hL : cutA [] s.data.toList = L at *
      clear hL
      go_wp2_with fail
      go_loopw [7, 8] (fun b i wr => ∃ k : Nat, k ≤ n ∧ b = .int .i64 (cnt (L.take k)) ∧ i = .int .i64 k ∧ Hid (Below w1.heap.size w1 wr)) (fun _ i _ => n - (RowKit.intOf i).toNat)
      case atStart => exact ⟨0, by omega, by simp [cnt], rfl, hB1⟩
      case round =>
        obtain ⟨k, hk, rfl, rfl, hb⟩ := hrel
        clear hB1
        by_cases hlt : k < n
        · obtain ⟨q, hq⟩ : ∃ q, ps[k]? = some q := ⟨ps[k]'(by have := HNL.out; omega), List.getElem?_eq_getElem (by have := HNL.out; omega)⟩
          have hcell : wr.cell? ⟨g, k, none⟩ = some (.string q) := (hb.out.cell (p := ⟨g, k, none⟩) HG.out).trans (HC.out k q hq)
          have hLq : L[k]? = some q.data.toList := by rw [← HPS.out, List.getElem?_map, hq]; rfl
          have hst := cnt_take hLq
          have hc1 : cnt (L.take k) ≤ k := Nat.le_trans (cnt_le _) (by simp; omega)
          generalize cnt (L.take k) = c at *
          have q1 : IntKind.i64.wrap ((c : Int) + 1) = (c : Int) + 1 := IntWalk.i64_in _ (by omega)
          have q2 : wrap64 ((c : Int) + 1) = (c : Int) + 1 := IntWalk.wrap64_in _ (by omega)
          by_cases h1 : q.data.toList = [110, 111]
          · have t1 := isB_no h1
            have hB : isB q.data.toList = true := by rw [h1]; rfl
            rw [hB] at hst
            clear hq hLq hB h1
            go_wp2_with fail
            go_roundw
            case rel => exact ⟨k + 1, by omega, by rw [hst]; go_num, by go_num, hb⟩
            case measure => simp [RowKit.intOf]; omega
          · have t1 := isB_no' h1
            by_cases h2 : q.data.toList = [119, 104, 97, 116]
            · have t2 := isB_wh h2
              have hB : isB q.data.toList = true := by rw [h2]; rfl
              rw [hB] at hst
              clear hq hLq hB h1 h2
              go_wp2_with fail
              go_roundw
              case rel => exact ⟨k + 1, by omega, by rw [hst]; go_num, by go_num, hb⟩
              case measure => simp [RowKit.intOf]; omega
            · have t2 := isB_wh' h2
              have hB : isB q.data.toList = false := by unfold isB; rw [decide_eq_false h1, decide_eq_false h2]; rfl
              rw [hB] at hst
              clear hq hLq hB h1 h2
              go_wp2_with fail
              go_roundw
              case rel => exact ⟨k + 1, by omega, by rw [hst]; go_num, by go_num, hb⟩
              case measure => simp [RowKit.intOf]; omega
        · obtain rfl : k = n := by omega
          have hc1 : cnt (L.take k) ≤ k := Nat.le_trans (cnt_le _) (by simp; omega)
          have HB2 : Hid (Below w.heap.size w wr) := HB.out.trans (hb.out.mono HB.out.size)
          clear hb
          generalize cnt (L.take k) = c at *
          have q1 : IntKind.i64.wrap ((k : Int) - c) = (k : Int) - c := IntWalk.i64_in _ (by omega)
          have q2 : wrap64 ((k : Int) - c) = (k : Int) - c := IntWalk.wrap64_in _ (by omega)
          go_wp2_with fail
          go_ret3
          exact ⟨by rw [hA.out.1, hA.out.2, HK.out]; rfl, HB2.out⟩
    · have htl : (p.toList == []) = false := by rw [ByteArray.toList_eq, beq_eq_false_iff_ne]; exact he
      have hne : ¬ ((cutA [] s.data.toList).getLast? = some []) := by rw [hpe.out]; intro h; exact he (Option.some.inj h)
      have hk : ok s.data.toList = false := by unfold ok; rw [decide_eq_false hne]; simp
      have hA : Hid (bad s.data.toList = 0 ∧ oth s.data.toList = 0) := by unfold bad oth; rw [hk]; exact ⟨rfl, rfl⟩
      have HK : Hid (ok s.data.toList = false) := hk
      have HB : Hid (Below w.heap.size w w1) := hb
      clear hl hk hb hst hps hpe hp hn1 hsz1 hbig hsz
      go_wp2_with fail
      go_ret3
      exact ⟨by rw [hA.out.1, hA.out.2, HK.out]; rfl, HB.out⟩
end Go.Proofs.YtdeoemeibbkdoaaDoor.ct
