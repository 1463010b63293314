/- The model's reading of a list of 32-bit numbers. -/
import Derived.Test.YtnodnopolhdfhaaDoorRlC
import Derived.Test.YtnodnopolhdfhaaDoorRgP
import Derived.Test.YtnodnopolhdfhaaDoorBitsW
import Derived.Test.YtnodnopolhdfhaaDoorRlW
import Derived.Deep.LoopGhost
import Derived.Outline
namespace Go.Proofs.YtnodnopolhdfhaaDoor.rn
open Go.RowKit Go.Lib Go.Fl Go.Rl Go.Rg Go.Proofs.YtnodnopolhdfhaaDoor.dec Go.Proofs.YtnodnopolhdfhaaDoor.own Go.Proofs.YtnodnopolhdfhaaDoor.bits
open Go.Proofs.YtnodnopolhdfhaaDoor.rl (Strs own_obj cut_any tl_none tl_other other)

/-- a number by its bits -/
def fv (l : List UInt8) : Value := .float .f32 (hval l)
def GOOD (s : List UInt8) : Bool := good okn 256 s
def LST (s : List UInt8) : List Value := lst okn 256 fv s
/-- an ending that answers so, its list in memory of its own -/
def RAns (s : ByteArray) (w : World) (e : Ending) (w' : World) : Prop :=
  ∃ v, e = .returned (.tuple #[v, .bool (GOOD s.data.toList)]) ∧ w'.ownsRow w.heap.size 24 1 v (LST s.data.toList).length (LST s.data.toList) ∧ Below w.heap.size w w'
theorem RAns.no {s : ByteArray} {w w' : World} (h : GOOD s.data.toList = false) (hb : Below w.heap.size w w') : RAns s w (.returned (.tuple #[.slice none 0 0, .bool false])) w' :=
  ⟨_, by rw [h], by unfold LST lst; unfold GOOD at h; rw [h]; exact ⟨rfl, .inl ⟨rfl, rfl⟩⟩, hb⟩

theorem info_f : (Tryd.prog.info? 24).map (fun i => (i.zero, i.size, i.bytes)) = some (some (.float .f32 0), 1, 4) := by kernel_rfl
theorem one_float (w : World) (u : Value) : ∀ j v, [u][j]? = some v → (w.alloc (.cells #[u] 24)).cell? ((⟨w.heap.size, 0, none⟩ : Addr).add j) = some v := by
  have ho : (w.alloc (.cells #[u] 24)).ownsRow w.heap.size 24 1 (.slice (some ⟨w.heap.size, 0, none⟩) 1 1) 1 [u] :=
    ⟨rfl, .inr ⟨w.heap.size, 1, #[u], rfl, Nat.le_refl _, heap_alloc_new w _, by omega, by decide, rfl, rfl⟩⟩
  intro j v hj
  have hl : j < 1 := by
    have := (List.getElem?_eq_some_iff.1 hj).1
    simpa using this
  rw [Addr.add_lit, Nat.zero_add, ho.cellAt j (by omega)]
  exact hj
theorem can_bits (b : Nat) : bitsOf b = (can b : Int) := by
  unfold bitsOf can
  split <;> rfl
theorem call_from (b : Nat) (w : World) : (callFunc 59 #[.int .u32 (b : Int)]).run Tryd.prog w = .ok (.value (.float .f32 b)) w := by
  rw [run_callFunc_extern Tryd.func59 (by kernel_rfl) (by kernel_rfl) (by kernel_rfl) (e := Extern.MathFloatBits.float32frombits) (by kernel_rfl)]
  rfl
theorem from_any (b : Nat) (hb : b ≤ 4294967295) (w : World) : Calls Tryd.prog 57 #[.int .i64 b] w fun e w' => e = .returned (.float .f32 b) ∧ w' = w := by
  have h := call_from b
  go_enter Tryd.func57, Tryd.ntmps57
  go_wp2
  go_ret
  exact ⟨rfl, rfl⟩

set_option maxRecDepth 100000 in
set_option maxHeartbeats 1600000 in
theorem spec_any (s : ByteArray) (hs : s.size ≤ 1048576) (w : World) :
    Calls Tryd.prog 94 #[.string s] w (RAns s w) := by
  obtain ⟨i0, hi, hz0, hz1, hz2⟩ := info_parts info_f
  have start : Hid ((w.alloc (.cells #[] 24)).ownsRow w.heap.size 24 1 (.slice (some ⟨w.heap.size, 0, none⟩) 0 0) 0 []) :=
    ⟨rfl, .inr ⟨w.heap.size, 0, #[], rfl, Nat.le_refl _, heap_alloc_new w _, by simp, by decide, rfl, rfl⟩⟩
  have startB : Hid (Below w.heap.size w (w.alloc (.cells #[] 24))) := (Below.refl _ _).alloc (Nat.le_refl _) _
  by_cases hno : s.data.toList = none_
  · have htl := tl_none hno
    have HA : Hid (RAns s w (.returned (.tuple #[.slice (some ⟨w.heap.size, 0, none⟩) 0 0, .bool true])) (w.alloc (.cells #[] 24))) := ⟨_, by unfold GOOD; rw [good_none hno], by unfold LST; rw [lst_none hno]; exact start.out, startB.out⟩
    clear hno start startB
    go_enter Tryd.func94, Tryd.ntmps94
    go_wp2
    go_ret2
    exact HA.out
  · have htl := tl_other hno
    have HN : Hid (s.data.toList ≠ none_) := hno
    clear hno
    go_enter Tryd.func94, Tryd.ntmps94
    go_wp2_with fail
    refine (cut_any s hs _).mono ?_
    rintro e w1 ⟨v1, ps, rfl, hps, ht, b1⟩
    obtain ⟨g1, cap1, cs1, fz1, rfl, hob1, hcell⟩ := ht
    have HPS : Hid (ps.map (·.data.toList) = cutA [] s.data.toList) := hps
    have hpl : Hid (ps.length = (cutA [] s.data.toList).length) := by show _ = _; rw [← hps, List.length_map]
    have HC : Hid (∀ k p, ps[k]? = some p → w1.cell? ⟨g1, k, none⟩ = some (.string p)) := hcell
    have HG1 : Hid (w1.heap[g1]? = some (.cells cs1 9 fz1)) := hob1
    have HO : Hid (w1.ownsRow w.heap.size 24 1 (.slice (some ⟨w.heap.size, 0, none⟩) 0 0) 0 []) := own_below start.out b1
    have HB1 : Hid (Below w.heap.size w w1) := startB.out.trans (b1.mono (by simp))
    have HW1 : Hid (w.heap.size < w1.heap.size) := ils.own_lt HO.out
    clear start startB hps hcell hob1 b1
    by_cases h64 : 256 < ps.length
    · have HA : Hid (RAns s w (.returned (.tuple #[.slice none 0 0, .bool false])) w1) := .no (good_many HN.out (by have := hpl.out; omega)) HB1.out
      clear hi hz0 hz1 hz2
      go_wp2_with fail
      go_ret2
      exact HA.out
    · have h64' : ps.length ≤ 256 := by omega
      clear h64
      go_wp2_with fail
      go_loopw [4, 6] (fun v q wr => ∃ (k g cap : Nat), k ≤ ps.length ∧ v = .slice (some ⟨g, 0, none⟩) k cap ∧ q = .int .i64 k ∧ Hid (wr.ownsRow w.heap.size 24 1 (.slice (some ⟨g, 0, none⟩) k cap) k ((ps.take k).map fun p => fv p.data.toList)) ∧ Hid (∀ p ∈ ps.take k, okn p.data.toList = true) ∧ Hid (wr.heap[g1]? = some (.cells cs1 9 fz1)) ∧ Hid (Below w.heap.size w wr)) (fun _ q _ => ps.length - (RowKit.intOf q).toNat)
      case atStart => exact ⟨0, _, _, by omega, rfl, rfl, HO, by show ∀ p ∈ _, _; simp, HG1, HB1⟩
      case round =>
        obtain ⟨k, g, cap, hk, rfl, rfl, ho, hok, hg1, hb⟩ := hrel
        by_cases hlt : k < ps.length
        · obtain ⟨p, hp⟩ : ∃ p, ps[k]? = some p := ⟨ps[k], List.getElem?_eq_getElem hlt⟩
          have e1 : wr.cell? ⟨g1, k, none⟩ = some (.string p) := (World.cell?_of_block (a := ⟨g1, k, none⟩) (by rw [hg1.out, HG1.out])).trans (HC.out k p hp)
          have hpm : Hid (p.data.toList ∈ cutA [] s.data.toList) := by show _ ∈ _; rw [← HPS.out]; exact List.mem_map.2 ⟨p, List.mem_of_getElem? hp, rfl⟩
          have htk : Hid (ps.take (k + 1) = ps.take k ++ [p]) := by show _ = _; rw [List.take_add_one, hp]; rfl
          clear hp
          by_cases h8 : p.size = 8
          · go_wp2_with fail
            have hp8 : Hid (p.data.toList.length = 8) := by show _ = _; simpa using h8
            go_loop [7, 8] (fun n j => ∃ (m : Nat), m ≤ 8 ∧ n = .int .i64 (hval (p.data.toList.take m)) ∧ j = .int .i64 m ∧ Hid (∀ c ∈ p.data.toList.take m, isd c = true)) (fun _ j => 8 - (RowKit.intOf j).toNat)
            case atStart => exact ⟨0, by omega, rfl, rfl, by show ∀ c ∈ _, _; simp⟩
            case round =>
              obtain ⟨m, hm, rfl, rfl, hd⟩ := hrel
              have hbd : Hid (hval (p.data.toList.take m) < 4294967296) := by
                have := hval_lt _ hd.out
                rw [List.length_take] at this
                have h16 : 16 ^ min m p.data.toList.length ≤ 16 ^ 8 := Nat.pow_le_pow_right (by decide) (by omega)
                show _ < _
                have e16 : (16 : Nat) ^ 8 = 4294967296 := by decide
                omega
              by_cases hlm : m < 8
              · have hms : m < p.size := by omega
                have hsn : Hid (p.data.toList.take (m + 1) = p.data.toList.take m ++ [p[m]]) := rd.take_snoc p m hms
                have hmem : Hid (p[m] ∈ p.data.toList) := by
                  have : p[m] = p.data.toList[m]'(by simpa using hms) := rfl
                  show _ ∈ _
                  rw [this]; exact List.getElem_mem _
                have next : Hid (∀ d : Nat, dv p[m].toNat = d → d < 16 → (Value.int .i64 (16 * (hval (p.data.toList.take m) : Int) + d) = .int .i64 (hval (p.data.toList.take (m + 1)))) ∧ ∀ c ∈ p.data.toList.take (m + 1), isd c = true) := fun d h1 h2 => by
                  rw [hsn.out, hval_snoc, h1]
                  refine ⟨by simp, fun c hc => ?_⟩
                  rcases List.mem_append.1 hc with hc | hc
                  · exact hd.out c hc
                  · rw [List.mem_singleton.1 hc]
                    exact decide_eq_true (by rw [h1]; exact h2)
                have bad : Hid (dv p[m].toNat = 16 → GOOD s.data.toList = false) := fun h => good_bad HN.out hpm.out (okn_dig hmem.out (decide_eq_false (by rw [h]; omega)))
                clear hsn hmem hd
                have HV : ∃ V : Nat, V = hval (p.data.toList.take m) := ⟨_, rfl⟩
                obtain ⟨V, hV⟩ := HV
                rw [← hV] at hbd next ⊢
                have hV2 := hbd.out
                clear hV hbd
                generalize hcc : p[m].toNat = c at *
                rcases kinds c with ⟨c0, c1⟩ | ⟨c0, c1⟩ | c0 | ⟨c0, c1⟩ | c0
                · have HD := next.out (c - 48) (dv_dig c0 c1) (by omega)
                  have e48 : Hid (((c - 48 : Nat) : Int) = (c : Int) - 48) := by show _ = _; omega
                  have HN1 : Hid (Value.int .i64 (16 * (V : Int) + ((c - 48 : Nat) : Int)) = .int .i64 (hval (p.data.toList.take (m + 1)))) := HD.1
                  have HN2 : Hid (∀ c ∈ p.data.toList.take (m + 1), isd c = true) := HD.2
                  clear HD next bad
                  go_wp2
                  go_round
                  case rel => exact ⟨m + 1, by omega, (congrArg (Value.int .i64) (by have := e48.out; omega)).trans HN1.out, by go_num, HN2⟩
                  case measure => simp [RowKit.intOf]; omega
                · have HD := next.out (c - 87) (dv_let c0 c1) (by omega)
                  have e48 : Hid (((c - 87 : Nat) : Int) = (c : Int) - 87) := by show _ = _; omega
                  have HN1 : Hid (Value.int .i64 (16 * (V : Int) + ((c - 87 : Nat) : Int)) = .int .i64 (hval (p.data.toList.take (m + 1)))) := HD.1
                  have HN2 : Hid (∀ c ∈ p.data.toList.take (m + 1), isd c = true) := HD.2
                  clear HD next bad
                  go_wp2
                  go_round
                  case rel => exact ⟨m + 1, by omega, (congrArg (Value.int .i64) (by have := e48.out; omega)).trans HN1.out, by go_num, HN2⟩
                  case measure => simp [RowKit.intOf]; omega
                · have HA : Hid (RAns s w (.returned (.tuple #[.slice none 0 0, .bool false])) wr) := .no (bad.out (dv_not (by omega))) hb.out
                  clear next bad
                  go_wp2
                  go_ret2
                  exact HA.out
                · have HA : Hid (RAns s w (.returned (.tuple #[.slice none 0 0, .bool false])) wr) := .no (bad.out (dv_not (by omega))) hb.out
                  clear next bad
                  go_wp2
                  go_ret2
                  exact HA.out
                · have HA : Hid (RAns s w (.returned (.tuple #[.slice none 0 0, .bool false])) wr) := .no (bad.out (dv_not (by omega))) hb.out
                  clear next bad
                  go_wp2
                  go_ret2
                  exact HA.out
              · obtain rfl : m = 8 := by omega
                have htk8 : p.data.toList.take 8 = p.data.toList := List.take_of_length_le (by rw [hp8.out]; omega)
                rw [htk8] at hd hbd ⊢
                have hdd : Hid (∀ c ∈ p.data.toList, isd c = true) := hd
                have yes : Hid (can (hval p.data.toList) = hval p.data.toList → ∀ q ∈ ps.take (k + 1), okn q.data.toList = true) := fun h q hq => by
                  rw [htk.out] at hq
                  rcases List.mem_append.1 hq with hq | hq
                  · exact hok.out q hq
                  · rw [List.mem_singleton.1 hq]; exact okn_yes hp8.out hdd.out h
                have bad : Hid (can (hval p.data.toList) ≠ hval p.data.toList → GOOD s.data.toList = false) := fun h => good_bad HN.out hpm.out (okn_can h)
                have hzz : Hid (((ps.take k).map fun p => fv p.data.toList) ++ [Value.float .f32 (hval p.data.toList)] = ((ps.take (k + 1)).map fun p => fv p.data.toList)) := by show _ = _; rw [htk.out]; simp [fv]
                clear htk8 hd hdd hpm htk
                have hV2 := hbd.out
                clear hbd
                generalize hval p.data.toList = V at *
                have hF := from_any V (by omega) wr
                have hBb := bits_spec V (by omega) wr
                rw [can_bits] at hBb
                by_cases hcan : can V = V
                · have HOK : Hid (∀ q ∈ ps.take (k + 1), okn q.data.toList = true) := yes.out hcan
                  rw [hcan] at hBb
                  clear yes bad hcan hok e1
                  go_wp2_with fail
                  refine hF.mono ?_
                  rintro e w2 ⟨rfl, hw2⟩
                  rw [hw2]
                  clear hw2 hF
                  go_wp2_with fail
                  refine hBb.mono ?_
                  rintro e w2 ⟨rfl, hw2⟩
                  rw [← hw2]
                  clear hw2 hBb
                  have hS : w.heap.size ≤ g ∧ g < wr.heap.size := ⟨by rcases ho.out.2 with ⟨h', _⟩ | ⟨g', cap', cur, h', hB, _⟩ <;> simp at h' <;> omega, ils.own_lt ho.out⟩
                  have HS : Hid (w.heap.size ≤ wr.heap.size) := by show _ ≤ _; omega
                  have HG : Hid (w.heap.size ≤ g) := hS.1
                  clear hS
                  go_wp2_with (first | (at_builtin; refine wpList_append_own _ rfl (.tmp 74) (.tmp 76) 30 rfl w.heap.size 24 i0 (.float .f32 0) 1 4 Tryd.underlying30 hi hz0 hz1 hz2 rfl (by decide) _ k _ rfl (ho.out.alloc _) ⟨wr.heap.size, 0, none⟩ 1 1 [.float .f32 _] rfl rfl (one_float wr _) (by intro u hu; rw [List.mem_singleton] at hu; subst hu; rfl) (by unfold maxLen; omega) (by omega) (by have := HS.out; simp; omega) ?_; intro v' w3 hown' hgrow _))
                  obtain ⟨g', cap', rfl⟩ := own_shape hown' (by omega)
                  rw [hzz.out] at hown'
                  have HO5 : Hid (w3.ownsRow w.heap.size 24 1 (.slice (some ⟨g', 0, none⟩) (k + 1) cap') (k + 1) ((ps.take (k + 1)).map fun p => fv p.data.toList)) := hown'
                  have HG5 : Hid (w3.heap[g1]? = some (.cells cs1 9 fz1)) := by show _ = _; rw [other ho.out hg1.out (by decide) hgrow]; exact hg1.out
                  have HB5 : Hid (Below w.heap.size w w3) := (hb.out.alloc HS.out _).grown hgrow (by have := HS.out; simp; omega) (by intro j hj; have hj' : some g = some j := hj; injection hj' with hj'; have := HG.out; omega)
                  clear hown' hgrow ho hb hg1
                  go_roundw
                  case rel => exact ⟨k + 1, g', cap', by omega, rfl, by go_num, HO5, HOK, HG5, HB5⟩
                  case measure => simp [RowKit.intOf]; omega
                · have HA : Hid (RAns s w (.returned (.tuple #[.slice none 0 0, .bool false])) wr) := .no (bad.out hcan) hb.out
                  have hne : ((can V : Int) == (V : Int)) = false := by rw [beq_eq_false_iff_ne]; omega
                  clear yes bad hcan hok e1
                  go_wp2_with fail
                  refine hF.mono ?_
                  rintro e w2 ⟨rfl, hw2⟩
                  rw [hw2]
                  clear hw2 hF
                  go_wp2_with fail
                  refine hBb.mono ?_
                  rintro e w2 ⟨rfl, hw2⟩
                  rw [← hw2]
                  clear hw2 hBb
                  go_wp2_with fail
                  go_ret2
                  exact HA.out
          · have HA : Hid (RAns s w (.returned (.tuple #[.slice none 0 0, .bool false])) wr) := .no (good_bad HN.out hpm.out (okn_len (by simpa using h8))) hb.out
            have h8' : ((p.size : Int) == 8) = false := by rw [beq_eq_false_iff_ne]; omega
            go_wp2_with fail
            go_ret2
            exact HA.out
        · obtain rfl : k = ps.length := by omega
          have hall : ∀ p ∈ cutA [] s.data.toList, okn p = true := fun p hp => by
            rw [← HPS.out] at hp
            obtain ⟨q, hq, rfl⟩ := List.mem_map.1 hp
            exact hok.out q (by rw [List.take_length]; exact hq)
          have h64'' : (cutA [] s.data.toList).length ≤ 256 := by have := hpl.out; omega
          have HA : Hid (RAns s w (.returned (.tuple #[.slice (some ⟨g, 0, none⟩) ps.length cap, .bool true])) wr) := by
            refine ⟨_, by unfold GOOD; rw [good_all h64'' hall], ?_, hb.out⟩
            unfold LST
            rw [lst_all HN.out h64'' hall, ← HPS.out, List.map_map, List.length_map]
            have := ho.out
            rw [List.take_length] at this
            exact this
          clear hall h64'' ho hok hb hg1 hi hz0 hz1 hz2
          go_wp2_with fail
          go_ret2
          exact HA.out
end Go.Proofs.YtnodnopolhdfhaaDoor.rn
