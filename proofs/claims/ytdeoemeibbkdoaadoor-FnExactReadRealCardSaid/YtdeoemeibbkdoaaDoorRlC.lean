/- The model's parts of a text between commas. -/
import Derived.Test.YtdeoemeibbkdoaaDoorRlP
import Derived.Test.YtdeoemeibbkdoaaDoorOwn
import Derived.Test.YtdeoemeibbkdoaaDoorRdW
namespace Go.Proofs.YtdeoemeibbkdoaaDoor.rl
open Go.RowKit Go.Lib Go.Rd Go.Rl Go.Proofs.YtdeoemeibbkdoaaDoor.dec Go.Proofs.YtdeoemeibbkdoaaDoor.own

/-- the slice v holds these texts -/
def Strs (w : World) (v : Value) (ps : List ByteArray) : Prop :=
  ∃ g cap cs fz, v = .slice (some ⟨g, 0, none⟩) ps.length cap ∧ w.heap[g]? = some (.cells cs 9 fz) ∧ ∀ k p, ps[k]? = some p → w.cell? ⟨g, k, none⟩ = some (.string p)
theorem own_obj {w : World} {B e g n cap m : Nat} {xs : List Value} (h : w.ownsRow B e 1 (.slice (some ⟨g, 0, none⟩) n cap) m xs) : ∃ cs, w.heap[g]? = some (.cells cs e (0, 0)) := by
  rcases h.2 with ⟨h', _⟩ | ⟨g', cap', cur, h', _, hg, _⟩
  · simp at h'
  · simp only [Value.slice.injEq, Option.some.injEq, Addr.mk.injEq, and_true] at h'
    obtain ⟨rfl, _⟩ := h'
    exact ⟨cur, hg⟩

/-- what is cut, and what is left -/
def Inv (s : ByteArray) (i fr : Nat) (ps : List ByteArray) : Prop :=
  ps.map (·.data.toList) ++ cutA ((s.data.toList.take i).drop fr) (s.data.toList.drop i) = cutA [] s.data.toList

theorem inv_start (s : ByteArray) : Inv s 0 0 [] := by simp [Inv]
theorem drop_at (s : ByteArray) (i : Nat) (h : i < s.size) : s.data.toList.drop i = s[i] :: s.data.toList.drop (i + 1) := by
  rw [List.drop_eq_getElem_cons (by simpa using h)]; rfl
theorem ext_toList (s : ByteArray) (a b : Nat) : (s.extract a b).data.toList = (s.data.toList.take b).drop a := by
  simp [ByteArray.data_extract, List.drop_take, List.extract]
theorem inv_let {s : ByteArray} {i fr : Nat} {ps : List ByteArray} (h : Inv s i fr ps) (hi : i < s.size) (hf : fr ≤ i) (hc : s[i].toNat ≠ 44) : Inv s (i + 1) fr ps := by
  unfold Inv at *
  rw [drop_at s i hi, cutA_let _ _ _ (fun e => hc (by rw [e]; rfl))] at h
  rw [rd.take_snoc s i hi, List.drop_append_of_le_length (by rw [List.length_take]; have : i < s.data.toList.length := by simpa using hi
                                                             omega)]
  exact h
theorem inv_com {s : ByteArray} {i fr : Nat} {ps : List ByteArray} (h : Inv s i fr ps) (hi : i < s.size) (hc : s[i].toNat = 44) : Inv s (i + 1) (i + 1) (ps ++ [s.extract fr i]) := by
  unfold Inv at *
  have e : s[i] = 44 := UInt8.toNat_inj.1 (by rw [hc]; rfl)
  rw [drop_at s i hi, e, cutA_com] at h
  rw [List.map_append, List.append_assoc]
  have e2 : (s.data.toList.take (i + 1)).drop (i + 1) = [] := List.drop_eq_nil_of_le (by rw [List.length_take]; omega)
  rw [e2]
  simp only [List.map_cons, List.map_nil, ext_toList]
  exact h
theorem inv_end {s : ByteArray} {i fr : Nat} {ps : List ByteArray} (h : Inv s i fr ps) (hi : i = s.size) : (ps ++ [s.extract fr i]).map (·.data.toList) = cutA [] s.data.toList := by
  unfold Inv at h
  have e : s.data.toList.drop i = [] := List.drop_eq_nil_of_le (by simp; omega)
  rw [e] at h
  rw [List.map_append, ← h]
  simp only [List.map_cons, List.map_nil, ext_toList, cutA]

set_option maxRecDepth 100000 in
set_option maxHeartbeats 1600000 in
theorem cut_any (s : ByteArray) (hs : s.size ≤ 1048576) (w : World) :
    Calls Tryd.prog 63 #[.string s, .int .u8 44] w fun e w' => ∃ v ps, e = .returned v ∧ ps.map (·.data.toList) = cutA [] s.data.toList ∧ Strs w' v ps ∧ Below w.heap.size w w' := by
  obtain ⟨i0, hi, hz0, hz1, hz2⟩ := info_parts info_s
  have start : Hid ((w.alloc (.cells #[] 9)).ownsRow w.heap.size 9 1 (.slice (some ⟨w.heap.size, 0, none⟩) 0 0) 0 (([] : List ByteArray).map Value.string)) :=
    ⟨rfl, .inr ⟨w.heap.size, 0, #[], rfl, Nat.le_refl _, heap_alloc_new w _, by simp, by decide, rfl, rfl⟩⟩
  have startB : Hid (Below w.heap.size w (w.alloc (.cells #[] 9))) := (Below.refl _ _).alloc (Nat.le_refl _) _
  go_enter Tryd.func63, Tryd.ntmps63
  go_wp2
  go_loopw [5, 6, 7] (fun v r q wr => ∃ (i fr g cap : Nat) (ps : List ByteArray), i ≤ s.size + 1 ∧ fr ≤ i ∧ v = .slice (some ⟨g, 0, none⟩) ps.length cap ∧ r = .int .i64 fr ∧ q = .int .i64 i ∧ ps.length ≤ i ∧ Hid (i ≤ s.size → Inv s i fr ps) ∧ Hid (i = s.size + 1 → ps.map (·.data.toList) = cutA [] s.data.toList) ∧ Hid (wr.ownsRow w.heap.size 9 1 (.slice (some ⟨g, 0, none⟩) ps.length cap) ps.length (ps.map Value.string)) ∧ Hid (Below w.heap.size w wr)) (fun _ _ q _ => s.size + 1 - (RowKit.intOf q).toNat)
  case atStart => exact ⟨0, 0, _, _, [], by omega, by omega, rfl, rfl, rfl, by simp, fun _ => inv_start s, fun h => by omega, start, startB⟩
  case round =>
    obtain ⟨i, fr, g, cap, ps, hi1, hfr, rfl, rfl, rfl, hpl, hI, hE, ho, hb⟩ := hrel
    clear start startB
    have hS : w.heap.size ≤ g ∧ g < wr.heap.size := ⟨by rcases ho.out.2 with ⟨h', _⟩ | ⟨g', cap', cur, h', hB, _⟩ <;> simp at h' <;> omega, ils.own_lt ho.out⟩
    have HS : Hid (w.heap.size ≤ wr.heap.size) := by show _ ≤ _; omega
    have HG : Hid (w.heap.size ≤ g) := hS.1
    clear hS
    by_cases hle : i ≤ s.size
    · by_cases hlt : i < s.size
      · have hne : ((i : Int) == (s.size : Int)) = false := by rw [beq_eq_false_iff_ne]; omega
        by_cases hc : s[i].toNat = 44
        · have HI2 : Hid (i + 1 ≤ s.size → Inv s (i + 1) (i + 1) (ps ++ [s.extract fr i])) := fun _ => inv_com (hI.out hle) hlt hc
          have HE2 : Hid (i + 1 = s.size + 1 → (ps ++ [s.extract fr i]).map (·.data.toList) = cutA [] s.data.toList) := fun h => by omega
          clear hI hE
          go_wp2_with (first | (at_builtin; refine wpList_append_own _ rfl (.tmp 26) (.tmp 31) 38 rfl w.heap.size 9 i0 (.string ⟨#[]⟩) 1 16 Tryd.underlying38 hi hz0 hz1 hz2 rfl (by decide) _ ps.length (ps.map Value.string) rfl (ho.out.alloc _) ⟨wr.heap.size, 0, none⟩ 1 1 [.string _] rfl rfl (one_new wr _) (by intro u hu; rw [List.mem_singleton] at hu; subst hu; rfl) (by unfold maxLen; omega) (by omega) (by have := HS.out; simp; omega) ?_; intro v' w2 hown' hgrow _))
          obtain ⟨g', cap', rfl⟩ := own_shape hown' (by omega)
          have HO2 : Hid (w2.ownsRow w.heap.size 9 1 (.slice (some ⟨g', 0, none⟩) (ps ++ [s.extract fr i]).length cap') (ps ++ [s.extract fr i]).length ((ps ++ [s.extract fr i]).map Value.string)) := by show World.ownsRow _ _ _ _ _ _ _; rw [List.map_append, List.length_append]; exact hown'
          have HB2 : Hid (Below w.heap.size w w2) := (hb.out.alloc HS.out _).grown hgrow (by have := HS.out; simp; omega) (by intro k hk; have hk' : some g = some k := hk; injection hk' with hk'; have := HG.out; omega)
          have hlen : (ps ++ [s.extract fr i]).length = ps.length + 1 := by simp
          clear hown' hgrow ho hb
          go_roundw
          case rel => exact ⟨i + 1, i + 1, g', cap', ps ++ [s.extract fr i], by omega, by omega, by rw [hlen], by go_num, by go_num, by omega, HI2, HE2, HO2, HB2⟩
          case measure => simp [RowKit.intOf] <;> omega
        · have HI2 : Hid (i + 1 ≤ s.size → Inv s (i + 1) fr ps) := fun _ => inv_let (hI.out hle) hlt hfr hc
          have HE2 : Hid (i + 1 = s.size + 1 → ps.map (·.data.toList) = cutA [] s.data.toList) := fun h => by omega
          have hc' : ((s[i].toNat : Int) == 44) = false := by rw [beq_eq_false_iff_ne]; omega
          clear hI hE
          go_wp2
          go_roundw
          case rel => exact ⟨i + 1, fr, g, cap, ps, by omega, by omega, rfl, rfl, by go_num, by omega, HI2, HE2, ho, hb⟩
          case measure => simp [RowKit.intOf] <;> omega
      · obtain rfl : i = s.size := by omega
        have HI2 : Hid (s.size + 1 ≤ s.size → Inv s (s.size + 1) (s.size + 1) (ps ++ [s.extract fr s.size])) := fun h => by omega
        have HE2 : Hid (s.size + 1 = s.size + 1 → (ps ++ [s.extract fr s.size]).map (·.data.toList) = cutA [] s.data.toList) := fun _ => inv_end (hI.out hle) rfl
        clear hI hE
        go_wp2_with (first | (at_builtin; refine wpList_append_own _ rfl (.tmp 26) (.tmp 31) 38 rfl w.heap.size 9 i0 (.string ⟨#[]⟩) 1 16 Tryd.underlying38 hi hz0 hz1 hz2 rfl (by decide) _ ps.length (ps.map Value.string) rfl (ho.out.alloc _) ⟨wr.heap.size, 0, none⟩ 1 1 [.string _] rfl rfl (one_new wr _) (by intro u hu; rw [List.mem_singleton] at hu; subst hu; rfl) (by unfold maxLen; omega) (by omega) (by have := HS.out; simp; omega) ?_; intro v' w2 hown' hgrow _))
        obtain ⟨g', cap', rfl⟩ := own_shape hown' (by omega)
        have HO2 : Hid (w2.ownsRow w.heap.size 9 1 (.slice (some ⟨g', 0, none⟩) (ps ++ [s.extract fr s.size]).length cap') (ps ++ [s.extract fr s.size]).length ((ps ++ [s.extract fr s.size]).map Value.string)) := by show World.ownsRow _ _ _ _ _ _ _; rw [List.map_append, List.length_append]; exact hown'
        have HB2 : Hid (Below w.heap.size w w2) := (hb.out.alloc HS.out _).grown hgrow (by have := HS.out; simp; omega) (by intro k hk; have hk' : some g = some k := hk; injection hk' with hk'; have := HG.out; omega)
        have hlen : (ps ++ [s.extract fr s.size]).length = ps.length + 1 := by simp
        clear hown' hgrow ho hb
        go_roundw
        case rel => exact ⟨s.size + 1, s.size + 1, g', cap', ps ++ [s.extract fr s.size], by omega, by omega, by rw [hlen], by go_num, by go_num, by omega, HI2, HE2, HO2, HB2⟩
        case measure => simp [RowKit.intOf] <;> omega
    · have HP := hE.out (by omega)
      obtain ⟨cs, hcs⟩ := own_obj ho.out
      have HT : Hid (Strs wr (.slice (some ⟨g, 0, none⟩) ps.length cap) ps) := ⟨g, cap, cs, _, rfl, hcs, fun k p hk => by
        have hl : k < ps.length := (List.getElem?_eq_some_iff.1 hk).1
        rw [ho.out.cellAt k (by omega), List.getElem?_map, hk]
        rfl⟩
      have HQ : Hid (ps.map (·.data.toList) = cutA [] s.data.toList) := HP
      clear HP hI hE ho hcs
      go_wp2
      go_ret
      exact ⟨_, ps, rfl, HQ.out, HT.out, hb.out⟩
end Go.Proofs.YtdeoemeibbkdoaaDoor.rl
