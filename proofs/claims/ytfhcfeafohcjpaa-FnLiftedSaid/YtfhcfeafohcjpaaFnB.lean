/- Zeros left out, and wholes made of terms: both sides. -/
import Derived.Test.YtfhcfeafohcjpaaFnA
import Derived.Laws.ResultCell
import Derived.Maps.AppendAt
namespace Go.Proofs.Ytfhcfeafohcjpaa.wh
open Go.RowKit Go.Pl

theorem map_take_get {L : List Int} {k j : Nat} {u : Value} (h : ((L.take k).map (Value.int .i64))[j]? = some u) : ∃ z, L[j]? = some z ∧ u = .int .i64 z ∧ j < k := by
  rw [List.getElem?_map, List.getElem?_take] at h
  split at h
  · cases hz : L[j]? with
    | none => rw [hz] at h; cases h
    | some z =>
      rw [hz] at h
      exact ⟨z, rfl, (Option.some.inj h).symm, by assumption⟩
  · cases h
theorem one_of_map {L : List Int} : ∀ u ∈ L.map (Value.int .i64), u.oneCell' = true := by
  intro u hu
  obtain ⟨z, _, rfl⟩ := List.mem_map.1 hu
  rfl

set_option maxRecDepth 100000 in
set_option maxHeartbeats 800000 in
theorem trim_any {v : Value} {L : List Int} {w : World} (h : Ls w v L) (hL : L.length ≤ 2097152) :
    Calls Try.prog 31 #[v] w fun e w' => ∃ v', e = .returned v' ∧ Own w' w.heap.size w'.heap.size v' (trim L) ∧ Below w.heap.size w w' := by
  obtain ⟨i0, hi, hz0, hz1, hz2⟩ := info_parts info_i
  by_cases h0 : L = []
  · subst h0
    obtain ⟨ao, cap, rfl, _⟩ := h
    have HR := World.ownsRow_lit (base := w.heap.size) (e := 2) (size := 1) w #[.int .i64 0] 1 (Nat.le_refl _) (by decide) rfl
    have HO : Hid (Own (w.alloc (.cells #[.int .i64 0] 2)) w.heap.size (w.alloc (.cells #[.int .i64 0] 2)).heap.size (.slice (some ⟨w.heap.size, 0, none⟩) 1 1) [0]) := Own.of_row HR (by decide) (Nat.le_refl _)
    clear HR hi hz0 hz1 hz2 hL
    go_enter Try.func31, Try.ntmps31
    go_wp2
    go_loop [3] (fun i => i = .int .i64 0) (fun _ => 0)
    case atStart => exact rfl
    case round =>
      obtain rfl := hrel
      go_wp2
      go_ret
      exact ⟨_, rfl, HO.out, new1 _ _⟩
  obtain ⟨ao, cap, rfl, hn, hcap, hc⟩ := h
  have hp := len_pos h0
  obtain ⟨b, off, rfl, hbw, hcell⟩ := hc (by omega)
  have HC : Hid (∀ (k : Nat) (z : Int), L[k]? = some z → w.cell? ⟨b, off + k, none⟩ = some (.int .i64 z)) := hcell
  have HBw : Hid (b < w.heap.size) := hbw
  have HT : Hid (trim L = L.take (tlen L L.length)) := trim_ne h0
  have start : Hid ((w.alloc (.cells #[] 2)).ownsRow w.heap.size 2 1 (.slice (some ⟨w.heap.size, 0, none⟩) 0 0) 0 []) :=
    ⟨rfl, .inr ⟨w.heap.size, 0, #[], rfl, Nat.le_refl _, heap_alloc_new w _, by simp, by decide, rfl, rfl⟩⟩
  obtain ⟨n, hnn⟩ : ∃ n, n = L.length := ⟨_, rfl⟩
  rw [← hnn] at hn hcap HT hL hp
  simp only [← hnn]
  have HN : Hid (n = L.length) := hnn
  clear hnn hc hcell hbw h0
  go_enter Try.func31, Try.ntmps31
  go_wp2
  go_loop [3] (fun i => ∃ (k : Nat), 1 ≤ k ∧ k ≤ n ∧ i = .int .i64 k ∧ Hid (tlen L k = tlen L n)) (fun i => (intOf i).toNat)
  case atStart => exact ⟨n, hp, by omega, rfl, rfl⟩
  case round =>
    obtain ⟨k, hk1, hk, rfl, ht⟩ := hrel
    have fin : ∀ (W : Prop), (tlen L k = k → W) → (1 < k → L[k - 1]? = some 0 → W) → W := fun W a b => by
      by_cases h1 : k ≤ 1
      · exact a (tlen_small L h1)
      · by_cases hz : L[k - 1]? = some 0
        · exact b (by omega) hz
        · exact a (tlen_stop L (by omega) hz)
    have tail : Hid (tlen L k = k → ∀ j u, ((L.take k).map (Value.int .i64))[j]? = some u → (w.alloc (.cells #[] 2)).cell? ((⟨b, off, none⟩ : Addr).add j) = some u) := fun _ j u hu => by
      obtain ⟨z, hz, rfl, _⟩ := map_take_get hu
      rw [Addr.add_lit, (new1 w _).cell (p := ⟨b, off + j, none⟩) HBw.out]
      exact HC.out j z hz
    have hlen : ((L.take k).map (Value.int .i64)).length = k * 1 := by rw [List.length_map, List.length_take]; have := HN.out; omega
    have LEN : Hid (((L.take k).map (Value.int .i64)).length = k * 1) := hlen
    clear hlen
    obtain ⟨z, hz⟩ := get_some L (k - 1) (by have := HN.out; omega)
    have e1 : w.cell? ⟨b, off + (k - 1), none⟩ = some (.int .i64 z) := HC.out _ z hz
    have Hz : Hid (L[k - 1]? = some z) := hz
    clear hz fin
    have done : Hid (tlen L k = k → ∀ v' w1, w1.ownsRow w.heap.size 2 1 v' (0 + k) ([] ++ (L.take k).map (Value.int .i64)) → (w.alloc (.cells #[] 2)).grownBy w1 (some w.heap.size) → Own w1 w.heap.size w1.heap.size v' (trim L) ∧ Below w.heap.size w w1) := fun hk' v' w1 ho hg => by
      have hh : L.take k = trim L := by rw [HT.out, ← ht.out, hk']
      rw [Nat.zero_add, List.nil_append, hh] at ho
      have hl : (trim L).length = k := by rw [← hh, List.length_take]; have := HN.out; omega
      rw [← hl] at ho
      exact ⟨Own.of_row ho (by omega) (Nat.le_refl _), (new1 w _).grown hg (by simp) (fun j hj => by injection hj with hj; omega)⟩
    by_cases h1 : k = 1
    · subst h1
      have hk' : Hid (tlen L 1 = 1) := rfl
      clear e1
      go_wp2_with (first | (at_builtin; refine wpList_append_own _ rfl (.tmp 21) (.tmp 24) 22 rfl w.heap.size 2 i0 (.int .i64 0) 1 8 Try.underlying22 hi hz0 hz1 hz2 rfl (by decide) _ 0 [] rfl start.out ⟨b, off, none⟩ 1 cap _ rfl LEN.out (tail.out hk'.out) one_of_map (by unfold maxLen; omega) (by omega) (by simp) ?_; intro v' w1 hown' hgrow _))
      go_ret
      exact ⟨_, rfl, done.out hk'.out _ _ hown' hgrow⟩
    · by_cases hz0' : z = 0
      · subst hz0'
        have HT2 : Hid (tlen L (k - 1) = tlen L n) := by
          have := tlen_zero L (n := k) (by omega) Hz.out
          show _ = _
          rw [← this]; exact ht.out
        clear tail done
        go_wp2
        go_round
        case rel => exact ⟨k - 1, by omega, by omega, by go_num, HT2⟩
        case measure => simp [intOf]; omega
      · have hzb : (z == 0) = false := by rw [beq_eq_false_iff_ne]; exact hz0'
        have hk' : Hid (tlen L k = k) := tlen_stop L (by omega) (by rw [Hz.out]; simpa using hz0')
        go_wp2_with (first | (at_builtin; refine wpList_append_own _ rfl (.tmp 21) (.tmp 24) 22 rfl w.heap.size 2 i0 (.int .i64 0) 1 8 Try.underlying22 hi hz0 hz1 hz2 rfl (by decide) _ 0 [] rfl start.out ⟨b, off, none⟩ k cap _ rfl LEN.out (tail.out hk'.out) one_of_map (by unfold maxLen; omega) (by omega) (by simp) ?_; intro v' w1 hown' hgrow _))
        go_ret
        exact ⟨_, rfl, done.out hk'.out _ _ hown' hgrow⟩

theorem tl_any {v : Value} {L : List Int} {w : World} (h : Ls w v L) (h0 : L ≠ []) :
    Calls Try.prog 105 #[v] w fun e w' => e = .returned (.int .i64 (tlen L L.length)) ∧ w' = w := by
  obtain ⟨ao, cap, rfl, hn, hcap, hc⟩ := h
  have hp := len_pos h0
  obtain ⟨b, off, rfl, hbw, hcell⟩ := hc (by omega)
  have HC : Hid (∀ (k : Nat) (z : Int), L[k]? = some z → w.cell? ⟨b, off + k, none⟩ = some (.int .i64 z)) := hcell
  obtain ⟨n, hnn⟩ : ∃ n, n = L.length := ⟨_, rfl⟩
  rw [← hnn] at hn hcap hp
  simp only [← hnn]
  have HN : Hid (n = L.length) := hnn
  clear hnn hc hcell hbw h0
  go_enter Try.func105, Try.ntmps105
  go_wp2
  go_loop [3] (fun i => ∃ (k : Nat), 1 ≤ k ∧ k ≤ n ∧ i = .int .i64 k ∧ Hid (tlen L k = tlen L n)) (fun i => (intOf i).toNat)
  case atStart => exact ⟨n, hp, by omega, rfl, rfl⟩
  case round =>
    obtain ⟨k, hk1, hk, rfl, ht⟩ := hrel
    obtain ⟨z, hz⟩ := get_some L (k - 1) (by have := HN.out; omega)
    have e1 : w.cell? ⟨b, off + (k - 1), none⟩ = some (.int .i64 z) := HC.out _ z hz
    have Hz : Hid (L[k - 1]? = some z) := hz
    clear hz
    by_cases h1 : k = 1
    · subst h1
      clear e1
      go_wp2
      go_ret
      exact ⟨by rw [← ht.out]; rfl, rfl⟩
    · by_cases hz0' : z = 0
      · subst hz0'
        have HT2 : Hid (tlen L (k - 1) = tlen L n) := by
          have := tlen_zero L (n := k) (by omega) Hz.out
          show _ = _
          rw [← this]; exact ht.out
        go_wp2
        go_round
        case rel => exact ⟨k - 1, by omega, by omega, by go_num, HT2⟩
        case measure => simp [intOf]; omega
      · have hzb : (z == 0) = false := by rw [beq_eq_false_iff_ne]; exact hz0'
        have hk' : Hid (tlen L k = k) := tlen_stop L (by omega) (by rw [Hz.out]; simpa using hz0')
        go_wp2
        go_ret
        exact ⟨by rw [← ht.out, hk'.out]; rfl, rfl⟩

theorem wz_any {v : Value} {L : List Int} {w : World} {lo hi : Nat} (h : Own w lo hi v L) (hh : hi ≤ w.heap.size) (h0 : L ≠ []) :
    Calls Try.prog 100 #[v] w fun e w' => ∃ v', e = .returned v' ∧ Own w lo hi v' (trim L) ∧ w' = w := by
  have ht := tl_any (h.ls hh) h0
  have hp := len_pos h0
  obtain ⟨hn, ⟨rfl, e⟩ | ⟨g, cap, cs, rfl, hcap, hlo, hhi, hg, hm, hle, hcs⟩⟩ := h
  · exact absurd e h0
  have hT := tlen_le L L.length
  have HO : Hid (∀ m, Own w lo hi (.slice (some ⟨g, 0, none⟩) (tlen L L.length) m) (trim L) ∨ m < tlen L L.length) := fun m => by
    by_cases hm' : m < tlen L L.length
    · exact .inr hm'
    · have hl := trim_len h0
      refine .inl ⟨by omega, .inr ⟨g, m, cs, by rw [hl], by omega, hlo, hhi, hg, hm, by omega, fun k z hk => hcs k z (trim_get h0 hk)⟩⟩
  have hT1 := tlen_pos L L.length hp
  generalize tlen L L.length = t at *
  clear hcs hg
  go_enter Try.func100, Try.ntmps100
  go_wp2_with fail
  refine ht.mono ?_
  rintro e w1 ⟨rfl, hw1⟩
  rw [hw1]
  clear hw1 ht
  go_wp2_with fail
  go_ret
  refine ⟨_, rfl, ?_, rfl⟩
  rcases HO.out t with h | h
  · exact h
  · omega

theorem gv_own {w : World} {lo hi : Nat} {v : Value} {L : List Int} (h : Own w lo hi v (trim L)) (hv : val (trim L) = true) : Own w lo hi v (gv L) := by
  rw [gv_yes hv]; exact h
theorem Own.setBelow {w : World} {lo hi : Nat} {v : Value} {L : List Int} (h : Own w lo hi v L) {b j : Nat} (hb : b < lo) (u : Value) : Own (w.setCell ⟨b, j, none⟩ u) lo hi v L :=
  h.stay fun k h1 _ _ => Below.heap_setCell _ _ _ _ (by show k ≠ b; omega)

set_option maxRecDepth 100000 in
theorem give_any {v : Value} {L : List Int} {w : World} (h : Ls w v L) (hL : L.length ≤ 2097152) :
    Calls Try.prog 51 #[v] w (AnsI (gv L) (val (trim L)) w) := by
  have HH : Hid (Ls w v L) := h
  obtain ⟨ao, cap, rfl⟩ := h.shape
  clear h
  go_enter Try.func51, Try.ntmps51
  go_wp2_with fail
  refine (trim_any (HH.out.below (new1 _ _)) hL).mono ?_
  rintro e w1 ⟨v1, rfl, o, b⟩
  obtain ⟨ao1, cap1, rfl⟩ := o.shape
  have X1 : Bx w1 w.heap.size (.slice none 0 0) := (Bx.new w (.slice none 0 0) 26).kept b
  have hs := b.size
  simp only [World.size_alloc] at hs o b
  have B1 : Below w.heap.size w w1 := (new1 w _).trans (b.mono (by omega))
  obtain ⟨w2, hw2⟩ : ∃ x, x = w1.alloc (.cells #[.slice ao1 (trim L).length cap1] 26) := ⟨_, rfl⟩
  have X2 : Bx w2 w1.heap.size (.slice ao1 (trim L).length cap1) := by rw [hw2]; exact Bx.new _ _ _
  have b2 : Below w1.heap.size w1 w2 := by rw [hw2]; exact new1 _ _
  have Y1 : Bx w2 w.heap.size (.slice none 0 0) := X1.kept b2
  have O2 : Hid (Own w2 (w.heap.size + 1) w2.heap.size (.slice ao1 (trim L).length cap1) (trim L)) := (o.below b2 (Nat.le_refl _)).wide (Nat.le_refl _) b2.size
  have B2 : Hid (Below w.heap.size w w2) := B1.trans (b2.mono (by omega))
  have HY : Hid (Bx w2 w.heap.size (.slice none 0 0)) := Y1
  have HX : Hid (Bx w2 w1.heap.size (.slice ao1 (trim L).length cap1)) := X2
  have c1 := Y1.cell
  have f1 := Y1.free
  have c2 := X2.cell
  clear X1 Y1 X2 b2 o b B1 HH
  go_wp2_with fail
  rw [← hw2]
  clear hw2
  refine (is_any c2 (O2.out.ls (Nat.le_refl _))).mono ?_
  rintro e w3 ⟨rfl, hw3⟩
  rw [hw3]
  clear hw3
  cases hv : val (trim L) with
  | true =>
    have y1 := (HY.out.set (.slice ao1 (trim L).length cap1)).cell
    have HR : Hid (AnsI (gv L) (val (trim L)) w (.returned (.tuple #[.agg #[.slice ao1 (trim L).length cap1], .bool true])) (w2.setCell ⟨w.heap.size, 0, none⟩ (.slice ao1 (trim L).length cap1))) := by
      show AnsI _ _ _ _ _
      rw [hv]
      exact ⟨_, rfl, ⟨_, rfl, (gv_own (O2.out.setBelow (by omega) _) hv).wide (by omega) (by simp)⟩, B2.out.setCell (by simp) _⟩
    clear hv
    go_wp2_with fail
    refine bodyPost_ret (v := .tuple #[.agg #[.slice ao1 (trim L).length cap1], .bool true]) (by simp [results, Try.results51, y1, go_sem]) rfl HR.out
  | false =>
    have y1 := (HY.out.set (.slice none 0 0)).cell
    have HR : Hid (AnsI (gv L) (val (trim L)) w (.returned (.tuple #[.agg #[.slice none 0 0], .bool false])) (w2.setCell ⟨w.heap.size, 0, none⟩ (.slice none 0 0))) := by
      show AnsI _ _ _ _ _
      rw [hv]
      exact ⟨_, rfl, by rw [gv_no hv]; exact OwW.zero _ _ _, B2.out.setCell (by simp) _⟩
    clear hv
    go_wp2_with fail
    refine bodyPost_ret (v := .tuple #[.agg #[.slice none 0 0], .bool false]) (by simp [results, Try.results51, y1, go_sem]) rfl HR.out

set_option maxRecDepth 100000 in
/-- from terms in a block that nothing else holds -/
theorem wo_any {v : Value} {L : List Int} {w0 w : World} (h : Own w w0.heap.size w.heap.size v L) (hb0 : Below w0.heap.size w0 w) (h0 : L ≠ []) :
    Calls Try.prog 84 #[v] w (AnsI (gv L) (val (trim L)) w0) := by
  have HH : Hid (Own w w0.heap.size w.heap.size v L) := h
  have HB : Hid (Below w0.heap.size w0 w) := hb0
  have hsz : w0.heap.size ≤ w.heap.size := hb0.size
  obtain ⟨ao, cap, rfl⟩ := h.shape
  clear h hb0
  go_enter Try.func84, Try.ntmps84
  go_wp2_with fail
  refine (wz_any (HH.out.kept (new1 _ _)) (by simp) h0).mono ?_
  rintro e w1 ⟨v1, rfl, o, hw1⟩
  rw [hw1]
  clear hw1
  obtain ⟨ao1, cap1, rfl⟩ := o.shape
  obtain ⟨w1', hw1'⟩ : ∃ x, x = w.alloc (.cells #[.slice none 0 0] 26) := ⟨_, rfl⟩
  have X1 : Bx w1' w.heap.size (.slice none 0 0) := by rw [hw1']; exact Bx.new _ _ _
  have b1 : Below w.heap.size w w1' := by rw [hw1']; exact new1 _ _
  obtain ⟨w2, hw2⟩ : ∃ x, x = w1'.alloc (.cells #[.slice ao1 (trim L).length cap1] 26) := ⟨_, rfl⟩
  have b2 : Below w1'.heap.size w1' w2 := by rw [hw2]; exact new1 _ _
  have hs1 : w1'.heap.size = w.heap.size + 1 := by rw [hw1']; simp
  have X2 : Bx w2 (w.heap.size + 1) (.slice ao1 (trim L).length cap1) := by rw [← hs1, hw2]; exact Bx.new _ _ _
  have hs2 : w2.heap.size = w.heap.size + 1 + 1 := by rw [hw2]; simp [hs1]
  have Y1 : Bx w2 w.heap.size (.slice none 0 0) := X1.kept b2
  have O2 : Hid (Own w2 w0.heap.size w.heap.size (.slice ao1 (trim L).length cap1) (trim L)) := (by rw [← hw1'] at o; exact o.below (b2.mono (by omega)) (Nat.le_refl _))
  have B2 : Hid (Below w.heap.size w w2) := b1.trans (b2.mono (by omega))
  have HY : Hid (Bx w2 w.heap.size (.slice none 0 0)) := Y1
  have HX : Hid (Bx w2 (w.heap.size + 1) (.slice ao1 (trim L).length cap1)) := X2
  have HS1 : Hid (w2.heap.size = w.heap.size + 1 + 1) := hs2
  have c1 := Y1.cell
  have f1 := Y1.free
  have c2 := X2.cell
  rw [hw1'] at hw2
  clear X1 Y1 X2 b1 b2 o HH hs1 hs2 hw1'
  go_wp2_with fail
  rw [← hw2]
  clear hw2
  refine (valid_any ⟨_, rfl, O2.out.ls (by have := HS1.out; omega)⟩).mono ?_
  rintro e w3 ⟨rfl, b3⟩
  have O3 : Hid (Own w3 w0.heap.size w.heap.size (.slice ao1 (trim L).length cap1) (trim L)) := O2.out.kept b3
  have B3 : Hid (Below w.heap.size w w3) := B2.out.trans (b3.mono B2.out.size)
  replace HY : Hid (Bx w3 w.heap.size (.slice none 0 0)) := HY.out.kept b3
  replace HX : Hid (Bx w3 (w.heap.size + 1) (.slice ao1 (trim L).length cap1)) := HX.out.kept b3
  replace c1 := HY.out.cell
  replace f1 := HY.out.free
  replace c2 := HX.out.cell
  have HS3 : Hid (w.heap.size ≤ w3.heap.size) := B3.out.size
  have BB : Hid (Below w0.heap.size w0 w3) := HB.out.trans (B3.out.mono hsz)
  clear b3 O2 B2 HS1
  cases hv : val (trim L) with
  | true =>
    have y1 := (HY.out.set (.slice ao1 (trim L).length cap1)).cell
    have HR : Hid (AnsI (gv L) (val (trim L)) w0 (.returned (.tuple #[.agg #[.slice ao1 (trim L).length cap1], .bool true])) (w3.setCell ⟨w.heap.size, 0, none⟩ (.slice ao1 (trim L).length cap1))) := by
      show AnsI _ _ _ _ _
      rw [hv]
      exact ⟨_, rfl, ⟨_, rfl, gv_own (Own.wide (Own.stay O3.out fun k _ h2 _ => Below.heap_setCell _ _ _ _ (by show k ≠ w.heap.size; omega)) (Nat.le_refl _) (by have := HS3.out; simp; omega)) hv⟩, BB.out.setCell hsz _⟩
    clear hv
    go_wp2_with fail
    refine bodyPost_ret (v := .tuple #[.agg #[.slice ao1 (trim L).length cap1], .bool true]) (by simp [results, Try.results84, y1, go_sem]) rfl HR.out
  | false =>
    have y1 := (HY.out.set (.slice none 0 0)).cell
    have HR : Hid (AnsI (gv L) (val (trim L)) w0 (.returned (.tuple #[.agg #[.slice none 0 0], .bool false])) (w3.setCell ⟨w.heap.size, 0, none⟩ (.slice none 0 0))) := by
      show AnsI _ _ _ _ _
      rw [hv]
      exact ⟨_, rfl, by rw [gv_no hv]; exact OwW.zero _ _ _, BB.out.setCell hsz _⟩
    clear hv
    go_wp2_with fail
    refine bodyPost_ret (v := .tuple #[.agg #[.slice none 0 0], .bool false]) (by simp [results, Try.results84, y1, go_sem]) rfl HR.out
end Go.Proofs.Ytfhcfeafohcjpaa.wh
