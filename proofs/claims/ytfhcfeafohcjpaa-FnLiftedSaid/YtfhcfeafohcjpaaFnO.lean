/- Over primes: which numbers are primes, remainders, wholes over a prime: both sides. -/
import Derived.Test.YtfhcfeafohcjpaaSt
import Derived.IntWalk
namespace Go.Pl
def isP (p : Int) : Bool := decide (p = 2 ∨ p = 3 ∨ p = 5 ∨ p = 7 ∨ p = 11 ∨ p = 13)
theorem isP_le {p : Int} (h : isP p = true) : 2 ≤ p ∧ p ≤ 13 := by
  unfold isP at h
  rw [decide_eq_true_iff] at h
  omega
/-- a whole over a prime -/
def over (L : List Int) (p : Int) : Bool := isP p && (val L && decide (inR 0 (p - 1) L))
theorem mods_range (L : List Int) {p : Int} (hp : 0 < p) : inR 0 (p - 1) (mods L p) := by
  intro z hz
  obtain ⟨x, _, rfl⟩ := List.mem_map.1 hz
  have := md_range x hp
  omega
theorem trim_le {L : List Int} (h : L ≠ []) : (trim L).length ≤ L.length := by
  rw [trim_len h]
  exact tlen_le L _
theorem mods_ne {L : List Int} {p : Int} (h : L ≠ []) : mods L p ≠ [] := by
  cases L with
  | nil => exact absurd rfl h
  | cons a b => simp [mods]
end Go.Pl
namespace Go.Proofs.Ytfhcfeafohcjpaa.wh
open Go.RowKit Go.Pl

theorem sprime_any (p : Int) (w : World) : Calls Try.prog 53 #[.int .i64 p] w fun e w' => e = .returned (.bool (isP p)) ∧ w' = w := by
  by_cases h2 : p = 2
  · subst h2; go_enter Try.func53, Try.ntmps53; go_wp2; go_ret; exact ⟨rfl, rfl⟩
  by_cases h3 : p = 3
  · subst h3; go_enter Try.func53, Try.ntmps53; go_wp2; go_ret; exact ⟨rfl, rfl⟩
  by_cases h5 : p = 5
  · subst h5; go_enter Try.func53, Try.ntmps53; go_wp2; go_ret; exact ⟨rfl, rfl⟩
  by_cases h7 : p = 7
  · subst h7; go_enter Try.func53, Try.ntmps53; go_wp2; go_ret; exact ⟨rfl, rfl⟩
  by_cases h11 : p = 11
  · subst h11; go_enter Try.func53, Try.ntmps53; go_wp2; go_ret; exact ⟨rfl, rfl⟩
  by_cases h13 : p = 13
  · subst h13; go_enter Try.func53, Try.ntmps53; go_wp2; go_ret; exact ⟨rfl, rfl⟩
  have HN : Hid (isP p = false) := by
    show isP p = false
    unfold isP; rw [decide_eq_false_iff_not]; omega
  have b2 : (p == 2) = false := by rw [beq_eq_false_iff_ne]; exact h2
  have b3 : (p == 3) = false := by rw [beq_eq_false_iff_ne]; exact h3
  have b5 : (p == 5) = false := by rw [beq_eq_false_iff_ne]; exact h5
  have b7 : (p == 7) = false := by rw [beq_eq_false_iff_ne]; exact h7
  have b11 : (p == 11) = false := by rw [beq_eq_false_iff_ne]; exact h11
  have b13 : (p == 13) = false := by rw [beq_eq_false_iff_ne]; exact h13
  clear h2 h3 h5 h7 h11 h13
  go_enter Try.func53, Try.ntmps53
  go_wp2
  go_ret
  exact ⟨by rw [HN.out]; first | rfl | (simp [b2, b3, b5, b7, b11, b13]), rfl⟩

theorem iprime_any (p : Int) (w : World) : Calls Try.prog 70 #[.int .i64 p] w fun e w' => e = .returned (.bool (isP p)) ∧ w' = w := by
  by_cases h2 : p = 2
  · subst h2; go_enter Try.func70, Try.ntmps70; go_wp2; go_ret; exact ⟨rfl, rfl⟩
  by_cases h3 : p = 3
  · subst h3; go_enter Try.func70, Try.ntmps70; go_wp2; go_ret; exact ⟨rfl, rfl⟩
  by_cases h5 : p = 5
  · subst h5; go_enter Try.func70, Try.ntmps70; go_wp2; go_ret; exact ⟨rfl, rfl⟩
  by_cases h7 : p = 7
  · subst h7; go_enter Try.func70, Try.ntmps70; go_wp2; go_ret; exact ⟨rfl, rfl⟩
  by_cases h11 : p = 11
  · subst h11; go_enter Try.func70, Try.ntmps70; go_wp2; go_ret; exact ⟨rfl, rfl⟩
  by_cases h13 : p = 13
  · subst h13; go_enter Try.func70, Try.ntmps70; go_wp2; go_ret; exact ⟨rfl, rfl⟩
  have HN : Hid (isP p = false) := by
    show isP p = false
    unfold isP; rw [decide_eq_false_iff_not]; omega
  have b2 : (p == 2) = false := by rw [beq_eq_false_iff_ne]; exact h2
  have b3 : (p == 3) = false := by rw [beq_eq_false_iff_ne]; exact h3
  have b5 : (p == 5) = false := by rw [beq_eq_false_iff_ne]; exact h5
  have b7 : (p == 7) = false := by rw [beq_eq_false_iff_ne]; exact h7
  have b11 : (p == 11) = false := by rw [beq_eq_false_iff_ne]; exact h11
  have b13 : (p == 13) = false := by rw [beq_eq_false_iff_ne]; exact h13
  clear h2 h3 h5 h7 h11 h13
  go_enter Try.func70, Try.ntmps70
  go_wp2
  go_ret
  exact ⟨by rw [HN.out]; first | rfl | (simp [b2, b3, b5, b7, b11, b13]), rfl⟩

theorem md_any (x p : Int) (hp : 1 ≤ p ∧ p ≤ 1000000) (w : World) : Calls Try.prog 30 #[.int .i64 x, .int .i64 p] w fun e w' => e = .returned (.int .i64 (md x p)) ∧ w' = w := by
  have h1 := tm_range x (p := p) (by omega)
  have h2 := tm_range (Int.tmod x p + p) (p := p) (by omega)
  have hb : (p == 0) = false := by rw [beq_eq_false_iff_ne]; omega
  have w1 : IntKind.i64.wrap (Int.tmod x p) = Int.tmod x p := IntWalk.i64_in _ (by omega)
  have w2 : IntKind.i64.wrap (Int.tmod x p + p) = Int.tmod x p + p := IntWalk.i64_in _ (by omega)
  have w3 : IntKind.i64.wrap (Int.tmod (Int.tmod x p + p) p) = Int.tmod (Int.tmod x p + p) p := IntWalk.i64_in _ (by omega)
  have HM : Hid (md x p = Int.tmod (Int.tmod x p + p) p) := rfl
  clear h1 h2
  go_enter Try.func30, Try.ntmps30
  go_wp2
  go_ret
  exact ⟨by rw [HM.out]; rfl, rfl⟩
theorem rem_any (x p : Int) (hp : 1 ≤ p ∧ p ≤ 1000000) (w : World) : Calls Try.prog 98 #[.int .i64 x, .int .i64 p] w fun e w' => e = .returned (.int .i64 (md x p)) ∧ w' = w := by
  have h1 := tm_range x (p := p) (by omega)
  have h2 := tm_range (Int.tmod x p + p) (p := p) (by omega)
  have hb : (p == 0) = false := by rw [beq_eq_false_iff_ne]; omega
  have w1 : IntKind.i64.wrap (Int.tmod x p) = Int.tmod x p := IntWalk.i64_in _ (by omega)
  have w2 : IntKind.i64.wrap (Int.tmod x p + p) = Int.tmod x p + p := IntWalk.i64_in _ (by omega)
  have w3 : IntKind.i64.wrap (Int.tmod (Int.tmod x p + p) p) = Int.tmod (Int.tmod x p + p) p := IntWalk.i64_in _ (by omega)
  have HM : Hid (md x p = Int.tmod (Int.tmod x p + p) p) := rfl
  clear h1 h2
  go_enter Try.func98, Try.ntmps98
  go_wp2
  go_ret
  exact ⟨by rw [HM.out]; rfl, rfl⟩

set_option maxRecDepth 100000 in
set_option maxHeartbeats 1600000 in
theorem mods_any {v : Value} {L : List Int} {w : World} (h : Ls w v L) (h0 : L ≠ []) (hL : L.length ≤ 1000) (p : Int) (hp : 1 ≤ p ∧ p ≤ 1000000) :
    Calls Try.prog 27 #[v, .int .i64 p] w fun e w' => ∃ v', e = .returned v' ∧ Own w' w.heap.size w'.heap.size v' (trim (mods L p)) ∧ Below w.heap.size w w' := by
  obtain ⟨i0, hi, hz0, hz1, hz2⟩ := info_parts info_i
  obtain ⟨ao, cap, rfl, hn, hcap, hc⟩ := h
  have hp0 := len_pos h0
  obtain ⟨b, off, rfl, hbw, hcell⟩ := hc (by omega)
  have HC : Hid (∀ (k : Nat) (z : Int), L[k]? = some z → w.cell? ⟨b, off + k, none⟩ = some (.int .i64 z)) := hcell
  have HBw : Hid (b < w.heap.size) := hbw
  obtain ⟨n, hnn⟩ : ∃ n, n = L.length := ⟨_, rfl⟩
  have HML : Hid ((mods L p).length = n) := by show _ = _; rw [mods_len, hnn]
  rw [← hnn] at hn hcap hL hp0
  simp only [← hnn]
  have HN : Hid (n = L.length) := hnn
  have start : Hid ((w.alloc (.cells #[] 2)).ownsRow w.heap.size 2 1 (.slice (some ⟨w.heap.size, 0, none⟩) 0 0) 0 (((mods L p).take 0).map (Value.int .i64))) :=
    ⟨rfl, .inr ⟨w.heap.size, 0, #[], rfl, Nat.le_refl _, heap_alloc_new w _, by simp, by decide, rfl, rfl⟩⟩
  have startB : Hid (Below w.heap.size w (w.alloc (.cells #[] 2))) := new1 _ _
  clear hnn hc hcell hbw h0
  go_enter Try.func27, Try.ntmps27
  go_wp2_with fail
  go_loopw [5, 10] (fun o t wr => ∃ (k g cp : Nat), k ≤ n ∧ o = .slice (some ⟨g, 0, none⟩) k cp ∧ t = .int .i64 k ∧ Hid (w.heap.size ≤ g) ∧ Hid (wr.ownsRow w.heap.size 2 1 (.slice (some ⟨g, 0, none⟩) k cp) k (((mods L p).take k).map (Value.int .i64))) ∧ Hid (Below w.heap.size w wr)) (fun _ t _ => n - (intOf t).toNat)
  case atStart => exact ⟨0, _, _, by omega, rfl, rfl, Nat.le_refl _, start, startB⟩
  case round =>
    obtain ⟨k, g, cp, hk, rfl, rfl, hg, ho, hb⟩ := hrel
    clear start startB
    by_cases hlt : k < n
    · obtain ⟨z, hz⟩ := get_some L k (by have := HN.out; omega)
      have e1 : wr.cell? ⟨b, off + k, none⟩ = some (.int .i64 z) := (hb.out.cell (p := ⟨b, off + k, none⟩) HBw.out).trans (HC.out k z hz)
      have hzz : Hid (((mods L p).take k).map (Value.int .i64) ++ [Value.int .i64 (md z p)] = ((mods L p).take (k + 1)).map (Value.int .i64)) := by
        show _ = _
        rw [List.take_add_one, mods_get hz]; simp
      have HS : Hid (w.heap.size ≤ wr.heap.size) := hb.out.size
      have hcall := md_any z p hp wr
      clear hz
      go_wp2_with fail
      refine hcall.mono ?_
      rintro e w2 ⟨rfl, hw2⟩
      rw [hw2]
      clear hw2 hcall e1
      generalize md z p = y at hzz
      go_wp2_with (first | (at_builtin; refine wpList_append_own _ rfl (.tmp 13) (.tmp 20) 22 rfl w.heap.size 2 i0 (.int .i64 0) 1 8 Try.underlying22 hi hz0 hz1 hz2 rfl (by decide) _ k _ rfl (ho.out.alloc _) ⟨wr.heap.size, 0, none⟩ 1 1 [.int .i64 _] rfl rfl (cell_one_new wr _ _) (by intro u hu; rw [List.mem_singleton] at hu; subst hu; rfl) (by unfold maxLen; omega) (by omega) (by have := HS.out; simp; omega) ?_; intro v' w3 hown' hgrow _))
      obtain ⟨g', cap', rfl⟩ := own_shape hown' (by omega)
      rw [hzz.out] at hown'
      have HG : Hid (w.heap.size ≤ g') := by
        rcases hown'.2 with ⟨h', _⟩ | ⟨g2, cap2, cur, h', hB, _⟩
        · simp at h'
        · simp only [Value.slice.injEq, Option.some.injEq, Addr.mk.injEq, and_true] at h'
          obtain ⟨rfl, _⟩ := h'
          exact hB
      have HO : Hid (w3.ownsRow w.heap.size 2 1 (.slice (some ⟨g', 0, none⟩) (k + 1) cap') (k + 1) (((mods L p).take (k + 1)).map (Value.int .i64))) := hown'
      have HB : Hid (Below w.heap.size w w3) := (hb.out.alloc HS.out _).grown hgrow (by have := HS.out; simp; omega) (by intro j hj; have hj' : some g = some j := hj; injection hj' with hj'; have := hg.out; omega)
      clear hown' hgrow
      go_roundw
      case rel => exact ⟨k + 1, g', cap', by omega, rfl, by go_num, HG, HO, HB⟩
      case measure => simp [RowKit.intOf]; omega
    · obtain rfl : k = n := by omega
      have ho' := ho.out
      rw [List.take_of_length_le (by have := HML.out; omega)] at ho'
      have HO : Hid (Ls wr (.slice (some ⟨g, 0, none⟩) k cp) (mods L p)) := by
        have h1 := HML.out
        have h2 : wr.ownsRow w.heap.size 2 1 (.slice (some ⟨g, 0, none⟩) k cp) (mods L p).length ((mods L p).map (Value.int .i64)) := by rw [h1]; exact ho'
        exact (Own.of_row h2 (by omega) (Nat.le_refl _)).ls (Nat.le_refl _)
      clear ho ho' hi hz0 hz1 hz2
      go_wp2_with fail
      refine (trim_any HO.out (by have := HML.out; omega)).mono ?_
      rintro e w2 ⟨v2, rfl, o2, b2⟩
      have O2 : Hid (Own w2 w.heap.size w2.heap.size v2 (trim (mods L p))) := o2.wide hb.out.size (Nat.le_refl _)
      have B2 : Hid (Below w.heap.size w w2) := hb.out.trans (b2.mono hb.out.size)
      clear o2 b2
      go_wp2_with fail
      go_ret
      exact ⟨_, rfl, O2.out, B2.out⟩

set_option maxRecDepth 100000 in
set_option maxHeartbeats 1600000 in
theorem tover_any {v : Value} {L : List Int} {w : World} (h : Ls w v L) (h0 : L ≠ []) (hL : L.length ≤ 1000) (p : Int) (hp : 1 ≤ p ∧ p ≤ 1000000) :
    Calls Try.prog 85 #[v, .int .i64 p] w fun e w' => ∃ v', e = .returned v' ∧ Own w' w.heap.size w'.heap.size v' (trim (mods L p)) ∧ Below w.heap.size w w' := by
  obtain ⟨i0, hi, hz0, hz1, hz2⟩ := info_parts info_i
  obtain ⟨ao, cap, rfl, hn, hcap, hc⟩ := h
  have hp0 := len_pos h0
  have HMN : Hid (mods L p ≠ []) := mods_ne h0
  obtain ⟨b, off, rfl, hbw, hcell⟩ := hc (by omega)
  have HC : Hid (∀ (k : Nat) (z : Int), L[k]? = some z → w.cell? ⟨b, off + k, none⟩ = some (.int .i64 z)) := hcell
  have HBw : Hid (b < w.heap.size) := hbw
  obtain ⟨n, hnn⟩ : ∃ n, n = L.length := ⟨_, rfl⟩
  have HML : Hid ((mods L p).length = n) := by show _ = _; rw [mods_len, hnn]
  rw [← hnn] at hn hcap hL hp0
  simp only [← hnn]
  have HN : Hid (n = L.length) := hnn
  have hml : n ≤ maxLen := by unfold maxLen; omega
  clear hnn hc hcell hbw h0
  obtain ⟨B, hB⟩ : ∃ B, B = w.heap.size := ⟨_, rfl⟩
  go_enter Try.func85, Try.ntmps85
  go_wp2_with (first | (refine wpList_make_full _ rfl (.tmp 9) (.tmp 9) 22 rfl w.heap.size 2 i0 (.int .i64 0) 1 Try.underlying22 hi hz0 hz1 .i64 .i64 _ _ n rfl rfl rfl rfl (by rw [hz2]; omega) hml (Nat.le_refl _) ?_; intro w1 hown hgrow))
  rw [← hB] at hown
  rw [← hB]
  have hbel : Below B w w1 := (Below.refl B w).grown hgrow (by omega) (by intro k hk; cases hk)
  have HE : Hid (B = w.heap.size) := hB
  clear hgrow hB hi hz0 hz1 hz2
  go_loopw [13] (fun i wr => ∃ (k : Nat) (xs : List Value), k ≤ n ∧ i = .int .i64 k ∧ Hid (wr.ownsRow B 2 1 (.slice (some ⟨B, 0, none⟩) n n) n xs) ∧ Hid (∀ j z, j < k → L[j]? = some z → xs[j]? = some (.int .i64 (md z p))) ∧ Hid (Below B w wr)) (fun i _ => n - (intOf i).toNat)
  case atStart => exact ⟨0, _, by omega, rfl, hown, fun j _ hj => by omega, hbel⟩
  case round =>
    obtain ⟨k, xs, hk, rfl, ho, hx, hb⟩ := hrel
    by_cases hlt : k < n
    · obtain ⟨z, hz⟩ := get_some L k (by have := HN.out; omega)
      have e1 : wr.cell? ⟨b, off + k, none⟩ = some (.int .i64 z) := (hb.out.cell (p := ⟨b, off + k, none⟩) (by have := HE.out; have := HBw.out; show b < B; omega)).trans (HC.out k z hz)
      have e2 : wr.cell? ⟨B, k, none⟩ = xs[k]? := ho.out.cellAt k (by omega)
      have hxl : xs.length = n := by have := ho.out.1; simpa using this
      obtain ⟨u, hu⟩ : ∃ u, xs[k]? = some u := ⟨xs[k]'(by omega), List.getElem?_eq_getElem (by omega)⟩
      rw [hu] at e2
      have e3 : wr.frozen? ⟨B, k, none⟩ = false := ho.out.frozenAt k
      have HO : Hid ((wr.setCell ⟨B, k, none⟩ (.int .i64 (md z p))).ownsRow B 2 1 (.slice (some ⟨B, 0, none⟩) n n) n (xs.set k (.int .i64 (md z p)))) := (ho.out.stored k (.int .i64 (md z p))).1
      have HX : Hid (∀ j y, j < k + 1 → L[j]? = some y → (xs.set k (.int .i64 (md z p)))[j]? = some (.int .i64 (md y p))) := by
        intro j y hj hy
        by_cases hjk : j = k
        · subst hjk
          rw [hz] at hy
          rw [List.getElem?_set_self (by omega), Option.some.inj hy]
        · rw [List.getElem?_set_ne (by omega)]
          exact hx.out j y (by omega) hy
      have HB : Hid (Below B w (wr.setCell ⟨B, k, none⟩ (.int .i64 (md z p)))) := hb.out.setCell (p := ⟨B, k, none⟩) (Nat.le_refl B) _
      have hcall := rem_any z p hp wr
      have hst := store_int (b := md z p) e2 e3
      clear hu hb ho hx hxl hz
      generalize md z p = y at *
      go_wp2_with fail
      refine hcall.mono ?_
      rintro e w2 ⟨rfl, hw2⟩
      rw [hw2]
      clear hw2 hcall e1
      go_wp2_with fail
      go_roundw
      case rel => exact ⟨k + 1, _, by omega, by go_num, HO, HX, HB⟩
      case measure => simp [intOf]; omega
    · obtain rfl : k = n := by omega
      have HO : Hid (Own wr w.heap.size wr.heap.size (.slice (some ⟨B, 0, none⟩) k k) (mods L p)) := by
        have hxs : xs = (mods L p).map (Value.int .i64) := by
          apply List.ext_getElem?
          intro j
          have hxl : xs.length = k := by have := ho.out.1; simpa using this
          by_cases hj : j < k
          · obtain ⟨z, hz⟩ := get_some L j (by have := HN.out; omega)
            rw [hx.out j z hj hz, List.getElem?_map, mods_get hz]; rfl
          · rw [List.getElem?_eq_none (by omega), List.getElem?_eq_none (by have := HML.out; simp; omega)]
        have ho' := ho.out
        rw [hxs] at ho'
        have h1 := HML.out
        have h2 : wr.ownsRow w.heap.size 2 1 (.slice (some ⟨B, 0, none⟩) k k) (mods L p).length ((mods L p).map (Value.int .i64)) := by rw [h1, ← HE.out]; exact ho'
        exact Own.of_row h2 (by omega) (Nat.le_refl _)
      have HB : Hid (Below w.heap.size w wr) := by have := hb.out; rw [HE.out] at this; exact this
      clear ho hx hb hown hbel
      go_wp2_with fail
      refine (wz_any HO.out (Nat.le_refl _) HMN.out).mono ?_
      rintro e w2 ⟨v2, rfl, o2, hw2⟩
      rw [hw2]
      clear hw2
      have O2 : Hid (Own wr w.heap.size wr.heap.size v2 (trim (mods L p))) := o2
      clear o2
      go_wp2_with fail
      go_ret
      exact ⟨_, rfl, O2.out, HB.out⟩

theorem over_no {L : List Int} {p : Int} (h : ¬ (isP p = true ∧ val L = true ∧ inR 0 (p - 1) L)) : over L p = false := by
  unfold over
  cases h1 : isP p <;> cases h2 : val L <;> by_cases h3 : inR 0 (p - 1) L <;> simp_all
theorem over_yes {L : List Int} {p : Int} (h1 : isP p = true) (h2 : val L = true) (h3 : inR 0 (p - 1) L) : over L p = true := by
  unfold over
  simp [h1, h2, h3]

set_option maxRecDepth 100000 in
theorem sover_any {b : Nat} {s : Value} {L : List Int} {w : World} (hb : w.cell? ⟨b, 0, none⟩ = some s) (h : Ls w s L) (p : Int) :
    Calls Try.prog 24 #[.pointer (some ⟨b, 0, none⟩), .int .i64 p] w fun e w' => e = .returned (.bool (over L p)) ∧ w' = w := by
  have HH : Hid (Ls w s L) := h
  have HBc : Hid (w.cell? ⟨b, 0, none⟩ = some s) := hb
  obtain ⟨ao, cap, rfl, hn, hcap, hc⟩ := h
  have hc' : Hid (L.length ≠ 0 → ∃ b off, ao = some ⟨b, off, none⟩ ∧ b < w.heap.size ∧ ∀ (k : Nat) (z : Int), L[k]? = some z → w.cell? ⟨b, off + k, none⟩ = some (.int .i64 z)) := hc
  clear hc
  go_enter Try.func24, Try.ntmps24
  go_wp2_with fail
  refine (sprime_any p _).mono ?_
  rintro e w1 ⟨rfl, hw1⟩
  rw [hw1]
  clear hw1
  cases hp : isP p with
  | false =>
    have HV : Hid (over L p = false) := over_no (by simp [hp])
    clear hp
    go_wp2_with fail
    go_ret
    exact ⟨by rw [HV.out]; first | rfl | (simp; omega), rfl⟩
  | true =>
    have HP : Hid (isP p = true) := hp
    have hpl := isP_le hp
    clear hp
    go_wp2_with fail
    refine (is_any HBc.out HH.out).mono ?_
    rintro e w1 ⟨rfl, hw1⟩
    rw [hw1]
    clear hw1
    cases hv : val L with
    | false =>
      have HV : Hid (over L p = false) := over_no (by simp [hv])
      clear hv
      go_wp2_with fail
      go_ret
      exact ⟨by rw [HV.out]; first | rfl | (simp; omega), rfl⟩
    | true =>
      have HVL : Hid (val L = true) := hv
      clear hv
      obtain ⟨n, hnn⟩ : ∃ n, n = L.length := ⟨_, rfl⟩
      rw [← hnn] at hn hcap hc' HH hb HBc
      have HN : Hid (n = L.length) := hnn
      clear hnn
      go_wp2_with fail
      go_loop [19] (fun i => ∃ (k : Nat), k ≤ n ∧ i = .int .i64 k ∧ Hid (∀ j z, j < k → L[j]? = some z → 0 ≤ z ∧ z ≤ p - 1)) (fun i => n - (intOf i).toNat)
      case atStart => exact ⟨0, by omega, rfl, fun j _ hj => by omega⟩
      case round =>
        obtain ⟨k, hk, rfl, hr⟩ := hrel
        by_cases hlt : k < n
        · obtain ⟨b', off, rfl, _, hcell⟩ := hc'.out (by omega)
          obtain ⟨z, hz⟩ := get_some L k (by have := HN.out; omega)
          have e1 := hcell k z hz
          clear hcell
          by_cases hin : 0 ≤ z ∧ z ≤ p - 1
          · have HR : Hid (∀ j z, j < k + 1 → L[j]? = some z → 0 ≤ z ∧ z ≤ p - 1) := fun j y hj hy => by
              by_cases e : j = k
              · rw [e, hz] at hy; injection hy with hy; omega
              · exact hr.out j y (by omega) hy
            clear hr hz
            go_wp2_with fail
            refine (in_any z _ _ _).mono ?_
            rintro e w1 ⟨rfl, hw1⟩
            rw [hw1, decide_eq_true hin]
            clear hw1
            go_wp2_with fail
            go_round
            case rel => exact ⟨k + 1, by omega, by go_num, HR⟩
            case measure => simp [intOf]; omega
          · have HV : Hid (over L p = false) := over_no fun h => hin (h.2.2.get hz)
            clear hr hz
            go_wp2_with fail
            refine (in_any z _ _ _).mono ?_
            rintro e w1 ⟨rfl, hw1⟩
            rw [hw1, decide_eq_false hin]
            clear hw1
            go_wp2_with fail
            go_ret
            exact ⟨by rw [HV.out]; first | rfl | (simp; omega), rfl⟩
        · obtain rfl : k = n := by omega
          have HV : Hid (over L p = true) := over_yes HP.out HVL.out (inR_of fun k z hk hz => hr.out k z (by have := HN.out; omega) hz)
          clear hr
          go_wp2_with fail
          go_ret
          exact ⟨by rw [HV.out]; first | rfl | (simp; omega), rfl⟩

set_option maxRecDepth 100000 in
theorem iover_any {v : Value} {L : List Int} {w : World} (h : Wh w v L) (p : Int) :
    Calls Try.prog 44 #[v, .int .i64 p] w fun e w' => e = .returned (.bool (over L p)) ∧ Below w.heap.size w w' := by
  obtain ⟨s, rfl, h⟩ := h
  obtain ⟨ao, cap, rfl⟩ := id h.shape
  have HH : Hid (Ls w (.slice ao L.length cap) L) := h
  clear h
  obtain ⟨w1, hw⟩ : ∃ x, x = w.alloc (.cells #[.slice ao L.length cap] 26) := ⟨_, rfl⟩
  have X : Hid (Bx w1 w.heap.size (.slice ao L.length cap)) := by rw [hw]; exact Bx.new _ _ _
  have B1 : Hid (Below w.heap.size w w1) := by rw [hw]; exact new1 _ _
  have H1 : Hid (Ls w1 (.slice ao L.length cap) L) := HH.out.below B1.out
  have c := X.out.cell
  clear HH
  go_enter Try.func44, Try.ntmps44
  go_wp2_with fail
  rw [← hw]
  clear hw
  refine (iprime_any p _).mono ?_
  rintro e w2 ⟨rfl, hw2⟩
  rw [hw2]
  clear hw2
  cases hp : isP p with
  | false =>
    have HV : Hid (over L p = false) := over_no (by simp [hp])
    clear hp
    go_wp2_with fail
    go_ret
    exact ⟨by rw [HV.out]; first | rfl | (simp; omega), B1.out⟩
  | true =>
    have HP : Hid (isP p = true) := hp
    have hpl := isP_le hp
    clear hp
    go_wp2_with fail
    refine (valid_any ⟨_, rfl, H1.out⟩).mono ?_
    rintro e w2 ⟨rfl, b⟩
    have B2 : Hid (Below w.heap.size w w2) := B1.out.trans (b.mono B1.out.size)
    have H2 : Hid (Ls w2 (.slice ao L.length cap) L) := H1.out.below b
    replace X : Hid (Bx w2 w.heap.size (.slice ao L.length cap)) := X.out.kept b
    replace c := X.out.cell
    clear b B1 H1
    cases hv : val L with
    | false =>
      have HV : Hid (over L p = false) := over_no (by simp [hv])
      clear hv
      go_wp2_with fail
      go_ret
      exact ⟨by rw [HV.out]; first | rfl | (simp; omega), B2.out⟩
    | true =>
      have HV : Hid (over L p = decide (inR 0 (p - 1) L)) := by
        show over L p = _
        unfold over
        simp [HP.out, hv]
      clear hv
      go_wp2_with fail
      refine (are_any H2.out 0 (p - 1)).mono ?_
      rintro e w3 ⟨rfl, hw3⟩
      rw [hw3]
      clear hw3
      generalize decide (inR 0 (p - 1) L) = g at *
      cases g with
      | false =>
        go_wp2_with fail
        go_ret
        exact ⟨by rw [HV.out]; first | rfl | (simp; omega), B2.out⟩
      | true =>
        go_wp2_with fail
        go_ret
        exact ⟨by rw [HV.out]; first | rfl | (simp; omega), B2.out⟩
end Go.Proofs.Ytfhcfeafohcjpaa.wh
