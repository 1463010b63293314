/- RoundPoints: what both sides answer. -/
import Derived.Test.YtibpahkjjjhapabFaF
import Derived.Test.YtibpahkjjjhapabCosW
import Derived.OwnWalk
namespace Go.Proofs.Ytibpahkjjjhapab.rnd
open Go.RowKit Go.Fl Go.Fa Go.Proofs.Ytibpahkjjjhapab.fls Go.Proofs.Ytibpahkjjjhapab.cos Go.Proofs.Ytibpahkjjjhapab.fnExactSineTurnsW

theorem conv_oi (x : Int) (w : World) : (convert 2 42 (.int .i64 x)).run Try.prog w = .ok (.float .f32 (oi x)) w :=
  run_convert_int_float w 2 42 .i64 .f32 x (by rw [Try.underlying2]; rfl) Try.underlying42
theorem one_float (w : World) (u : Value) : ∀ j v, [u][j]? = some v → (w.alloc (.cells #[u] 42)).cell? ((⟨w.heap.size, 0, none⟩ : Addr).add j) = some v := by
  have ho : (w.alloc (.cells #[u] 42)).ownsRow w.heap.size 42 1 (.slice (some ⟨w.heap.size, 0, none⟩) 1 1) 1 [u] :=
    ⟨rfl, .inr ⟨w.heap.size, 1, #[u], rfl, Nat.le_refl _, heap_alloc_new w _, by omega, by decide, rfl, rfl⟩⟩
  intro j v hj
  have hl : j < 1 := by
    have := (List.getElem?_eq_some_iff.1 hj).1
    simpa using this
  rw [Addr.add_lit, Nat.zero_add, ho.cellAt j (by omega)]
  exact hj
theorem own_shape {w : World} {B n : Nat} {v : Value} {xs : List Value} (h : w.ownsRow B 42 1 v n xs) (hn : 0 < n) : ∃ g cap, v = .slice (some ⟨g, 0, none⟩) n cap := by
  rcases h.2 with ⟨_, h0⟩ | ⟨g, cap, cur, rfl, _⟩
  · omega
  · exact ⟨g, cap, rfl⟩
theorem in_any (a lo hi : Int) (w : World) : Calls Try.prog 22 #[.int .i64 a, .int .i64 lo, .int .i64 hi] w fun e w' => e = .returned (.bool (decide (lo ≤ a ∧ a ≤ hi))) ∧ w' = w := by
  by_cases h : lo ≤ a
  all_goals
    go_enter Try.func22, Try.ntmps22
    go_wp2
    go_ret
    exact ⟨(by simp [h]; try (intros; omega)), rfl⟩
theorem from_any (a lo hi : Int) (w : World) : Calls Try.prog 24 #[.int .i64 a, .int .i64 lo, .int .i64 hi] w fun e w' => e = .returned (.bool (decide (lo ≤ a ∧ a ≤ hi))) ∧ w' = w := by
  by_cases h : lo ≤ a
  all_goals
    go_enter Try.func24, Try.ntmps24
    go_wp2
    go_ret
    exact ⟨(by simp [h]; try (intros; omega)), rfl⟩
end Go.Proofs.Ytibpahkjjjhapab.rnd
namespace Go.Proofs.Ytibpahkjjjhapab.fRoundPoints
open Go.RowKit Go.Fl Go.Fa Go.Proofs.Ytibpahkjjjhapab.fls Go.Proofs.Ytibpahkjjjhapab.cos Go.Proofs.Ytibpahkjjjhapab.rnd Go.Proofs.Ytibpahkjjjhapab.fnExactSineTurnsW

noncomputable def F (n : Int) (k : Nat) : Nat := cz (oi (2 * (k : Int) + 1)) (oi (4 * n))
def ok (n : Int) : Bool := decide (1 ≤ n ∧ n ≤ 17)
def len (n : Int) : Nat := if ok n = true then n.toNat else 0
theorem yes_len {n : Int} (h : ok n = true) : len n = n.toNat ∧ n.toNat ≤ 17 ∧ 0 < n.toNat ∧ n = (n.toNat : Int) := by
  have h' : 1 ≤ n ∧ n ≤ 17 := of_decide_eq_true h
  exact ⟨if_pos h, by omega, by omega, by omega⟩
theorem len_le (n : Int) : len n ≤ 256 := by
  cases h : ok n with
  | true => obtain ⟨h1, h2, _⟩ := yes_len h; omega
  | false => unfold len; rw [h]; simp
theorem no_ans {n : Int} (h : ok n = false) {w w' : World} (hb : Below w.heap.size w w') : FAns (len n) false (F n) w (.returned (.tuple #[.slice none 0 0, .bool false])) w' := by
  have e : len n = 0 := if_neg (by rw [h]; decide)
  rw [e]
  exact FAns.no hb
theorem yes_ans {n : Nat} (h : ok n = true) {w w' : World} {v : Value} {L : List Value} (ho : w'.ownsRow w.heap.size 42 1 v n L) (hl : FL L n (F n)) (hb : Below w.heap.size w w') : FAns (len n) true (F n) w (.returned (.tuple #[v, .bool true])) w' := by
  have e := (yes_len h).1
  rw [Int.toNat_natCast] at e
  rw [e]
  exact ⟨_, L, rfl, ho, hl, hb⟩

set_option maxRecDepth 100000 in
set_option maxHeartbeats 1600000 in
theorem spec_any (n : Int) (w : World) : Calls Try.prog 7 #[.int .i64 n] w (FAns (len n) (ok n) (F n) w) := by
  obtain ⟨i0, hi, hz0, hz1, hz2⟩ := info_parts info_f
  cases hv : ok n with
  | false =>
    have HV : Hid (ok n = false) := hv
    have HD : Hid (decide (1 ≤ n ∧ n ≤ 17) = false) := hv
    clear hv
    go_enter Try.func7, Try.ntmps7
    go_wp2_with fail
    refine (in_any _ _ _ _).mono ?_
    rintro e w1 ⟨rfl, hw⟩
    rw [hw, HD.out]
    clear hw
    go_wp2_with fail
    go_ret2
    exact no_ans HV.out (Below.refl _ _)
  | true =>
    have HV : Hid (ok n = true) := hv
    have HD : Hid (decide (1 ≤ n ∧ n ≤ 17) = true) := hv
    obtain ⟨_, h17, h0, hnn⟩ := yes_len hv
    obtain ⟨m, hm⟩ : ∃ m, m = n.toNat := ⟨_, rfl⟩
    rw [← hm] at h17 h0 hnn
    clear hm hv
    subst hnn
    have start : Hid ((w.alloc (.cells #[] 42)).ownsRow w.heap.size 42 1 (.slice (some ⟨w.heap.size, 0, none⟩) 0 0) 0 []) :=
      ⟨rfl, .inr ⟨w.heap.size, 0, #[], rfl, Nat.le_refl _, heap_alloc_new w _, by simp, by decide, rfl, rfl⟩⟩
    have startB : Hid (Below w.heap.size w (w.alloc (.cells #[] 42))) := (Below.refl _ _).alloc (Nat.le_refl _) _
    go_enter Try.func7, Try.ntmps7
    go_wp2_with fail
    refine (in_any _ _ _ _).mono ?_
    rintro e w1 ⟨rfl, hw⟩
    rw [hw, HD.out]
    clear hw
    go_wp2_with fail
    go_loopw [4, 5] (fun v i wr => ∃ (j g cap : Nat) (L : List Value), j ≤ m ∧ v = .slice (some ⟨g, 0, none⟩) j cap ∧ i = .int .i64 j ∧ Hid (w.heap.size ≤ g) ∧ Hid (wr.ownsRow w.heap.size 42 1 (.slice (some ⟨g, 0, none⟩) j cap) j L) ∧ Hid (FL L j (F m)) ∧ Hid (Below w.heap.size w wr)) (fun _ i _ => m - (RowKit.intOf i).toNat)
    case atStart => exact ⟨0, _, _, _, by omega, rfl, rfl, Nat.le_refl _, start, FL.nil _, startB⟩
    case round =>
      obtain ⟨j, g, cap, L, hj, rfl, rfl, hg, ho, hl, hbl⟩ := hrel
      by_cases hlt : j < m
      · have hc1 := conv_oi (2 * (j : Int) + 1)
        have hc2 := conv_oi (4 * (m : Int))
        have HC : Hid (∀ w, Calls Try.prog 23 #[.float .f32 (oi (2 * (j : Int) + 1)), .float .f32 (oi (4 * (m : Int)))] w (SmPost (F m j) w)) := fun w => scos_any _ _ w
        obtain ⟨y1, hy1⟩ : ∃ y, y = oi (2 * (j : Int) + 1) := ⟨_, rfl⟩
        obtain ⟨y2, hy2⟩ : ∃ y, y = oi (4 * (m : Int)) := ⟨_, rfl⟩
        rw [← hy1] at hc1 HC
        rw [← hy2] at hc2 HC
        clear hy1 hy2
        unfold SmPost at HC
        have OD : Hid (∀ q, (wr.drewN q).ownsRow w.heap.size 42 1 (.slice (some ⟨g, 0, none⟩) j cap) j L) := fun q => ho.out
        have BD : Hid (∀ q, Below w.heap.size w (wr.drewN q)) := fun q => Go.Pst.below_drewN hbl.out q
        have SD : Hid (w.heap.size ≤ wr.heap.size) := hbl.out.size
        clear ho hbl
        go_wp2_with (first | (go_at_call 23; refine (HC.out _).mono ?_; rintro e w2 ⟨r, q, rfl, rfl, hr⟩) | (at_builtin; refine wpList_append_own _ rfl (.tmp 15) (.tmp 24) 22 rfl w.heap.size 42 i0 (.float .f32 0) 1 4 Try.underlying22 hi hz0 hz1 hz2 rfl (by decide) _ j _ rfl ((OD.out _).alloc _) ⟨wr.heap.size, 0, none⟩ 1 1 [.float .f32 _] rfl rfl (one_float (wr.drewN _) _) (by intro u hu; rw [List.mem_singleton] at hu; subst hu; rfl) (by unfold maxLen; omega) (by omega) (by have := SD.out; simp; omega) ?_; intro v' w3 hown' hgrow _))
        obtain ⟨g', cap', rfl⟩ := own_shape hown' (by omega)
        have HL := Lib.hid (hl.out.snoc (by assumption))
        have hb5 := ((BD.out _).alloc (SD.out) _).grown hgrow (by have := SD.out; simp; omega) (by intro j hj; have hj' : some g = some j := hj; injection hj' with hj'; have := hg.out; omega)
        have HB5 : Hid (Below w.heap.size w w3) := hb5
        have HG5 : Hid (w.heap.size ≤ g') := by
          rcases hown'.2 with ⟨h', _⟩ | ⟨g2, cap2, cur, h', hB, _⟩
          · simp at h'
          · simp only [Value.slice.injEq, Option.some.injEq, Addr.mk.injEq] at h'
            show _ ≤ _
            omega
        have HO5 := Lib.hid hown'
        clear hown' hgrow OD BD hl hb5
        go_roundw
        case rel => exact ⟨j + 1, g', cap', _, by omega, rfl, by go_num, HG5, HO5, HL, HB5⟩
        case measure => simp [RowKit.intOf]; omega
      · obtain rfl : j = m := by omega
        go_wp2_with fail
        go_ret2
        exact yes_ans HV.out ho.out hl.out hbl.out

set_option maxRecDepth 100000 in
set_option maxHeartbeats 1600000 in
theorem impl_any (n : Int) (w : World) : Calls Try.prog 8 #[.int .i64 n] w (FAns (len n) (ok n) (F n) w) := by
  obtain ⟨i0, hi, hz0, hz1, hz2⟩ := info_parts info_f
  cases hv : ok n with
  | false =>
    have HV : Hid (ok n = false) := hv
    have HD : Hid (decide (1 ≤ n ∧ n ≤ 17) = false) := hv
    clear hv
    go_enter Try.func8, Try.ntmps8
    go_wp2_with fail
    refine (from_any _ _ _ _).mono ?_
    rintro e w1 ⟨rfl, hw⟩
    rw [hw, HD.out]
    clear hw
    go_wp2_with fail
    go_ret2
    exact no_ans HV.out (Below.refl _ _)
  | true =>
    have HV : Hid (ok n = true) := hv
    have HD : Hid (decide (1 ≤ n ∧ n ≤ 17) = true) := hv
    obtain ⟨_, h17, h0, hnn⟩ := yes_len hv
    obtain ⟨m, hm⟩ : ∃ m, m = n.toNat := ⟨_, rfl⟩
    rw [← hm] at h17 h0 hnn
    clear hm hv
    subst hnn
    have hml : m ≤ maxLen := by unfold maxLen; omega
    go_enter Try.func8, Try.ntmps8
    go_wp2_with fail
    refine (from_any _ _ _ _).mono ?_
    rintro e w1 ⟨rfl, hw⟩
    rw [hw, HD.out]
    clear hw
    go_wp2_with (first | (refine wpList_make_full _ rfl (.tmp 9) (.tmp 9) 22 rfl w.heap.size 42 i0 (.float .f32 0) 1 Try.underlying22 hi hz0 hz1 .i64 .i64 _ _ m rfl rfl rfl rfl (by rw [hz2]; omega) hml (Nat.le_refl _) ?_; intro w1 hown hgrow))
    have hbel : Below w.heap.size w w1 := (Below.refl _ w).grown hgrow (by omega) (by intro k hk; cases hk)
    have start := Lib.hid hown
    have startB := Lib.hid hbel
    clear hown hgrow hbel
    go_loopw [12] (fun i wr => ∃ (j : Nat) (L : List Value), j ≤ m ∧ i = .int .i64 j ∧ Hid (wr.ownsRow w.heap.size 42 1 (.slice (some ⟨w.heap.size, 0, none⟩) m m) m L) ∧ Hid (∀ k, k < j → ∃ b, L[k]? = some (.float .f32 b) ∧ Sm .f32 b (F m k)) ∧ Hid (Below w.heap.size w wr)) (fun i _ => m - (RowKit.intOf i).toNat)
    case atStart => exact ⟨0, _, by omega, rfl, start, fun k hk => by omega, startB⟩
    case round =>
      obtain ⟨j, L, hj, rfl, ho, hl, hbl⟩ := hrel
      by_cases hlt : j < m
      · have hc1 := conv_oi (2 * (j : Int) + 1)
        have hc2 := conv_oi (4 * (m : Int))
        have HC : Hid (∀ w, Calls Try.prog 25 #[.float .f32 (oi (2 * (j : Int) + 1)), .float .f32 (oi (4 * (m : Int)))] w (SmPost (F m j) w)) := fun w => icos_any _ _ w
        obtain ⟨y1, hy1⟩ : ∃ y, y = oi (2 * (j : Int) + 1) := ⟨_, rfl⟩
        obtain ⟨y2, hy2⟩ : ∃ y, y = oi (4 * (m : Int)) := ⟨_, rfl⟩
        rw [← hy1] at hc1 HC
        rw [← hy2] at hc2 HC
        clear hy1 hy2
        unfold SmPost at HC
        have hLl : L.length = m := by have := ho.out.1; simpa using this
        obtain ⟨u, hu⟩ : ∃ u, L[j]? = some u := ⟨L[j]'(by omega), List.getElem?_eq_getElem (by omega)⟩
        have hst : ∀ q r, (store ⟨w.heap.size, j, none⟩ (.float .f32 r)).run Try.prog (wr.drewN q) = .ok () ((wr.drewN q).setCell ⟨w.heap.size, j, none⟩ (.float .f32 r)) := fun q r => store_float (u := u) ((ho.out.cellAt j (by omega)).trans hu) (ho.out.frozenAt j)
        have HO : Hid (∀ q r, ((wr.drewN q).setCell ⟨w.heap.size, j, none⟩ (.float .f32 r)).ownsRow w.heap.size 42 1 (.slice (some ⟨w.heap.size, 0, none⟩) m m) m (L.set j (.float .f32 r))) := fun q r => by
          have h0 : (wr.drewN q).ownsRow w.heap.size 42 1 (.slice (some ⟨w.heap.size, 0, none⟩) m m) m L := ho.out
          exact (h0.stored j (.float .f32 r)).1
        have HB : Hid (∀ q r, Below w.heap.size w ((wr.drewN q).setCell ⟨w.heap.size, j, none⟩ (.float .f32 r))) := fun q r => (Go.Pst.below_drewN hbl.out q).setCell (p := ⟨w.heap.size, j, none⟩) (Nat.le_refl _) _
        have HL : Hid (∀ r, Sm .f32 r (F m j) → ∀ k, k < j + 1 → ∃ b, (L.set j (.float .f32 r))[k]? = some (.float .f32 b) ∧ Sm .f32 b (F m k)) := fun r hr => FL.set hLl hl.out hlt hr
        clear hu ho hl hbl hLl
        go_wp2_with (first | (go_at_call 25; refine (HC.out _).mono ?_; rintro e w2 ⟨r, q, rfl, rfl, hr⟩))
        go_roundw
        case rel => exact ⟨j + 1, _, by omega, by go_num, HO.out _ _, HL.out _ (by assumption), HB.out _ _⟩
        case measure => simp [RowKit.intOf]; omega
      · obtain rfl : j = m := by omega
        have HFL : Hid (FL L j (F j)) := ⟨by have := ho.out.1; simpa using this, hl.out⟩
        go_wp2_with fail
        go_ret2
        exact yes_ans HV.out ho.out HFL.out hbl.out
end Go.Proofs.Ytibpahkjjjhapab.fRoundPoints
