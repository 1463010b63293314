/- RoundFit: what both sides answer. -/
import Derived.Test.YtibpahkjjjhapabFlm
import Derived.Test.YtibpahkjjjhapabRoundPointsF
import Derived.RegionTactic
import Derived.Deep.RegionWith
import Derived.Deep.RegionHeld
namespace Go.Proofs.Ytibpahkjjjhapab.fRoundFit
open Go.RowKit Go.Fl Go.Fa Go.Proofs.Ytibpahkjjjhapab.fls Go.Proofs.Ytibpahkjjjhapab.cos Go.Proofs.Ytibpahkjjjhapab.rnd Go.Proofs.Ytibpahkjjjhapab.fnExactSineTurnsW

/-- the product k of the sum j -/
noncomputable def P (f : Nat → Nat) (n j k : Nat) : Nat := ar .mul .f32 (f k) (cz (oi ((j : Int) * (2 * (k : Int) + 1))) (oi (4 * (n : Int))))
def sh (n j : Nat) : Nat := if j = 0 then ar .quo .f32 1065353216 (oi (n : Int)) else ar .quo .f32 1073741824 (oi (n : Int))
noncomputable def F (f : Nat → Nat) (n j : Nat) : Nat := ar .mul .f32 (sm (P f n j) n) (sh n j)
noncomputable def ok (f : Nat → Nat) (n : Nat) : Bool := decide (1 ≤ n ∧ n ≤ 17) && afin f n && afin (F f n) n
noncomputable def len (f : Nat → Nat) (n : Nat) : Nat := if ok f n = true then n else 0
theorem len_le (f : Nat → Nat) (n : Nat) : len f n ≤ 256 := by
  unfold len
  split
  · rename_i h
    unfold ok at h
    rw [Bool.and_eq_true, Bool.and_eq_true] at h
    have := of_decide_eq_true h.1.1
    omega
  · omega
theorem no_ans {f : Nat → Nat} {n : Nat} (h : ok f n = false) {w w' : World} (hb : Below w.heap.size w w') : FAns (len f n) (ok f n) (F f n) w (.returned (.tuple #[.slice none 0 0, .bool false])) w' := by
  have e : len f n = 0 := if_neg (by rw [h]; decide)
  rw [e, h]
  exact FAns.no hb
theorem yes_ans {f : Nat → Nat} {n : Nat} (h : ok f n = true) {w w' : World} {v : Value} {L : List Value} (ho : w'.ownsRow w.heap.size 42 1 v n L) (hl : FL L n (F f n)) (hb : Below w.heap.size w w') : FAns (len f n) (ok f n) (F f n) w (.returned (.tuple #[v, .bool true])) w' := by
  have e : len f n = n := if_pos h
  rw [e, h]
  exact ⟨_, L, rfl, ho, hl, hb⟩
theorem no_in {f : Nat → Nat} {n : Nat} (h : ¬ (1 ≤ n ∧ n ≤ 17)) : ok f n = false := by unfold ok; rw [decide_eq_false h]; rfl
theorem no_fin {f : Nat → Nat} {n : Nat} (h : afin f n = false) : ok f n = false := by unfold ok; rw [h, Bool.and_false]; rfl
theorem all_fin {f : Nat → Nat} {n : Nat} (h : 1 ≤ n ∧ n ≤ 17) (h2 : afin f n = true) : ok f n = afin (F f n) n := by unfold ok; rw [decide_eq_true h, h2]; rfl
theorem dec_int {n : Nat} : decide ((1 : Int) ≤ (n : Int) ∧ (n : Int) ≤ 17) = decide (1 ≤ n ∧ n ≤ 17) := by
  by_cases h : 1 ≤ n ∧ n ≤ 17
  · rw [decide_eq_true h, decide_eq_true (by omega)]
  · rw [decide_eq_false h, decide_eq_false (by omega)]
theorem q_two : ∀ n : Nat, n < 18 → 0 < n → floatBits .quo .f32 1073741824 (oi (n : Int)) = some (ar .quo .f32 1073741824 (oi (n : Int))) := by decide +kernel
theorem q_one : ∀ n : Nat, n < 18 → 0 < n → floatBits .quo .f32 1065353216 (oi (n : Int)) = some (ar .quo .f32 1065353216 (oi (n : Int))) := by decide +kernel
theorem mul_bd {j k : Nat} (hj : j ≤ 17) (hk : k ≤ 17) : 0 ≤ (j : Int) * (2 * (k : Int) + 1) ∧ (j : Int) * (2 * (k : Int) + 1) ≤ 1000 := by
  have h1 : (j : Int) * (2 * (k : Int) + 1) = ((j * (2 * k + 1) : Nat) : Int) := by push_cast; rfl
  have h2 : j * (2 * k + 1) ≤ 17 * 35 := Nat.mul_le_mul hj (by omega)
  rw [h1]
  omega

/-- what an operation gives in a world -/
def rv (op : BinOp) (k : FloatKind) (x y : Nat) (w : World) : Nat := match floatBits op k x y with
  | some r => r
  | none => (Question.nanBits k x y).cut (w.tape w.drawn (.nanBits k x y))
def rn (op : BinOp) (k : FloatKind) (x y : Nat) : Nat := match floatBits op k x y with
  | some _ => 0
  | none => 1
theorem rv_sm (op : BinOp) (k : FloatKind) (x y : Nat) (w : World) : Sm k (rv op k x y w) (ar op k x y) := by
  unfold rv ar
  cases h : floatBits op k x y with
  | some r => exact .inl rfl
  | none => exact .inr ⟨cut_nan k _ _ (.inl ⟨x, y, rfl⟩), qn_isN k⟩
theorem run_rv {P : Program} (op : BinOp) (hop : op = .add ∨ op = .sub ∨ op = .mul ∨ op = .quo) (k : FloatKind) (x y : Nat) (t : TypeId) (w : World) :
    (binOp op t (.float k x) (.float k y)).run P w = .ok (.float k (rv op k x y w)) (w.drewN (rn op k x y)) := by
  unfold rv rn
  cases h : floatBits op k x y with
  | some r => exact run_float_arith w op t k x y r h
  | none =>
    unfold floatBits at h
    rcases hop with rfl | rfl | rfl | rfl <;> simp only at h <;> simp [binOp, Op.floatArith, h, Question.forced] <;> rfl

set_option maxRecDepth 100000 in
set_option maxHeartbeats 3200000 in
theorem spec_any {v : Value} {n : Nat} {f : Nat → Nat} {w : World} (h : Fls w v n f) (hn20 : n ≤ 1048576) : Calls Try.prog 12 #[v] w (FAns (len f n) (ok f n) (F f n) w) := by
  obtain ⟨i0, hi, hz0, hz1, hz2⟩ := info_parts info_f
  obtain ⟨ao, cap, hv, _, hc⟩ := id h
  subst hv
  by_cases h17 : 1 ≤ n ∧ n ≤ 17
  case neg =>
    have HO : Hid (ok f n = false) := no_in h17
    have HD : Hid (decide ((1 : Int) ≤ (n : Int) ∧ (n : Int) ≤ 17) = false) := by show _ = _; rw [dec_int]; exact decide_eq_false h17
    clear hc h h17
    go_enter Try.func12, Try.ntmps12
    go_wp2_with fail
    refine (in_any _ _ _ _).mono ?_
    rintro e w1 ⟨rfl, hw⟩
    rw [hw, HD.out]
    clear hw
    go_wp2_with fail
    go_ret2
    exact no_ans HO.out (Below.refl _ _)
  case pos =>
  have HD : Hid (decide ((1 : Int) ≤ (n : Int) ∧ (n : Int) ≤ 17) = true) := by show _ = _; rw [dec_int]; exact decide_eq_true h17
  cases ha : afin f n with
  | false =>
    have HO : Hid (ok f n = false) := no_fin ha
    have hy := sfin_any h
    rw [ha] at hy
    have HY := Lib.hid hy
    clear hc h h17 hy ha
    go_enter Try.func12, Try.ntmps12
    go_wp2_with fail
    refine (in_any _ _ _ _).mono ?_
    rintro e w1 ⟨rfl, hw⟩
    rw [hw, HD.out]
    clear hw
    go_wp2_with fail
    refine HY.out.mono ?_
    rintro e w1 ⟨rfl, q, rfl⟩
    go_wp2_with fail
    go_ret2
    exact no_ans HO.out (Go.Pst.below_drewN (Below.refl _ _) _)
  | true =>
    have HE : Hid (ok f n = afin (F f n) n) := all_fin h17 ha
    obtain ⟨b, off, rfl, hbl0, hcell⟩ := hc (by omega)
    have hy := sfin_any h
    rw [ha] at hy
    have HY := Lib.hid hy
    have HCL : Hid (∀ W, Below w.heap.size w W → ∀ k, k < n → W.cell? ⟨b, off + k, none⟩ = some (.float .f32 (f k))) := fun W hb k hk => (hb.cell (p := ⟨b, off + k, none⟩) hbl0).trans (hcell k hk)
    clear hc h hy ha hcell
    obtain ⟨hn1, hn17⟩ := h17
    go_enter Try.func12, Try.ntmps12
    go_wp2_with fail
    refine (in_any _ _ _ _).mono ?_
    rintro e w1 ⟨rfl, hw⟩
    rw [hw, HD.out]
    clear hw
    go_wp2_with fail
    refine HY.out.mono ?_
    rintro e w1 ⟨rfl, q0, rfl⟩
    have start : Hid (((w.drewN q0).alloc (.cells #[] 42)).ownsRow w.heap.size 42 1 (.slice (some ⟨w.heap.size, 0, none⟩) 0 0) 0 []) :=
      ⟨rfl, .inr ⟨w.heap.size, 0, #[], rfl, Nat.le_refl _, heap_alloc_new (w.drewN q0) _, by simp, by decide, rfl, rfl⟩⟩
    have startB : Hid (Below w.heap.size w ((w.drewN q0).alloc (.cells #[] 42))) := (Go.Pst.below_drewN (Below.refl _ _) q0).alloc (Nat.le_refl _) _
    clear HY
    go_wp2_with fail
    go_loopw [5, 6] (fun v i wr => ∃ (j g cp : Nat) (L : List Value), j ≤ n ∧ v = .slice (some ⟨g, 0, none⟩) j cp ∧ i = .int .i64 j ∧ Hid (w.heap.size ≤ g) ∧ Hid (wr.ownsRow w.heap.size 42 1 (.slice (some ⟨g, 0, none⟩) j cp) j L) ∧ Hid (FL L j (F f n)) ∧ Hid (Below w.heap.size w wr)) (fun _ i _ => n - (RowKit.intOf i).toNat)
    case atStart => exact ⟨0, _, _, _, by omega, rfl, rfl, Nat.le_refl _, start, FL.nil _, startB⟩
    case round =>
      obtain ⟨j, g, cp, L, hj, rfl, rfl, hg, ho, hl, hbl⟩ := hrel
      by_cases hlt : j < n
      · go_wp2_with fail
        go_loopw [7, 8] (fun s t wq => ∃ (k r : Nat), k ≤ n ∧ t = .int .i64 k ∧ s = .float .f32 r ∧ Hid (Sm .f32 r (sm (P f n j) k)) ∧ Hid (∃ m, wq = wr.drewN m)) (fun _ t _ => n - (RowKit.intOf t).toNat)
        case atStart => exact ⟨0, 0, by omega, rfl, rfl, .inl rfl, 0, rfl⟩
        case round =>
          obtain ⟨k, r, hk, rfl, rfl, hs, hm⟩ := hrel
          by_cases hltk : k < n
          · have HW : Hid (Below w.heap.size w wr) := by
              obtain ⟨m, hm⟩ := hm.out
              show Below _ _ _
              rw [hm]
              exact Go.Pst.below_drewN hbl.out m
            have e1 : ∀ q, (wr.drewN q).cell? ⟨b, off + k, none⟩ = some (.float .f32 (f k)) := fun q => HCL.out (wr.drewN q) (Go.Pst.below_drewN HW.out q) k hltk
            have e0 : wr.drew.cell? ⟨b, off + k, none⟩ = some (.float .f32 (f k)) := e1 1
            have i1 : (0 : Int) ≤ (k : Int) := by omega
            have i2 : (k : Int) < (n : Int) := by omega
            have bd := mul_bd (j := j) (k := k) (by omega) (by omega)
            have w1 : IntKind.i64.wrap ((j : Int) * (2 * (k : Int) + 1)) = (j : Int) * (2 * (k : Int) + 1) := IntWalk.i64_in _ (by omega)
            have w2 : IntKind.i64.wrap (2 * (k : Int)) = 2 * (k : Int) := IntWalk.i64_in _ (by omega)
            have w3 : IntKind.i64.wrap (2 * (k : Int) + 1) = 2 * (k : Int) + 1 := IntWalk.i64_in _ (by omega)
            have w4 : IntKind.i64.wrap (4 * (n : Int)) = 4 * (n : Int) := IntWalk.i64_in _ (by omega)
            have hc1 := conv_oi ((j : Int) * (2 * (k : Int) + 1))
            have hc2 := conv_oi (4 * (n : Int))
            obtain ⟨m0, hm0⟩ := hm.out
            have next : ∀ q, Hid (∃ m, wr.drewN q = World.drewN _ m) := fun q => ⟨m0 + q, by rw [hm0]; exact World.drewN_drewN _ _ _⟩
            have nexd : Hid (∃ m, wr.drew = World.drewN _ m) := next 1
            have HP : Hid (∀ c w1 w2, Sm .f32 c (cz (oi ((j : Int) * (2 * (k : Int) + 1))) (oi (4 * (n : Int)))) → Sm .f32 (rv .add .f32 r (rv .mul .f32 (f k) c w1) w2) (sm (P f n j) (k + 1))) := fun c w1 w2 h => by
              have h1 := rv_sm .mul .f32 (f k) c w1
              rw [ar_congr (Sm.refl _ _) h] at h1
              have h2 := rv_sm .add .f32 r (rv .mul .f32 (f k) c w1) w2
              rw [ar_congr hs.out h1] at h2
              exact h2
            have HC : Hid (∀ w, Calls Try.prog 23 #[.float .f32 (oi ((j : Int) * (2 * (k : Int) + 1))), .float .f32 (oi (4 * (n : Int)))] w (SmPost (cz (oi ((j : Int) * (2 * (k : Int) + 1))) (oi (4 * (n : Int)))) w)) := fun w => scos_any _ _ w
            obtain ⟨y1, hy1⟩ : ∃ y, y = oi ((j : Int) * (2 * (k : Int) + 1)) := ⟨_, rfl⟩
            obtain ⟨y2, hy2⟩ : ∃ y, y = oi (4 * (n : Int)) := ⟨_, rfl⟩
            rw [← hy1, ← hy2] at HC HP
            rw [← hy1] at hc1
            rw [← hy2] at hc2
            have m1 : ∀ x t w, (binOp .mul t (.float .f32 (f k)) (.float .f32 x)).run Try.prog w = .ok (.float .f32 (rv .mul .f32 (f k) x w)) (w.drewN (rn .mul .f32 (f k) x)) := fun x t w => run_rv .mul (by simp) .f32 _ x t w
            have a1 : ∀ x t w, (binOp .add t (.float .f32 r) (.float .f32 x)).run Try.prog w = .ok (.float .f32 (rv .add .f32 r x w)) (w.drewN (rn .add .f32 r x)) := fun x t w => run_rv .add (by simp) .f32 r x t w
            unfold SmPost at HC
            clear hy1 hy2 hs hm bd hm0
            generalize cz y1 y2 = c0 at *
            generalize rv .mul .f32 (f k) = RM at *
            generalize rn .mul .f32 (f k) = NM at *
            generalize rv .add .f32 r = RA at *
            generalize rn .add .f32 r = NA at *
            generalize f k = fk at *
            go_wp2_with fail
            have s0 : wr.cell? ⟨b, off + k, none⟩ = some (.float .f32 fk) ∧ Hid (∃ m, wr = wr.drewN m) := ⟨e1 0, 0, rfl⟩
            have K : Hid (∀ q, (wr.drewN q).cell? ⟨b, off + k, none⟩ = some (.float .f32 fk) ∧ Hid (∃ m, wr.drewN q = wr.drewN m)) := fun q => ⟨e1 q, q, rfl⟩
            clear e0 e1 nexd
            go_region_held (fun w' => w'.cell? ⟨b, off + k, none⟩ = some (.float .f32 fk) ∧ Hid (∃ m, w' = wr.drewN m))
              (first | exact s0 | exact K.out 1 | exact K.out _)
              (first
                | (go_at_call 23; refine (HC.out _).mono ?_; rintro e w2 ⟨c, q, rfl, rfl, hr⟩))
            go_wp2_with fail
            go_roundw
            case rel => exact ⟨k + 1, _, by omega, by go_num, rfl, HP.out _ _ _ (by assumption), next _⟩
            case measure => simp [RowKit.intOf]; omega
          · have e : n = k := by omega
            subst e
            have hc0 := conv_oi (n : Int)
            by_cases hj0 : j = 0
            · have hb : ((j : Int) == 0) = true := by simp [hj0]
              have hop1 : ∀ t w, (binOp .quo t (.float .f32 1065353216) (.float .f32 (oi (n : Int)))).run Try.prog w = .ok (.float .f32 (sh n j)) w := fun t w => by
                have e : sh n j = ar .quo .f32 1065353216 (oi (n : Int)) := if_pos hj0
                rw [e]
                exact run_float_arith w .quo t .f32 _ _ _ (q_one n (by omega) (by omega))
              have hop2 : ∀ t w, (binOp .quo t (.float .f32 1073741824) (.float .f32 (oi (n : Int)))).run Try.prog w = .ok (.float .f32 (ar .quo .f32 1073741824 (oi (n : Int)))) w := fun t w => run_float_arith w .quo t .f32 _ _ _ (q_two n (by omega) (by omega))
              clear hj0
              generalize ar .quo .f32 1073741824 (oi (n : Int)) = z2 at *
              generalize oi (n : Int) = zn at *
              have OD : Hid (∀ q, (wr.drewN q).ownsRow w.heap.size 42 1 (.slice (some ⟨g, 0, none⟩) j cp) j L) := fun q => by
                obtain ⟨m, hm⟩ := hm.out
                show World.ownsRow _ _ _ _ _ _ _
                rw [hm]
                exact ho.out
              have BD : Hid (∀ q, Below w.heap.size w (wr.drewN q)) := fun q => by
                obtain ⟨m, hm⟩ := hm.out
                show Below _ _ _
                rw [hm]
                exact Go.Pst.below_drewN (Go.Pst.below_drewN hbl.out m) q
              have SD : Hid (w.heap.size ≤ wr.heap.size) := (BD.out 0).size
              have HSR : Hid (∀ s, Sm .f32 s (ar .mul .f32 r (sh n j)) → Sm .f32 s (F f n j)) := fun s h => by
                rw [ar_congr hs.out (Sm.refl _ _)] at h
                exact h
              clear hs hm ho hbl
              generalize sh n j = S at *
              go_wp2_with (first | (refine wpList_ar rfl .mul 42 42 _ _ rfl (by simp) .f32 _ _ rfl rfl ?_; intro s n3 hm hwm) | (at_builtin; refine wpList_append_own _ rfl (.tmp 56) (.tmp 60) 22 rfl w.heap.size 42 i0 (.float .f32 0) 1 4 Try.underlying22 hi hz0 hz1 hz2 rfl (by decide) _ j _ rfl ((OD.out _).alloc _) ⟨wr.heap.size, 0, none⟩ 1 1 [.float .f32 _] rfl rfl (one_float (wr.drewN _) _) (by intro u hu; rw [List.mem_singleton] at hu; subst hu; rfl) (by unfold maxLen; omega) (by omega) (by have := SD.out; simp; omega) ?_; intro v' w3 hown' hgrow _))
              obtain ⟨g', cap', rfl⟩ := own_shape hown' (by omega)
              have HL := Lib.hid (hl.out.snoc (HSR.out _ (by assumption)))
              have hb5 := ((BD.out _).alloc (SD.out) _).grown hgrow (by have := SD.out; simp; omega) (by intro j hj; have hj' : some g = some j := hj; injection hj' with hj'; have := hg.out; omega)
              have HB5 : Hid (Below w.heap.size w w3) := hb5
              have HG5 : Hid (w.heap.size ≤ g') := by
                rcases hown'.2 with ⟨h', _⟩ | ⟨g2, cap2, cur, h', hB, _⟩
                · simp at h'
                · simp only [Value.slice.injEq, Option.some.injEq, Addr.mk.injEq] at h'
                  show _ ≤ _
                  omega
              have HO5 := Lib.hid hown'
              clear hown' hgrow OD BD hl hb5
              go_roundw
              case rel => exact ⟨j + 1, g', cap', _, by omega, rfl, by go_num, HG5, HO5, HL, HB5⟩
              case measure => simp [RowKit.intOf]; omega
            · have hb : ((j : Int) == 0) = false := by rw [beq_eq_false_iff_ne]; omega
              have hop2 : ∀ t w, (binOp .quo t (.float .f32 1073741824) (.float .f32 (oi (n : Int)))).run Try.prog w = .ok (.float .f32 (sh n j)) w := fun t w => by
                have e : sh n j = ar .quo .f32 1073741824 (oi (n : Int)) := if_neg hj0
                rw [e]
                exact run_float_arith w .quo t .f32 _ _ _ (q_two n (by omega) (by omega))
              generalize oi (n : Int) = zn at *
              have OD : Hid (∀ q, (wr.drewN q).ownsRow w.heap.size 42 1 (.slice (some ⟨g, 0, none⟩) j cp) j L) := fun q => by
                obtain ⟨m, hm⟩ := hm.out
                show World.ownsRow _ _ _ _ _ _ _
                rw [hm]
                exact ho.out
              have BD : Hid (∀ q, Below w.heap.size w (wr.drewN q)) := fun q => by
                obtain ⟨m, hm⟩ := hm.out
                show Below _ _ _
                rw [hm]
                exact Go.Pst.below_drewN (Go.Pst.below_drewN hbl.out m) q
              have SD : Hid (w.heap.size ≤ wr.heap.size) := (BD.out 0).size
              have HSR : Hid (∀ s, Sm .f32 s (ar .mul .f32 r (sh n j)) → Sm .f32 s (F f n j)) := fun s h => by
                rw [ar_congr hs.out (Sm.refl _ _)] at h
                exact h
              clear hs hm ho hbl
              generalize sh n j = S at *
              go_wp2_with (first | (refine wpList_ar rfl .mul 42 42 _ _ rfl (by simp) .f32 _ _ rfl rfl ?_; intro s n3 hm hwm) | (at_builtin; refine wpList_append_own _ rfl (.tmp 56) (.tmp 60) 22 rfl w.heap.size 42 i0 (.float .f32 0) 1 4 Try.underlying22 hi hz0 hz1 hz2 rfl (by decide) _ j _ rfl ((OD.out _).alloc _) ⟨wr.heap.size, 0, none⟩ 1 1 [.float .f32 _] rfl rfl (one_float (wr.drewN _) _) (by intro u hu; rw [List.mem_singleton] at hu; subst hu; rfl) (by unfold maxLen; omega) (by omega) (by have := SD.out; simp; omega) ?_; intro v' w3 hown' hgrow _))
              obtain ⟨g', cap', rfl⟩ := own_shape hown' (by omega)
              have HL := Lib.hid (hl.out.snoc (HSR.out _ (by assumption)))
              have hb5 := ((BD.out _).alloc (SD.out) _).grown hgrow (by have := SD.out; simp; omega) (by intro j hj; have hj' : some g = some j := hj; injection hj' with hj'; have := hg.out; omega)
              have HB5 : Hid (Below w.heap.size w w3) := hb5
              have HG5 : Hid (w.heap.size ≤ g') := by
                rcases hown'.2 with ⟨h', _⟩ | ⟨g2, cap2, cur, h', hB, _⟩
                · simp at h'
                · simp only [Value.slice.injEq, Option.some.injEq, Addr.mk.injEq] at h'
                  show _ ≤ _
                  omega
              have HO5 := Lib.hid hown'
              clear hown' hgrow OD BD hl hb5
              go_roundw
              case rel => exact ⟨j + 1, g', cap', _, by omega, rfl, by go_num, HG5, HO5, HL, HB5⟩
              case measure => simp [RowKit.intOf]; omega
      · have e : n = j := by omega
        subst e
        obtain ⟨f2, hf2, hfs⟩ : ∃ f2, Fls wr (.slice (some ⟨g, 0, none⟩) n cp) n f2 ∧ ∀ k, k < n → Sm .f32 (f2 k) (F f n k) := by
          obtain ⟨f2, h1, h2⟩ := hl.out.get
          exact ⟨f2, Fls.of_own (by omega) h1 ho.out, h2⟩
        have HF2 : Hid (Fls wr (.slice (some ⟨g, 0, none⟩) n cp) n f2) := hf2
        have HA : Hid (afin f2 n = ok f n) := by show _ = _; rw [HE.out]; exact afin_congr hfs
        clear hf2 hfs
        cases hv : ok f n with
        | true =>
          have HV : Hid (ok f n = true) := hv
          rw [hv] at HA
          clear hv
          go_wp2_with fail
          refine (sfin_any HF2.out).mono ?_
          rintro e w3 ⟨rfl, m, rfl⟩
          rw [HA.out]
          go_wp2_with fail
          go_ret2
          exact yes_ans HV.out ho.out hl.out (Go.Pst.below_drewN hbl.out m)
        | false =>
          have HV : Hid (ok f n = false) := hv
          rw [hv] at HA
          clear hv
          go_wp2_with fail
          refine (sfin_any HF2.out).mono ?_
          rintro e w3 ⟨rfl, m, rfl⟩
          rw [HA.out]
          go_wp2_with fail
          go_ret2
          exact no_ans HV.out (Go.Pst.below_drewN hbl.out m)

theorem conv_oi3 (x : Int) (w : World) : (convert 3 42 (.int .i64 x)).run Try.prog w = .ok (.float .f32 (oi x)) w :=
  run_convert_int_float w 3 42 .i64 .f32 x (by rw [Try.underlying3]; rfl) Try.underlying42
theorem terms_any (ao : Option Addr) (n cap : Nat) (w : World) : Calls Try.prog 28 #[.slice ao n cap] w fun e w' => e = .returned (.bool (decide (1 ≤ n ∧ n ≤ 17))) ∧ w' = w := by
  have HD : Hid (decide ((1 : Int) ≤ (n : Int) ∧ (n : Int) ≤ 17) = decide (1 ≤ n ∧ n ≤ 17)) := dec_int
  go_enter Try.func28, Try.ntmps28
  go_wp2_with fail
  refine (from_any _ _ _ _).mono ?_
  rintro e w1 ⟨rfl, hw⟩
  rw [hw, HD.out]
  clear hw
  go_wp2_with fail
  go_ret
  exact ⟨(by simp), rfl⟩
/-- the finite ones alone are given -/
theorem fnum_any {v : Value} {n : Nat} {f : Nat → Nat} {w : World} (h : Fls w v n f) : Calls Try.prog 31 #[v] w fun e w' => e = .returned (.tuple #[if afin f n = true then v else .slice none 0 0, .bool (afin f n)]) ∧ ∃ m, w' = w.drewN m := by
  have HF := Lib.hid (ifin_any h)
  obtain ⟨ao, cap, rfl, _, _⟩ := h
  cases ha : afin f n with
  | true =>
    rw [ha] at HF
    clear ha
    go_enter Try.func31, Try.ntmps31
    go_wp2_with fail
    refine HF.out.mono ?_
    rintro e w1 ⟨rfl, m, rfl⟩
    go_wp2_with fail
    go_ret2
    exact ⟨rfl, m, rfl⟩
  | false =>
    rw [ha] at HF
    clear ha
    go_enter Try.func31, Try.ntmps31
    go_wp2_with fail
    refine HF.out.mono ?_
    rintro e w1 ⟨rfl, m, rfl⟩
    go_wp2_with fail
    go_ret2
    exact ⟨rfl, m, rfl⟩

set_option maxRecDepth 100000 in
set_option maxHeartbeats 3200000 in
theorem impl_any {v : Value} {n : Nat} {f : Nat → Nat} {w : World} (h : Fls w v n f) (hn20 : n ≤ 1048576) : Calls Try.prog 14 #[v] w (FAns (len f n) (ok f n) (F f n) w) := by
  obtain ⟨i0, hi, hz0, hz1, hz2⟩ := info_parts info_f
  obtain ⟨ao, cap, hv, _, hc⟩ := id h
  subst hv
  have HT := Lib.hid (terms_any ao n cap)
  by_cases h17 : 1 ≤ n ∧ n ≤ 17
  case neg =>
    have HO : Hid (ok f n = false) := no_in h17
    have HD : Hid (decide (1 ≤ n ∧ n ≤ 17) = false) := decide_eq_false h17
    clear hc h h17
    go_enter Try.func14, Try.ntmps14
    go_wp2_with fail
    refine (HT.out _).mono ?_
    rintro e w1 ⟨rfl, hw⟩
    rw [hw, HD.out]
    clear hw
    go_wp2_with fail
    go_ret2
    exact no_ans HO.out (Below.refl _ _)
  case pos =>
  have HD : Hid (decide (1 ≤ n ∧ n ≤ 17) = true) := decide_eq_true h17
  cases ha : afin f n with
  | false =>
    have HO : Hid (ok f n = false) := no_fin ha
    have hy := ifin_any h
    rw [ha] at hy
    have HY := Lib.hid hy
    clear hc h h17 hy ha
    go_enter Try.func14, Try.ntmps14
    go_wp2_with fail
    refine (HT.out _).mono ?_
    rintro e w1 ⟨rfl, hw⟩
    rw [hw, HD.out]
    clear hw
    go_wp2_with fail
    refine HY.out.mono ?_
    rintro e w1 ⟨rfl, q, rfl⟩
    go_wp2_with fail
    go_ret2
    exact no_ans HO.out (Go.Pst.below_drewN (Below.refl _ _) _)
  | true =>
    have HE : Hid (ok f n = afin (F f n) n) := all_fin h17 ha
    obtain ⟨b, off, rfl, hbl0, hcell⟩ := hc (by omega)
    have hy := ifin_any h
    rw [ha] at hy
    have HY := Lib.hid hy
    have HCL : Hid (∀ W, Below w.heap.size w W → ∀ k, k < n → W.cell? ⟨b, off + k, none⟩ = some (.float .f32 (f k))) := fun W hb k hk => (hb.cell (p := ⟨b, off + k, none⟩) hbl0).trans (hcell k hk)
    clear hc h hy ha hcell
    obtain ⟨hn1, hn17⟩ := h17
    have hml : n ≤ maxLen := by unfold maxLen; omega
    go_enter Try.func14, Try.ntmps14
    go_wp2_with fail
    refine (HT.out _).mono ?_
    rintro e w1 ⟨rfl, hw⟩
    rw [hw, HD.out]
    clear hw HT
    go_wp2_with fail
    refine HY.out.mono ?_
    rintro e w1 ⟨rfl, q0, rfl⟩
    clear HY
    have B0 : Hid (Below w.heap.size w (w.drewN q0)) := Go.Pst.below_drewN (Below.refl _ _) q0
    go_wp2_with (first | (refine wpList_make_full _ rfl (.tmp 21) (.tmp 21) 22 rfl w.heap.size 42 i0 (.float .f32 0) 1 Try.underlying22 hi hz0 hz1 .i64 .i64 _ _ n rfl rfl rfl rfl (by rw [hz2]; omega) hml (Nat.le_refl _) ?_; intro w1 hown hgrow))
    have hbel : Below w.heap.size w w1 := (B0.out).grown hgrow (Nat.le_refl _) (by intro k hk; cases hk)
    have start := Lib.hid hown
    have startB := Lib.hid hbel
    clear hown hgrow hbel
    go_loopw [25] (fun i wr => ∃ (j : Nat) (L : List Value), j ≤ n ∧ i = .int .i64 j ∧ Hid (wr.ownsRow w.heap.size 42 1 (.slice (some ⟨w.heap.size, 0, none⟩) n n) n L) ∧ Hid (∀ k, k < j → ∃ b, L[k]? = some (.float .f32 b) ∧ Sm .f32 b (F f n k)) ∧ Hid (Below w.heap.size w wr)) (fun i _ => n - (RowKit.intOf i).toNat)
    case atStart => exact ⟨0, _, by omega, rfl, start, fun k hk => by omega, startB⟩
    case round =>
      obtain ⟨j, L, hj, rfl, ho, hl, hbl⟩ := hrel
      by_cases hlt : j < n
      · obtain ⟨P0, hP⟩ : ∃ x, x = wr.heap.size := ⟨_, rfl⟩
        go_wp2_with (first | (refine wpList_make_full _ rfl (.tmp 28) (.tmp 28) 22 rfl wr.heap.size 42 i0 (.float .f32 0) 1 Try.underlying22 hi hz0 hz1 .i64 .i64 _ _ n rfl rfl rfl rfl (by rw [hz2]; omega) hml (Nat.le_refl _) ?_; intro w2 hown hgrow))
        rw [← hP] at hown
        rw [← hP]
        have hpb : Below P0 wr w2 := (hP ▸ Below.refl _ wr : Below P0 wr wr).grown hgrow (by omega) (by intro k hk; cases hk)
        have HP0 : Hid (P0 = wr.heap.size) := hP
        have start2 := Lib.hid hown
        have startB2 := Lib.hid hpb
        clear hown hgrow hpb hP
        go_loopw [32] (fun t wq => ∃ (k : Nat) (M : List Value), k ≤ n ∧ t = .int .i64 k ∧ Hid (wq.ownsRow P0 42 1 (.slice (some ⟨P0, 0, none⟩) n n) n M) ∧ Hid (∀ i, i < k → ∃ b, M[i]? = some (.float .f32 b) ∧ Sm .f32 b (P f n j i)) ∧ Hid (Below P0 wr wq)) (fun t _ => n - (RowKit.intOf t).toNat)
        case atStart => exact ⟨0, _, by omega, rfl, start2, fun k hk => by omega, startB2⟩
        case round =>
          obtain ⟨k, M, hk, rfl, hm, hml', hbq⟩ := hrel
          by_cases hltk : k < n
          · have hP9 : w.heap.size ≤ P0 := by rw [HP0.out]; exact hbl.out.size
            have BW : Hid (Below w.heap.size w wr) := hbl.out.trans (hbq.out.mono hP9)
            have e1 : wr.cell? ⟨b, off + k, none⟩ = some (.float .f32 (f k)) := HCL.out wr BW.out k hltk
            have i1 : (0 : Int) ≤ (k : Int) := by omega
            have i2 : (k : Int) < (n : Int) := by omega
            have bd := mul_bd (j := j) (k := k) (by omega) (by omega)
            have w1 : IntKind.i64.wrap ((j : Int) * (2 * (k : Int) + 1)) = (j : Int) * (2 * (k : Int) + 1) := IntWalk.i64_in _ (by omega)
            have hc1 := conv_oi3 ((j : Int) * (2 * (k : Int) + 1))
            have hc2 := conv_oi3 (4 * (n : Int))
            have HP : Hid (∀ c s, Sm .f32 c (cz (oi ((j : Int) * (2 * (k : Int) + 1))) (oi (4 * (n : Int)))) → Sm .f32 s (ar .mul .f32 (f k) c) → Sm .f32 s (P f n j k)) := fun c s h h2 => by
              rw [ar_congr (Sm.refl _ _) h] at h2
              exact h2
            have HC : Hid (∀ w, Calls Try.prog 25 #[.float .f32 (oi ((j : Int) * (2 * (k : Int) + 1))), .float .f32 (oi (4 * (n : Int)))] w (SmPost (cz (oi ((j : Int) * (2 * (k : Int) + 1))) (oi (4 * (n : Int)))) w)) := fun w => icos_any _ _ w
            obtain ⟨y1, hy1⟩ : ∃ y, y = oi ((j : Int) * (2 * (k : Int) + 1)) := ⟨_, rfl⟩
            obtain ⟨y2, hy2⟩ : ∃ y, y = oi (4 * (n : Int)) := ⟨_, rfl⟩
            rw [← hy1, ← hy2] at HC HP
            rw [← hy1] at hc1
            rw [← hy2] at hc2
            unfold SmPost at HC
            have hMl : M.length = n := by have := hm.out.1; simpa using this
            obtain ⟨u, hu⟩ : ∃ u, M[k]? = some u := ⟨M[k]'(by omega), List.getElem?_eq_getElem (by omega)⟩
            have hst : ∀ q r, (store ⟨P0, k, none⟩ (.float .f32 r)).run Try.prog (wr.drewN q) = .ok () ((wr.drewN q).setCell ⟨P0, k, none⟩ (.float .f32 r)) := fun q r => store_float (u := u) ((hm.out.cellAt k (by omega)).trans hu) (hm.out.frozenAt k)
            have HO : Hid (∀ q r, ((wr.drewN q).setCell ⟨P0, k, none⟩ (.float .f32 r)).ownsRow P0 42 1 (.slice (some ⟨P0, 0, none⟩) n n) n (M.set k (.float .f32 r))) := fun q r => by
              have h0 : (wr.drewN q).ownsRow P0 42 1 (.slice (some ⟨P0, 0, none⟩) n n) n M := hm.out
              exact (h0.stored k (.float .f32 r)).1
            have HB := Lib.hid (fun q r => (Go.Pst.below_drewN hbq.out q).setCell (p := ⟨P0, k, none⟩) (Nat.le_refl _) (.float .f32 r))
            have HL : Hid (∀ r, Sm .f32 r (P f n j k) → ∀ i, i < k + 1 → ∃ b, (M.set k (.float .f32 r))[i]? = some (.float .f32 b) ∧ Sm .f32 b (P f n j i)) := fun r hr => FL.set hMl hml'.out hltk hr
            clear hu hm hml' hbq hMl hy1 hy2 bd BW
            generalize cz y1 y2 = c0 at *
            generalize f k = fk at *
            go_wp2_with (first | (go_at_call 25; refine (HC.out _).mono ?_; rintro e w2 ⟨c, q, rfl, rfl, hr⟩) | (refine wpList_ar rfl .mul 42 42 _ _ rfl (by simp) .f32 _ _ rfl rfl ?_; intro s n3 hs hws))
            have HS5 := HP.out _ _ (by assumption) hs
            go_roundw
            case rel => exact ⟨k + 1, _, by omega, by go_num, HO.out _ _, HL.out _ HS5, HB.out _ _⟩
            case measure => simp [RowKit.intOf]; omega
          · have e : n = k := by omega
            subst e
            have hP9 : w.heap.size ≤ P0 := by rw [HP0.out]; exact hbl.out.size
            have BW : Hid (Below w.heap.size w wr) := hbl.out.trans (hbq.out.mono hP9)
            have HFM : Hid (FL M n (P f n j)) := ⟨by have := hm.out.1; simpa using this, hml'.out⟩
            obtain ⟨f3, g1, g2⟩ := HFM.out.get
            have HSUM := Lib.hid (sum_any (Fls.of_own (by omega) g1 hm.out))
            have hsm : sm f3 n = sm (P f n j) n := sm_congr g2
            rw [hsm] at HSUM
            have OW : Hid (wr.ownsRow w.heap.size 42 1 (.slice (some ⟨w.heap.size, 0, none⟩) n n) n L) := own_kept ho.out (by rw [← HP0.out]; exact hbq.out)
            have hLl : L.length = n := by have := OW.out.1; simpa using this
            obtain ⟨u, hu⟩ : ∃ u, L[j]? = some u := ⟨L[j]'(by omega), List.getElem?_eq_getElem (by omega)⟩
            have hst : ∀ q r, (store ⟨w.heap.size, j, none⟩ (.float .f32 r)).run Try.prog (wr.drewN q) = .ok () ((wr.drewN q).setCell ⟨w.heap.size, j, none⟩ (.float .f32 r)) := fun q r => store_float (u := u) ((OW.out.cellAt j (by omega)).trans hu) (OW.out.frozenAt j)
            have HO5 : Hid (∀ q r, ((wr.drewN q).setCell ⟨w.heap.size, j, none⟩ (.float .f32 r)).ownsRow w.heap.size 42 1 (.slice (some ⟨w.heap.size, 0, none⟩) n n) n (L.set j (.float .f32 r))) := fun q r => by
              have h0 : (wr.drewN q).ownsRow w.heap.size 42 1 (.slice (some ⟨w.heap.size, 0, none⟩) n n) n L := OW.out
              exact (h0.stored j (.float .f32 r)).1
            have HB5 := Lib.hid (fun q r => (Go.Pst.below_drewN BW.out q).setCell (p := ⟨w.heap.size, j, none⟩) (Nat.le_refl _) (.float .f32 r))
            have HL5 : Hid (∀ r, Sm .f32 r (F f n j) → ∀ k, k < j + 1 → ∃ b, (L.set j (.float .f32 r))[k]? = some (.float .f32 b) ∧ Sm .f32 b (F f n k)) := fun r hr => FL.set hLl hl.out hlt hr
            have HSR : Hid (∀ r s, Sm .f32 r (sm (P f n j) n) → Sm .f32 s (ar .mul .f32 r (sh n j)) → Sm .f32 s (F f n j)) := fun r s h1 h2 => by
              rw [ar_congr h1 (Sm.refl _ _)] at h2
              exact h2
            clear hu hm hml' hbq hLl ho hl hbl BW HFM g1 g2 hsm OW
            have hc0 := conv_oi3 (n : Int)
            have i1 : (0 : Int) ≤ (j : Int) := by omega
            have i2 : (j : Int) < (n : Int) := by omega
            by_cases hj0 : j = 0
            · have hb : ((j : Int) == 0) = true := by simp [hj0]
              have hop1 : ∀ t w, (binOp .quo t (.float .f32 1065353216) (.float .f32 (oi (n : Int)))).run Try.prog w = .ok (.float .f32 (sh n j)) w := fun t w => by
                have e : sh n j = ar .quo .f32 1065353216 (oi (n : Int)) := if_pos hj0
                rw [e]
                exact run_float_arith w .quo t .f32 _ _ _ (q_one n (by omega) (by omega))
              have hop2 : ∀ t w, (binOp .quo t (.float .f32 1073741824) (.float .f32 (oi (n : Int)))).run Try.prog w = .ok (.float .f32 (ar .quo .f32 1073741824 (oi (n : Int)))) w := fun t w => run_float_arith w .quo t .f32 _ _ _ (q_two n (by omega) (by omega))
              clear hj0
              generalize ar .quo .f32 1073741824 (oi (n : Int)) = z2 at *
              generalize oi (n : Int) = zn at *
              generalize sh n j = S at *
              go_wp2_with (first | (go_at_call 30; refine HSUM.out.mono ?_; rintro e w3 ⟨r, m, rfl, rfl, hr⟩) | (refine wpList_ar rfl .mul 42 42 _ _ rfl (by simp) .f32 _ _ rfl rfl ?_; intro s n3 hs hws))
              have HS5 := HSR.out _ _ (by assumption) hs
              go_roundw
              case rel => exact ⟨j + 1, _, by omega, by go_num, HO5.out _ _, HL5.out _ HS5, HB5.out _ _⟩
              case measure => simp [RowKit.intOf]; omega
            · have hb : ((j : Int) == 0) = false := by rw [beq_eq_false_iff_ne]; omega
              have hop2 : ∀ t w, (binOp .quo t (.float .f32 1073741824) (.float .f32 (oi (n : Int)))).run Try.prog w = .ok (.float .f32 (sh n j)) w := fun t w => by
                have e : sh n j = ar .quo .f32 1073741824 (oi (n : Int)) := if_neg hj0
                rw [e]
                exact run_float_arith w .quo t .f32 _ _ _ (q_two n (by omega) (by omega))
              generalize oi (n : Int) = zn at *
              generalize sh n j = S at *
              go_wp2_with (first | (go_at_call 30; refine HSUM.out.mono ?_; rintro e w3 ⟨r, m, rfl, rfl, hr⟩) | (refine wpList_ar rfl .mul 42 42 _ _ rfl (by simp) .f32 _ _ rfl rfl ?_; intro s n3 hs hws))
              have HS5 := HSR.out _ _ (by assumption) hs
              go_roundw
              case rel => exact ⟨j + 1, _, by omega, by go_num, HO5.out _ _, HL5.out _ HS5, HB5.out _ _⟩
              case measure => simp [RowKit.intOf]; omega
      · have e : n = j := by omega
        subst e
        have HFL : Hid (FL L n (F f n)) := ⟨by have := ho.out.1; simpa using this, hl.out⟩
        obtain ⟨f2, h1, h2⟩ := HFL.out.get
        have HF2 : Hid (Fls wr (.slice (some ⟨w.heap.size, 0, none⟩) n n) n f2) := Fls.of_own (by omega) h1 ho.out
        have HA : Hid (afin f2 n = ok f n) := by show _ = _; rw [HE.out]; exact afin_congr h2
        clear h1 h2
        go_wp2_with fail
        refine (fnum_any HF2.out).mono ?_
        rintro e w3 ⟨rfl, m, rfl⟩
        rw [HA.out]
        cases hv : ok f n with
        | true =>
          have HV : Hid (ok f n = true) := hv
          clear hv
          go_wp2_with fail
          go_ret2
          exact yes_ans HV.out ho.out HFL.out (Go.Pst.below_drewN hbl.out m)
        | false =>
          have HV : Hid (ok f n = false) := hv
          clear hv
          go_wp2_with fail
          go_ret2
          exact no_ans HV.out (Go.Pst.below_drewN hbl.out m)
end Go.Proofs.Ytibpahkjjjhapab.fRoundFit
