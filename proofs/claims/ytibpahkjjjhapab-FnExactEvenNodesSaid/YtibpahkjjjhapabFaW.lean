/- The values of a family at a number: the program's steps. -/
import Derived.Test.YtibpahkjjjhapabFaV
import Derived.RegionTactic
import Derived.Deep.RegionWith
import Derived.Deep.RegionHeld3
import Derived.Deep.RegionLaw
import Derived.Deep.AppendLies
namespace Go.Proofs.Ytibpahkjjjhapab.fa
open Go.RowKit Go.Fl Go.Fa Go.Proofs.Ytibpahkjjjhapab.fls

/-- what an operation gives in a world -/
def rv (op : BinOp) (k : FloatKind) (x y : Nat) (w : World) : Nat := match floatBits op k x y with
  | some r => r
  | none => (Question.nanBits k x y).cut (w.tape w.drawn (.nanBits k x y))
def rn (op : BinOp) (k : FloatKind) (x y : Nat) : Nat := match floatBits op k x y with
  | some _ => 0
  | none => 1
theorem rv_sm (op : BinOp) (k : FloatKind) (x y : Nat) (w : World) : Sm k (rv op k x y w) (ar op k x y) := by
  unfold rv ar
  cases h : floatBits op k x y with
  | some r => exact .inl rfl
  | none => exact .inr ⟨cut_nan k _ _ (.inl ⟨x, y, rfl⟩), qn_isN k⟩
theorem run_rv {P : Program} (op : BinOp) (hop : op = .add ∨ op = .sub ∨ op = .mul ∨ op = .quo) (k : FloatKind) (x y : Nat) (t : TypeId) (w : World) :
    (binOp op t (.float k x) (.float k y)).run P w = .ok (.float k (rv op k x y w)) (w.drewN (rn op k x y)) := by
  unfold rv rn
  cases h : floatBits op k x y with
  | some r => exact run_float_arith w op t k x y r h
  | none =>
    unfold floatBits at h
    rcases hop with rfl | rfl | rfl | rfl <;> simp only at h <;> simp [binOp, Op.floatArith, h, Question.forced] <;> rfl

theorem factor_any (a b c x : Nat) (w : World) : Calls Try.prog 75 #[.agg #[.float .f32 a, .float .f32 b, .float .f32 c], .float .f32 x] w fun e w' => ∃ r, e = .returned (.float .f32 r) ∧ Sm .f32 r (ar .add .f32 (ar .mul .f32 a x) b) ∧ Below w.heap.size w w' := by
  have g0 := heap_alloc_new w (.cells #[.float .f32 a, .float .f32 b, .float .f32 c] 76 (0, 0))
  have c1 : ∀ q, ((w.alloc (.cells #[.float .f32 a, .float .f32 b, .float .f32 c] 76)).drewN q).cell? ⟨w.heap.size, 1, none⟩ = some (.float .f32 b) := fun q => (show (w.alloc (.cells #[.float .f32 a, .float .f32 b, .float .f32 c] 76)).cell? ⟨w.heap.size, 1, none⟩ = _ by rw [cell_of_row _ _ 1 _ _ _ g0]; rfl)
  have B0 : Hid (Below w.heap.size w (w.alloc (.cells #[.float .f32 a, .float .f32 b, .float .f32 c] 76))) := (Below.refl _ _).alloc (Nat.le_refl _) _
  clear g0
  go_enter Try.func75, Try.ntmps75
  go_wp2_with (first | (refine wpList_ar rfl .mul 42 42 _ _ rfl (by simp) .f32 _ _ rfl rfl ?_; intro s n3 hm hwm) | (refine wpList_ar rfl .add 42 42 _ _ rfl (by simp) .f32 _ _ rfl rfl ?_; intro s n4 hs hws))
  go_ret
  refine ⟨_, rfl, ?_, Go.Pst.below_drewN B0.out _⟩
  have h := hs
  rw [ar_congr (by assumption : Sm .f32 _ (ar .mul .f32 a x)) (Sm.refl _ _)] at h
  exact h

set_option maxHeartbeats 1600000 in
theorem next_any (a b c x one before : Nat) (w : World) : Calls Try.prog 65 #[.agg #[.float .f32 a, .float .f32 b, .float .f32 c], .float .f32 x, .float .f32 one, .float .f32 before] w fun e w' => ∃ r, e = .returned (.float .f32 r) ∧ Sm .f32 r (ar .sub .f32 (ar .mul .f32 (ar .add .f32 (ar .mul .f32 a x) b) one) (ar .mul .f32 c before)) ∧ Below w.heap.size w w' := by
  obtain ⟨w0, hw⟩ : ∃ y, y = w.alloc (.cells #[.float .f32 a, .float .f32 b, .float .f32 c] 76) := ⟨_, rfl⟩
  have g0 : w0.heap[w.heap.size]? = some (.cells #[.float .f32 a, .float .f32 b, .float .f32 c] 76 (0, 0)) := by rw [hw]; exact heap_alloc_new w _
  have B0 : Hid (Below w.heap.size w w0) := by show Below _ _ _; rw [hw]; exact (Below.refl _ _).alloc (Nat.le_refl _) _
  have key : ∀ W : World, Below w0.heap.size w0 W → W.cell? ⟨w.heap.size, 0, none⟩ = some (.float .f32 a) ∧ W.cell? ⟨w.heap.size, 1, none⟩ = some (.float .f32 b) ∧ W.cell? ⟨w.heap.size, 2, none⟩ = some (.float .f32 c) := fun W hb => by
    have h1 := (hb.block w.heap.size (Array.getElem?_eq_some_iff.1 g0).1).trans g0
    exact ⟨by rw [cell_of_row _ _ 0 _ _ _ h1]; rfl, by rw [cell_of_row _ _ 1 _ _ _ h1]; rfl, by rw [cell_of_row _ _ 2 _ _ _ h1]; rfl⟩
  have KEY := Lib.hid key
  obtain ⟨c0, c1, c2⟩ := key w0 (Below.refl _ _)
  have C : Hid (Below w0.heap.size w0 w0) := Below.refl _ _
  have m1 : ∀ x y t w, (binOp .mul t (.float .f32 x) (.float .f32 y)).run Try.prog w = .ok (.float .f32 (rv .mul .f32 x y w)) (w.drewN (rn .mul .f32 x y)) := fun x y t w => run_rv .mul (by simp) .f32 x y t w
  have s1 : ∀ x y t w, (binOp .sub t (.float .f32 x) (.float .f32 y)).run Try.prog w = .ok (.float .f32 (rv .sub .f32 x y w)) (w.drewN (rn .sub .f32 x y)) := fun x y t w => run_rv .sub (by simp) .f32 x y t w
  have HQ : Hid (∀ r w1 w2 w3, Sm .f32 r (ar .add .f32 (ar .mul .f32 a x) b) → Sm .f32 (rv .sub .f32 (rv .mul .f32 r one w1) (rv .mul .f32 c before w2) w3) (ar .sub .f32 (ar .mul .f32 (ar .add .f32 (ar .mul .f32 a x) b) one) (ar .mul .f32 c before))) := fun r w1 w2 w3 h => by
    have h1 := rv_sm .mul .f32 r one w1
    rw [ar_congr h (Sm.refl _ _)] at h1
    have h3 := rv_sm .sub .f32 (rv .mul .f32 r one w1) (rv .mul .f32 c before w2) w3
    rw [ar_congr h1 (rv_sm .mul .f32 c before w2)] at h3
    exact h3
  have HFC := Lib.hid (fun w => factor_any a b c x w)
  clear g0 key
  generalize rv .sub .f32 = RS at *
  generalize rv .mul .f32 = RM at *
  generalize rn .sub .f32 = NS at *
  generalize rn .mul .f32 = NM at *
  go_enter Try.func65, Try.ntmps65
  go_wp2_with fail
  rw [← hw]
  clear hw
  have k0 : ∀ q, (w0.drewN q).cell? ⟨w.heap.size, 0, none⟩ = some (.float .f32 a) := fun _ => c0
  have k1 : ∀ q, (w0.drewN q).cell? ⟨w.heap.size, 1, none⟩ = some (.float .f32 b) := fun _ => c1
  have k2 : ∀ q, (w0.drewN q).cell? ⟨w.heap.size, 2, none⟩ = some (.float .f32 c) := fun _ => c2
  have d0 : w0.drew.cell? ⟨w.heap.size, 0, none⟩ = some (.float .f32 a) := c0
  have d1 : w0.drew.cell? ⟨w.heap.size, 1, none⟩ = some (.float .f32 b) := c1
  have d2 : w0.drew.cell? ⟨w.heap.size, 2, none⟩ = some (.float .f32 c) := c2
  go_region_with (first | (go_at_call 75; refine (HFC.out _).mono ?_; rintro e w2 ⟨r, rfl, hr, hb⟩; have D : Hid (Below w0.heap.size w0 w2) := (by first | exact (Go.Pst.below_drewN C.out 1).trans (hb.mono (Nat.le_refl _)) | exact (Go.Pst.below_drewN C.out _).trans (hb.mono (Nat.le_refl _))); have y2 := (KEY.out w2 D.out).2.2; have z2 := (fun q => (KEY.out (w2.drewN q) (Go.Pst.below_drewN D.out q)).2.2); clear hb))
  all_goals
    go_wp2_with fail
    go_ret
    refine ⟨_, rfl, HQ.out _ _ _ _ (by assumption), ?_⟩
    refine B0.out.trans (Below.mono (B := w0.heap.size) ?_ B0.out.size)
    repeat' (first | exact D.out | refine Go.Pst.below_drewN ?_ _)

/-- a number of a list, 0 if it is missing -/
def tm (f : Nat → Nat) (n : Nat) (k : Int) : Nat := if 0 ≤ k ∧ k < n then f k.toNat else 0
theorem term_any {v : Value} {n : Nat} {f : Nat → Nat} {w : World} (h : Fls w v n f) (k : Int) (hk : -1000 ≤ k ∧ k ≤ 1000) : Calls Try.prog 63 #[v, .int .i64 k] w fun e w' => e = .returned (.float .f32 (tm f n k)) ∧ w' = w := by
  obtain ⟨ao, cap, rfl, hn, hc⟩ := h
  by_cases h0 : k < 0
  · have HT : Hid (tm f n k = 0) := if_neg (by omega)
    clear hc
    go_enter Try.func63, Try.ntmps63
    go_wp2
    go_ret
    exact ⟨by rw [HT.out]; rfl, rfl⟩
  · by_cases h1 : (n : Int) ≤ k
    · have HT : Hid (tm f n k = 0) := if_neg (by omega)
      clear hc
      go_enter Try.func63, Try.ntmps63
      go_wp2
      go_ret
      exact ⟨by rw [HT.out]; rfl, rfl⟩
    · obtain ⟨j, rfl⟩ : ∃ j : Nat, k = j := ⟨k.toNat, by omega⟩
      have HT : Hid (tm f n j = f j) := by show _ = _; unfold tm; rw [if_pos (by omega), Int.toNat_natCast]
      obtain ⟨b, off, rfl, _, hcell⟩ := hc (by omega)
      have e1 : w.cell? ⟨b, off + j, none⟩ = some (.float .f32 (f j)) := hcell j (by omega)
      clear hc hcell
      generalize f j = z at *
      go_enter Try.func63, Try.ntmps63
      go_wp2
      go_ret
      exact ⟨by rw [HT.out]; rfl, rfl⟩

theorem own_below {w w' : World} {B e g n cap : Nat} {xs : List Value} (h : w.ownsRow B e 1 (.slice (some ⟨g, 0, none⟩) n cap) n xs) (hb : Below w.heap.size w w') : w'.ownsRow B e 1 (.slice (some ⟨g, 0, none⟩) n cap) n xs := by
  refine ⟨h.1, ?_⟩
  rcases h.2 with ⟨h', h0⟩ | ⟨g', cap', cur, h', hB, hg, hr⟩
  · exact .inl ⟨h', h0⟩
  · exact .inr ⟨g', cap', cur, h', hB, (hb.block g' (Array.getElem?_eq_some_iff.1 hg).1).trans hg, hr⟩
theorem fls_own {w : World} {B g n cap : Nat} {L : List Value} {F : Nat → Nat} (hn : n ≤ 1000) (ho : w.ownsRow B 42 1 (.slice (some ⟨g, 0, none⟩) n cap) n L) (hl : FL L n F) : ∃ f, Fls w (.slice (some ⟨g, 0, none⟩) n cap) n f ∧ ∀ k, k < n → Sm .f32 (f k) (F k) := by
  obtain ⟨f, h1, h2⟩ := hl.get
  exact ⟨f, Fls.of_own (by omega) h1 ho, h2⟩

set_option maxRecDepth 100000 in
set_option maxHeartbeats 3200000 in
theorem irow_any (kd n x : Nat) (hk : kd ≤ 4) (hn : n ≤ 16) (w : World) : Calls Try.prog 49 #[.int .i64 kd, .int .i64 n, .float .f32 x] w (VAns (n + 1) (fv kd x) w) := by
  obtain ⟨i0, hi, hz0, hz1, hz2⟩ := info_parts info_f
  have start : Hid ((w.alloc (.cells #[.float .f32 1065353216] 42)).ownsRow w.heap.size 42 1 (.slice (some ⟨w.heap.size, 0, none⟩) 1 1) 1 [.float .f32 1065353216]) := one_own w _
  have startB : Hid (Below w.heap.size w (w.alloc (.cells #[.float .f32 1065353216] 42))) := (Below.refl _ _).alloc (Nat.le_refl _) _
  have startL : Hid (FL [.float .f32 1065353216] 1 (fv kd x)) := FL.one _ rfl
  go_enter Try.func49, Try.ntmps49
  go_wp2_with fail
  go_loopw [7, 12] (fun v i wr => ∃ (j g cap : Nat) (L : List Value), j ≤ n ∧ v = .slice (some ⟨g, 0, none⟩) (j + 1 : Nat) cap ∧ i = .int .i64 j ∧ Hid (wr.ownsRow w.heap.size 42 1 (.slice (some ⟨g, 0, none⟩) (j + 1) cap) (j + 1) L) ∧ Hid (FL L (j + 1) (fv kd x)) ∧ Hid (Below w.heap.size w wr)) (fun _ i _ => n - (RowKit.intOf i).toNat)
  case atStart => exact ⟨0, _, _, _, by omega, rfl, rfl, start, startL, startB⟩
  case round =>
    obtain ⟨j, g, cap, L, hj, rfl, rfl, ho, hl, hbl⟩ := hrel
    by_cases hlt : j < n
    · have HR := Lib.hid (fun w => irule_any kd j hk (by omega) w)
      obtain ⟨y, hy, hys⟩ := hl.out.2 j (by omega)
      have e1 : wr.cell? ⟨g, j, none⟩ = some (.float .f32 y) := (ho.out.cellAt j (by omega)).trans hy
      have HY : Hid (Sm .f32 y (fv kd x j)) := hys
      obtain ⟨f, hf, hfs⟩ := fls_own (by omega) ho.out hl.out
      have HT : Hid (∀ w', Below wr.heap.size wr w' → Calls Try.prog 63 #[.slice (some ⟨g, 0, none⟩) (j + 1) cap, .int .i64 ((j : Int) - 1)] w' fun e w2 => e = .returned (.float .f32 (tm f (j + 1) ((j : Int) - 1))) ∧ w2 = w') := fun w' hb => term_any (hf.below hb) _ (by omega)
      have HZ : Hid (Sm .f32 (tm f (j + 1) ((j : Int) - 1)) (fr kd x j).2) := by
        show Sm _ _ _
        unfold tm
        cases j with
        | zero => rw [if_neg (by omega)]; exact Sm.refl _ _
        | succ i => rw [if_pos (by omega), fr_two, show (((i + 1 : Nat) : Int) - 1).toNat = i by omega]; exact hfs i (by omega)
      obtain ⟨b, hb⟩ : ∃ b, b = tm f (j + 1) ((j : Int) - 1) := ⟨_, rfl⟩
      rw [← hb] at HT HZ
      clear hy hys hf hfs hb
      have HN := Lib.hid (fun w => next_any (ra kd j) (rb kd j) (rc kd j) x y b w)
      unfold RuleI at HR
      have HF : Hid (∀ r, Sm .f32 r (ar .sub .f32 (ar .mul .f32 (ar .add .f32 (ar .mul .f32 (ra kd j) x) (rb kd j)) y) (ar .mul .f32 (rc kd j) b)) → Sm .f32 r (fv kd x (j + 1))) := by
        intro r h
        rw [fv_succ]
        rw [ar_congr (op := .sub) (.inl (ar_congr (Sm.refl _ _) HY.out)) (.inl (ar_congr (Sm.refl _ _) HZ.out))] at h
        exact h
      obtain ⟨A, hA⟩ : ∃ A, A = ra kd j := ⟨_, rfl⟩
      obtain ⟨B, hB⟩ : ∃ B, B = rb kd j := ⟨_, rfl⟩
      obtain ⟨C, hC⟩ : ∃ C, C = rc kd j := ⟨_, rfl⟩
      rw [← hA, ← hB, ← hC] at HR HN HF
      have hgs : Hid (w.heap.size ≤ g ∧ g < wr.heap.size ∧ w.heap.size ≤ wr.heap.size) := ⟨by rcases ho.out.2 with ⟨h', _⟩ | ⟨g', cap', cur, h', hB, _⟩ <;> simp at h' <;> omega, own_lt ho.out, hbl.out.size⟩
      clear hA hB hC HY HZ
      go_wp2_with (first | (go_at_call 63; refine (HT.out _ (Below.refl _ _)).mono ?_; rintro e w' ⟨rfl, hw⟩; rw [hw]; clear hw))
      have HX : Hid (∀ W : World, Below wr.heap.size wr W → W.cell? ⟨g, j, none⟩ = some (.float .f32 y)) := fun W hb => (hb.cell (p := ⟨g, j, none⟩) hgs.out.2.1).trans e1
      have e0 : wr.drew.cell? ⟨g, j, none⟩ = some (.float .f32 y) := e1
      have i1 : (0 : Int) ≤ (j : Int) := by omega
      have i2 : (j : Int) < (j : Int) + 1 := by omega
      go_region_law (first
        | (refine step_append_lies _ rfl (.tmp 19) (.tmp 30) 22 rfl w.heap.size 42 i0 (.float .f32 0) 1 4 Try.underlying22 hi hz0 hz1 hz2 rfl (by decide) (.slice (some ⟨g, 0, none⟩) (j + 1) cap) (j + 1) L (by simp [Act.eval]) (O2.out.alloc (.cells #[.float .f32 r] 42)) ⟨w2.heap.size, 0, none⟩ 1 1 [.float .f32 r] (by simp [Act.eval]) rfl (one_float w2 (.float .f32 r)) (by intro u hu; rw [List.mem_singleton] at hu; subst hu; rfl) (by omega) (by unfold maxLen; omega) (by omega) (by have := A2.out.size; simp; omega) _ rfl ?_; intro g' cap' w3 hown hgrow _ _; have A3 : Hid (Below w.heap.size w w3) := ((A2.out.alloc A2.out.size _).grown hgrow (by have := A2.out.size; simp; omega) (by intro j hj; have hj' : some g = some j := hj; injection hj' with hj'; have := hgs.out; omega)))
        | (go_simp; go_at_call 64; refine (HR.out _).mono ?_; rintro e w1 ⟨rfl, b1⟩; have B1 : Hid (Below wr.heap.size wr w1) := ((Go.Pst.below_draws ⟨1, rfl⟩ : Below wr.heap.size wr (wr.drewN 1)).trans (b1.mono (Nat.le_refl _))); have e2 := HX.out w1 B1.out; clear b1)
        | (go_simp; go_at_call 65; refine (HN.out _).mono ?_; rintro e w2 ⟨r, rfl, hr, b2⟩; have B2 : Hid (Below wr.heap.size wr w2) := (B1.out.trans (b2.mono B1.out.size)); have A2 : Hid (Below w.heap.size w w2) := (hbl.out.trans (B2.out.mono hgs.out.2.2)); have R2 : Hid (Sm .f32 r (fv kd x (j + 1))) := HF.out _ hr; have O2 : Hid (w2.ownsRow w.heap.size 42 1 (.slice (some ⟨g, 0, none⟩) (j + 1) cap) (j + 1) L) := (own_below ho.out B2.out); clear b2 hr))
      all_goals
        have HL : Hid (FL (L ++ [.float .f32 _]) (j + 1 + 1) (fv kd x)) := hl.out.snoc R2.out
        have HO := Lib.hid hown
        clear hown hgrow R2 O2 HX HT HN HR HF
        go_wp2_with fail
        go_roundw
        case rel => exact ⟨j + 1, _, _, _, by omega, rfl, by go_num, HO, HL, A3⟩
        case measure => simp [RowKit.intOf]; omega
    · obtain rfl : j = n := by omega
      go_wp2_with fail
      go_ret
      exact ⟨g, cap, L, rfl, ho.out, hl.out, hbl.out⟩
end Go.Proofs.Ytibpahkjjjhapab.fa
