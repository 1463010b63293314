/- DotNumbers and its model return the same of any two lists, not-a-numbers too. -/
import Derived.Test.YtclogbnecgfndaaSumNumbersW
import Derived.RegionTactic
namespace Go.Proofs.Ytclogbnecgfndaa.fnExactDotNumbersW
open Go.RowKit Go.Fl Go.Proofs.Ytclogbnecgfndaa.sameFloat Go.Proofs.Ytclogbnecgfndaa.fls Go.Proofs.Ytclogbnecgfndaa.fnExactSumNumbersW

/-- the sum of the first k products, from left to right -/
def dt (f g : Nat → Nat) : Nat → Nat
  | 0 => 0
  | k + 1 => ar .add .f32 (dt f g k) (ar .mul .f32 (f k) (g k))

/-- what an operation gives in a world -/
def rv (op : BinOp) (k : FloatKind) (x y : Nat) (w : World) : Nat := match floatBits op k x y with
  | some r => r
  | none => (Question.nanBits k x y).cut (w.tape w.drawn (.nanBits k x y))
def rn (op : BinOp) (k : FloatKind) (x y : Nat) : Nat := match floatBits op k x y with
  | some _ => 0
  | none => 1
theorem rv_sm (op : BinOp) (k : FloatKind) (x y : Nat) (w : World) : Sm k (rv op k x y w) (ar op k x y) := by
  unfold rv ar
  cases h : floatBits op k x y with
  | some r => exact .inl rfl
  | none => exact .inr ⟨cut_nan k _ _ (.inl ⟨x, y, rfl⟩), qn_isN k⟩
theorem run_rv {P : Program} (op : BinOp) (hop : op = .add ∨ op = .sub ∨ op = .mul ∨ op = .quo) (k : FloatKind) (x y : Nat) (t : TypeId) (w : World) :
    (binOp op t (.float k x) (.float k y)).run P w = .ok (.float k (rv op k x y w)) (w.drewN (rn op k x y)) := by
  unfold rv rn
  cases h : floatBits op k x y with
  | some r => exact run_float_arith w op t k x y r h
  | none =>
    unfold floatBits at h
    rcases hop with rfl | rfl | rfl | rfl <;> simp only at h <;> simp [binOp, Op.floatArith, h, Question.forced] <;> rfl

def DotPost (f : Nat → Nat) (n : Nat) (g : Nat → Nat) (m : Nat) (w : World) (e : Ending) (w' : World) : Prop :=
  ∃ r b q, e = .returned (.tuple #[.float .f32 r, .bool b]) ∧ w' = w.drewN q ∧ b = decide (n = m ∧ n ≤ 256) ∧ Sm .f32 r (if n = m ∧ n ≤ 256 then dt f g n else 0)

theorem pairs_any (n m : Nat) (w : World) (hn : n ≤ 9223372036854775807) (hm : m ≤ 9223372036854775807) : Calls Try.prog 104 #[.int .i64 n, .int .i64 m] w fun e w' => e = .returned (.bool (decide (n = m ∧ n ≤ 256))) ∧ w = w' := by
  by_cases h : n = m
  · subst h
    by_cases h2 : n ≤ 256
    all_goals
      go_enter Try.func104, Try.ntmps104
      go_wp2
      go_ret
      exact ⟨by simp [h2]; omega, rfl⟩
  · have h2 : ¬ (n : Int) = m := by omega
    go_enter Try.func104, Try.ntmps104
    go_wp2
    go_ret
    exact ⟨by simp [h], rfl⟩

theorem impl_any {v u : Value} {n m : Nat} {f g : Nat → Nat} {w : World} (h : Fls w v n f) (h' : Fls w u m g) : Calls Try.prog 54 #[v, u] w (DotPost f n g m w) := by
  obtain ⟨ao, cap, rfl, hn, hc⟩ := h
  obtain ⟨bo, cap1, rfl, hml, hd⟩ := h'
  have hc' : Hid (n ≠ 0 → ∃ b off, ao = some ⟨b, off, none⟩ ∧ b < w.heap.size ∧ ∀ k, k < n → w.cell? ⟨b, off + k, none⟩ = some (.float .f32 (f k))) := hc
  have hd' : Hid (m ≠ 0 → ∃ b off, bo = some ⟨b, off, none⟩ ∧ b < w.heap.size ∧ ∀ k, k < m → w.cell? ⟨b, off + k, none⟩ = some (.float .f32 (g k))) := hd
  clear hc hd
  have hp := fun w => pairs_any n m w hn hml
  by_cases h256 : n = m ∧ n ≤ 256
  · have e0 : decide (n = m ∧ n ≤ 256) = true := decide_eq_true h256
    rw [e0] at hp
    obtain ⟨rfl, h256'⟩ := h256
    go_enter Try.func54, Try.ntmps54
    go_wp2_with (first | (go_at_call 104; refine (hp _).mono ?_; rintro e w' ⟨rfl, rfl⟩))
    clear hp e0
    go_loopw [6, 17] (fun s i wr => ∃ (k r : Nat), k ≤ n ∧ i = .int .i64 k ∧ s = .float .f32 r ∧ Hid (Sm .f32 r (dt f g k)) ∧ Hid (∃ m, wr = w.drewN m)) (fun _ i _ => n - (intOf i).toNat)
    case atStart => exact ⟨0, 0, by omega, rfl, rfl, .inl rfl, 0, rfl⟩
    case round =>
      obtain ⟨k, r, hk, rfl, rfl, hs, hm⟩ := hrel
      by_cases hlt : k < n
      · obtain ⟨b, off, rfl, _, hcell⟩ := hc'.out (by omega)
        obtain ⟨b', off', rfl, _, hcell'⟩ := hd'.out (by omega)
        have e1 : wr.cell? ⟨b, off + k, none⟩ = some (.float .f32 (f k)) := by obtain ⟨m, rfl⟩ := hm.out; exact hcell k hlt
        have e2 : wr.cell? ⟨b', off' + k, none⟩ = some (.float .f32 (g k)) := by obtain ⟨m, rfl⟩ := hm.out; exact hcell' k hlt
        clear hcell hcell'
        have next : ∀ q, Hid (∃ m, wr.drewN q = w.drewN m) := fun q => by obtain ⟨m, rfl⟩ := hm.out; exact ⟨m + q, World.drewN_drewN _ _ _⟩
        clear hm
        go_wp2_with (first | (refine wpList_ar rfl .mul 41 41 _ _ rfl (by simp) .f32 _ _ rfl rfl ?_; intro p q1 hp hwp) | (refine wpList_ar rfl .add 41 41 _ _ rfl (by simp) .f32 _ _ rfl rfl ?_; intro s q2 hm hwm))
        have HS : Hid (Sm .f32 s (dt f g (k + 1))) := by
          show Sm _ _ _
          rw [ar_congr (op := .add) hs.out hp] at hm
          exact hm
        clear hm hs hp
        go_wp2
        go_roundw
        case rel => exact ⟨k + 1, s, by omega, by go_num, rfl, HS, next _⟩
        case measure => simp [intOf]; omega
      · obtain rfl : k = n := by omega
        obtain ⟨m, rfl⟩ := hm.out
        go_wp2
        go_ret2
        exact ⟨_, _, _, rfl, rfl, by simp [h256'], by rw [if_pos ⟨rfl, h256'⟩]; exact hs.out⟩
  · have e0 : decide (n = m ∧ n ≤ 256) = false := by simp only [h256, decide_false]
    rw [e0] at hp
    go_enter Try.func54, Try.ntmps54
    go_wp2_with (first | (go_at_call 104; refine (hp _).mono ?_; rintro e w' ⟨rfl, rfl⟩))
    go_ret2
    exact ⟨_, _, 0, rfl, rfl, by rw [e0], by rw [if_neg h256]; exact Sm.refl _ _⟩

theorem l01_any {v u : Value} {n : Nat} {f g : Nat → Nat} {w : World} (h : Fls w v n f) (h' : Fls w u n g) : Calls Try.prog 103 #[v, u] w fun e w' => ∃ r m, e = .returned (.float .f32 r) ∧ w' = w.drewN m ∧ Sm .f32 r (dt f g n) := by
  obtain ⟨ao, cap, rfl, hn, hc⟩ := h
  obtain ⟨bo, cap1, rfl, _, hd⟩ := h'
  have hc' : Hid (n ≠ 0 → ∃ b off, ao = some ⟨b, off, none⟩ ∧ b < w.heap.size ∧ ∀ k, k < n → w.cell? ⟨b, off + k, none⟩ = some (.float .f32 (f k))) := hc
  have hd' : Hid (n ≠ 0 → ∃ b off, bo = some ⟨b, off, none⟩ ∧ b < w.heap.size ∧ ∀ k, k < n → w.cell? ⟨b, off + k, none⟩ = some (.float .f32 (g k))) := hd
  clear hc hd
  go_enter Try.func103, Try.ntmps103
  go_wp2
  go_loopw [5, 6] (fun s i wr => ∃ (k r : Nat), k ≤ n ∧ i = .int .i64 k ∧ s = .float .f32 r ∧ Hid (Sm .f32 r (dt f g k)) ∧ Hid (∃ m, wr = w.drewN m)) (fun _ i _ => n - (intOf i).toNat)
  case atStart => exact ⟨0, 0, by omega, rfl, rfl, .inl rfl, 0, rfl⟩
  case round =>
    obtain ⟨k, r, hk, rfl, rfl, hs, hm⟩ := hrel
    by_cases hlt : k < n
    · obtain ⟨b, off, rfl, _, hcell⟩ := hc'.out (by omega)
      obtain ⟨b', off', rfl, _, hcell'⟩ := hd'.out (by omega)
      have e1 : wr.cell? ⟨b, off + k, none⟩ = some (.float .f32 (f k)) := by obtain ⟨m, rfl⟩ := hm.out; exact hcell k hlt
      have e2 : wr.cell? ⟨b', off' + k, none⟩ = some (.float .f32 (g k)) := by obtain ⟨m, rfl⟩ := hm.out; exact hcell' k hlt
      clear hcell hcell'
      have next : ∀ q, Hid (∃ m, wr.drewN q = w.drewN m) := fun q => by obtain ⟨m, rfl⟩ := hm.out; exact ⟨m + q, World.drewN_drewN _ _ _⟩
      clear hm
      have HM : Hid (∀ w, Sm .f32 (rv .mul .f32 (f k) (g k) w) (ar .mul .f32 (f k) (g k))) := fun w => rv_sm ..
      have HA : Hid (∀ z w, Sm .f32 (rv .add .f32 r z w) (ar .add .f32 r z)) := fun z w => rv_sm ..
      have m1 := fun t w => run_rv (P := Try.prog) .mul (by simp) .f32 (f k) (g k) t w
      have a1 := fun z t w => run_rv (P := Try.prog) .add (by simp) .f32 r z t w
      have HS : Hid (∀ w1 w2, Hid (Sm .f32 (rv .add .f32 r (rv .mul .f32 (f k) (g k) w1) w2) (dt f g (k + 1)))) := fun w1 w2 => by
        show Sm _ _ _
        have h1 := HA.out (rv .mul .f32 (f k) (g k) w1) w2
        rw [ar_congr (op := .add) hs.out (HM.out w1)] at h1
        exact h1
      clear HM HA hs
      generalize rv .mul .f32 (f k) (g k) = M at *
      generalize rv .add .f32 r = R at *
      generalize rn .mul .f32 (f k) (g k) = qm at *
      generalize rn .add .f32 r = qa at *
      go_wp2
      go_region
      all_goals
        go_wp2
        go_roundw
        case rel => exact ⟨k + 1, _, by omega, by go_num, rfl, HS.out _ _, next _⟩
        case measure => simp [intOf]; omega
    · obtain rfl : k = n := by omega
      obtain ⟨m, rfl⟩ := hm.out
      go_wp2
      go_ret
      exact ⟨_, _, rfl, rfl, hs.out⟩

theorem spec_any {v u : Value} {n m : Nat} {f g : Nat → Nat} {w : World} (h : Fls w v n f) (h' : Fls w u m g) : Calls Try.prog 53 #[v, u] w (DotPost f n g m w) := by
  obtain ⟨ao, cap, rfl, hn, _⟩ := id h
  obtain ⟨bo, cap1, rfl, hml, _⟩ := id h'
  by_cases h256 : n ≤ 256
  · by_cases hnm : n = m
    · subst hnm
      have hl := l01_any h h'
      clear h h'
      go_enter Try.func53, Try.ntmps53
      go_wp2_with (first | (go_at_call 101; refine (few_yes _ _ _ h256 _).mono ?_; rintro e w' ⟨rfl, rfl⟩) | (go_at_call 103; refine hl.mono ?_; rintro e w' ⟨r, m, rfl, rfl, hr⟩))
      go_ret2
      exact ⟨_, _, _, rfl, rfl, by simp [h256], by rw [if_pos ⟨rfl, h256⟩]; assumption⟩
    · clear h h'
      have hne : ¬ (n : Int) = m := by omega
      go_enter Try.func53, Try.ntmps53
      go_wp2_with (first | (go_at_call 101; refine (few_yes _ _ _ h256 _).mono ?_; rintro e w' ⟨rfl, rfl⟩))
      go_ret2
      exact ⟨_, _, 0, rfl, rfl, by simp [hnm], by rw [if_neg (by simp [hnm])]; exact Sm.refl _ _⟩
  · clear h h'
    go_enter Try.func53, Try.ntmps53
    go_wp2_with (first | (go_at_call 101; refine (few_no _ _ _ h256 _).mono ?_; rintro e w' ⟨rfl, rfl⟩))
    go_ret2
    exact ⟨_, _, 0, rfl, rfl, by simp [h256], by rw [if_neg (by simp [h256])]; exact Sm.refl _ _⟩

/-- both lists lie in a world that has nothing turned below another one -/
def Both (w0 w : World) (a b : Value) (n m : Nat) (f g : Nat → Nat) : Prop := Fls w a n f ∧ Fls w b m g ∧ Below w0.heap.size w0 w
theorem Both.on {w0 w w' : World} {a b : Value} {n m : Nat} {f g : Nat → Nat} (h : Both w0 w a b n m f g) (hb : Below w.heap.size w w') : Both w0 w' a b n m f g :=
  ⟨h.1.below hb, h.2.1.below hb, h.2.2.trans (hb.mono h.2.2.size)⟩
theorem Both.draws {w0 w : World} {a b : Value} {n m : Nat} {f g : Nat → Nat} (h : Both w0 w a b n m f g) (q : Nat) : Both w0 (w.drewN q) a b n m f g := h.on (Go.Pst.below_draws ⟨q, rfl⟩)

set_option maxRecDepth 100000 in
theorem walk (va vb : Value) (w : World) (h : ∃ n f, Fls w va n f) (h' : ∃ n f, Fls w vb n f) :
    Calls Try.prog 7 #[va, vb] w fun e w' => e = .returned (.bool true) ∧ Below w.heap.size w w' := by
  obtain ⟨n, f, h⟩ := h
  obtain ⟨m, g, h'⟩ := h'
  have huf : (Try.prog.underlying 41).isSome = true := by rw [Try.underlying41]; rfl
  obtain ⟨ao, cap, rfl, hn, _⟩ := id h
  obtain ⟨bo, cap1, rfl, hml, _⟩ := id h'
  by_cases hlen : n ≤ 1048576
  · by_cases hlen' : m ≤ 1048576
    · have A0 : Hid (Both w w (.slice ao n cap) (.slice bo m cap1) n m f g) := ⟨h, h', Below.refl _ _⟩
      clear h h'
      go_enter Try.func7, Try.ntmps7
      go_wp2_with fail
      refine (to_any A0.out.1 hlen).mono ?_
      rintro e w1 ⟨v1, rfl, h1, b1⟩
      have H1 : Hid (Fls w1 v1 n f) := h1
      have A1 : Hid (Both w w1 (.slice ao n cap) (.slice bo m cap1) n m f g) := A0.out.on b1
      clear h1 b1 A0
      go_wp2_with fail
      refine (to_any A1.out.2.1 hlen').mono ?_
      rintro e w2 ⟨v2, rfl, h2, b2⟩
      have H2 : Hid (Fls w2 v2 m g) := h2
      have H12 : Hid (Fls w2 v1 n f) := H1.out.below b2
      have A2 : Hid (Both w w2 (.slice ao n cap) (.slice bo m cap1) n m f g) := A1.out.on b2
      clear h2 b2 A1 H1
      go_wp2_with fail
      refine (spec_any H12.out H2.out).mono ?_
      rintro e w' ⟨r1, o1, m1, rfl, rfl, ho1, hr1⟩
      have O1 : Hid (o1 = decide (n = m ∧ n ≤ 256)) := ho1
      have R1 : Hid (Sm .f32 r1 (if n = m ∧ n ≤ 256 then dt f g n else 0)) := hr1
      have A3 : Hid (Both w (w2.drewN m1) (.slice ao n cap) (.slice bo m cap1) n m f g) := A2.out.draws m1
      clear ho1 hr1 H2 H12 A2
      generalize w2.drewN m1 = w3 at *
      go_wp2_with fail
      refine (to_any A3.out.1 hlen).mono ?_
      rintro e w4 ⟨v4, rfl, h4, b4⟩
      have H4 : Hid (Fls w4 v4 n f) := h4
      have A4 : Hid (Both w w4 (.slice ao n cap) (.slice bo m cap1) n m f g) := A3.out.on b4
      clear h4 b4 A3
      go_wp2_with fail
      refine (to_any A4.out.2.1 hlen').mono ?_
      rintro e w5 ⟨v5, rfl, h5, b5⟩
      have C5 : Hid (Both w4 w5 v4 v5 n m f g) := ⟨H4.out.below b5, h5, b5⟩
      have A5 : Hid (Both w w5 (.slice ao n cap) (.slice bo m cap1) n m f g) := A4.out.on b5
      clear h5 b5 A4 H4
      go_wp2_with fail
      refine (impl_any C5.out.1 C5.out.2.1).mono ?_
      rintro e w' ⟨r2, o2, m2, rfl, rfl, ho2, hr2⟩
      have hoo : o2 = o1 := by rw [ho2, O1.out]
      have HR : Hid (Sm .f32 r2 r1) := hr2.trans R1.out.symm
      clear ho2 hr2 O1 R1
      subst hoo
      have KA : ∀ q, Hid (Both w ((w5.drewN m2).drewN q) (.slice ao n cap) (.slice bo m cap1) n m f g) := fun q => (A5.out.draws m2).draws q
      have KC : ∀ q, Hid (Both w4 ((w5.drewN m2).drewN q) v4 v5 n m f g) := fun q => (C5.out.draws m2).draws q
      clear A5 C5
      generalize w5.drewN m2 = w6 at *
      have hxy : ∀ x y, Sm .f64 x (cv .f32 .f64 r2) → Sm .f64 y (cv .f32 .f64 r1) → Sm .f64 x y := fun x y h h' => by
        rw [cv_congr (by decide) HR.out] at h
        exact h.trans h'.symm
      go_wp2_with (first | (refine wpList_cv rfl 41 38 _ rfl .f32 .f64 (by decide) _ rfl huf Try.underlying38 (fits_wide _) ?_; intro x q hr hw) | (go_at_call 51; refine (same_any _ _ (hxy _ _ (by assumption) (by assumption)) _).mono ?_; rintro e w' ⟨rfl, q, rfl⟩))
      refine (to_any (KA _).out.1 hlen).mono ?_
      rintro e w7 ⟨v7, rfl, h7, b7⟩
      have H7 : Hid (Fls w7 v7 n f) := h7
      have A7 : Hid (Both w w7 (.slice ao n cap) (.slice bo m cap1) n m f g) := (KA _).out.on b7
      have C7 : Hid (Both w4 w7 v4 v5 n m f g) := (KC _).out.on b7
      clear h7 b7 KA KC hxy HR
      go_wp2_with fail
      refine (eq_any C7.out.1 H7.out).mono ?_
      rintro e w' ⟨rfl, q7, rfl⟩
      have A8 : Hid (Both w (w7.drewN q7) (.slice ao n cap) (.slice bo m cap1) n m f g) := A7.out.draws q7
      have C8 : Hid (Both w4 (w7.drewN q7) v4 v5 n m f g) := C7.out.draws q7
      clear A7 C7 H7
      generalize w7.drewN q7 = w8 at *
      go_wp2_with fail
      refine (to_any A8.out.2.1 hlen').mono ?_
      rintro e w9 ⟨v9, rfl, h9, b9⟩
      have H9 : Hid (Fls w9 v9 m g) := h9
      have A9 : Hid (Both w w9 (.slice ao n cap) (.slice bo m cap1) n m f g) := A8.out.on b9
      have C9 : Hid (Both w4 w9 v4 v5 n m f g) := C8.out.on b9
      clear h9 b9 A8 C8
      go_wp2_with fail
      refine (eq_any C9.out.2.1 H9.out).mono ?_
      rintro e w' ⟨rfl, q9, rfl⟩
      go_wp2_with fail
      go_ret
      exact ⟨rfl, Go.Pst.below_drewN A9.out.2.2 _⟩
    · clear h h'
      go_enter Try.func7, Try.ntmps7
      go_wp2
      go_ret
      exact ⟨rfl, Go.Pst.below_draws ⟨0, rfl⟩⟩
  · clear h h'
    go_enter Try.func7, Try.ntmps7
    go_wp2
    go_ret
    exact ⟨rfl, Go.Pst.below_draws ⟨0, rfl⟩⟩
end Go.Proofs.Ytclogbnecgfndaa.fnExactDotNumbersW
