/- The logarithm, as the document tells it, on the bits of 64-bit numbers. -/
import Derived.Test.YtibpahkjjjhapabFlE
namespace Go.Fl
open Ieee Go.Ie

/-- a number greater than 0, from 2 ^ L on and less than its double -/
def Pos (y : Nat) (L : Int) : Prop := ∃ m p, double.read y = .number false m p ∧ m ≠ 0 ∧ (m.log2 : Int) + p = L

theorem Pos.isN {y : Nat} {L : Int} (h : Pos y L) : isN .f64 y = false := by
  obtain ⟨m, p, hd, _⟩ := h
  show (double.read y).isNaN = false
  rw [hd]; rfl

def halfOf (y : Nat) : Nat := ar .quo .f64 y 4611686018427387904
def dblOf (y : Nat) : Nat := ar .mul .f64 y 4611686018427387904

theorem pos_half {y : Nat} {L : Int} (h : Pos y L) (hlo : -1021 ≤ L) (hhi : L ≤ 1023) : floatBits .quo .f64 y 4611686018427387904 = some (halfOf y) ∧ Pos (halfOf y) (L - 1) := by
  obtain ⟨m, p, hd, h0, hL⟩ := h
  have hl := double_log2 hd h0
  obtain ⟨h1, h2⟩ := half_exact hd h0 (by omega) (by omega)
  refine ⟨h1, _, _, h2, ?_, ?_⟩
  · rw [Nat.shiftLeft_eq]; exact Nat.mul_ne_zero h0 (by have := Nat.two_pow_pos (52 - m.log2); omega)
  · rw [log2_shl h0]; omega
theorem pos_dbl {y : Nat} {L : Int} (h : Pos y L) (hlo : -1023 ≤ L) (hhi : L ≤ 1022) : floatBits .mul .f64 y 4611686018427387904 = some (dblOf y) ∧ Pos (dblOf y) (L + 1) := by
  obtain ⟨m, p, hd, h0, hL⟩ := h
  have hl := double_log2 hd h0
  obtain ⟨h1, h2⟩ := double_exact hd h0 (by omega) (by omega)
  refine ⟨h1, _, _, h2, ?_, ?_⟩
  · rw [Nat.shiftLeft_eq]; exact Nat.mul_ne_zero h0 (by have := Nat.two_pow_pos (52 - m.log2); omega)
  · rw [log2_shl h0]; omega

theorem cmp_cases (a b : Int) : (compare a b = .lt ∧ a < b) ∨ (compare a b = .eq ∧ a = b) ∨ (compare a b = .gt ∧ b < a) := by
  unfold compare instOrdInt compareOfLessAndEq
  dsimp only
  split
  · rename_i h; exact .inl ⟨rfl, h⟩
  · split
    · rename_i h; exact .inr (.inl ⟨rfl, h⟩)
    · rename_i h1 h2; exact .inr (.inr ⟨rfl, by omega⟩)

/-- against a constant whose places are known -/
theorem pos_order {y c M : Nat} {L P : Int} (h : Pos y L) (hc : double.read c = .number false M P) (hM : M ≠ 0) :
    (FloatKind.f64.format.order y c = some .lt ∧ L ≤ (M.log2 : Int) + P) ∨ ((FloatKind.f64.format.order y c = some .eq ∨ FloatKind.f64.format.order y c = some .gt) ∧ (M.log2 : Int) + P ≤ L) := by
  obtain ⟨m, p, hd, h0, hL⟩ := h
  have ho : FloatKind.f64.format.order y c = some (compare (signed false m (p - min p P).toNat) (signed false M (P - min p P).toNat)) := by
    show (double.read y).order (double.read c) = _
    rw [hd, hc]; rfl
  have e : ∀ (m k : Nat), signed false m k = ((m <<< k : Nat) : Int) := fun _ _ => rfl
  rw [ho, e, e]
  have h1 : (m <<< (p - min p P).toNat).log2 = m.log2 + (p - min p P).toNat := log2_shl h0
  have h2 : (M <<< (P - min p P).toNat).log2 = M.log2 + (P - min p P).toNat := log2_shl hM
  have n1 : m <<< (p - min p P).toNat ≠ 0 := by rw [Nat.shiftLeft_eq]; exact Nat.mul_ne_zero h0 (by have := Nat.two_pow_pos (p - min p P).toNat; omega)
  have n2 : M <<< (P - min p P).toNat ≠ 0 := by rw [Nat.shiftLeft_eq]; exact Nat.mul_ne_zero hM (by have := Nat.two_pow_pos (P - min p P).toNat; omega)
  generalize m <<< (p - min p P).toNat = A at *
  generalize M <<< (P - min p P).toNat = B at *
  rcases cmp_cases (A : Int) (B : Int) with ⟨hc, h⟩ | ⟨hc, h⟩ | ⟨hc, h⟩
  · have := log2_le' n1 (show A ≤ B by omega)
    exact .inl ⟨by rw [hc], by omega⟩
  · have := log2_le' n2 (show B ≤ A by omega)
    exact .inr ⟨.inl (by rw [hc]), by omega⟩
  · have := log2_le' n2 (show B ≤ A by omega)
    exact .inr ⟨.inr (by rw [hc]), by omega⟩

theorem pos_15 {y : Nat} {L : Int} (h : Pos y L) : (FloatKind.f64.format.order y 4609434218613702656 = some .lt ∧ L ≤ 0) ∨ ((FloatKind.f64.format.order y 4609434218613702656 = some .eq ∨ FloatKind.f64.format.order y 4609434218613702656 = some .gt) ∧ 0 ≤ L) := by
  have hc : double.read 4609434218613702656 = .number false 6755399441055744 (-52) := by decide
  have := pos_order h hc (by decide)
  have e : ((6755399441055744 : Nat).log2 : Int) + -52 = 0 := by decide
  rw [e] at this
  exact this
theorem pos_075 {y : Nat} {L : Int} (h : Pos y L) : (FloatKind.f64.format.order y 4604930618986332160 = some .lt ∧ L ≤ -1) ∨ ((FloatKind.f64.format.order y 4604930618986332160 = some .eq ∨ FloatKind.f64.format.order y 4604930618986332160 = some .gt) ∧ -1 ≤ L) := by
  have hc : double.read 4604930618986332160 = .number false 6755399441055744 (-53) := by decide
  have := pos_order h hc (by decide)
  have e : ((6755399441055744 : Nat).log2 : Int) + -53 = -1 := by decide
  rw [e] at this
  exact this

def lt15 (y : Nat) : Bool := FloatKind.f64.format.order y 4609434218613702656 == some .lt
def lt075 (y : Nat) : Bool := FloatKind.f64.format.order y 4604930618986332160 == some .lt

/-- halved until it is less than 1.5 -/
def red1 : Nat → Nat → Int → Nat × Int
  | 0, y, e => (y, e)
  | f + 1, y, e => if lt15 y then (y, e) else red1 f (halfOf y) (e + 1)
/-- doubled until it is at least 0.75 -/
def red2 : Nat → Nat → Int → Nat × Int
  | 0, y, e => (y, e)
  | f + 1, y, e => if lt075 y then red2 f (dblOf y) (e - 1) else (y, e)

theorem red1_stop (f : Nat) {y : Nat} {e : Int} (h : lt15 y = true) : red1 f y e = (y, e) := by
  cases f with
  | zero => rfl
  | succ f => simp [red1, h]
theorem red2_stop (f : Nat) {y : Nat} {e : Int} (h : lt075 y = false) : red2 f y e = (y, e) := by
  cases f with
  | zero => rfl
  | succ f => simp [red2, h]

theorem red1_go (f : Nat) {y : Nat} {e : Int} (h : lt15 y = false) : red1 (f + 1) y e = red1 f (halfOf y) (e + 1) := by
  simp [red1, h]
theorem red2_go (f : Nat) {y : Nat} {e : Int} (h : lt075 y = true) : red2 (f + 1) y e = red2 f (dblOf y) (e - 1) := by
  simp [red2, h]

/-- the sum's first j terms, from the last one on -/
def lq (u : Nat) : Nat → Nat
  | 0 => 0
  | j + 1 => ar .add .f64 (ar .quo .f64 4607182418800017408 (floatOfInt .f64 (25 - 2 * (j : Int)))) (ar .mul .f64 u (lq u j))
theorem lq_congr {u u' : Nat} (h : Sm .f64 u u') : ∀ j, lq u j = lq u' j := by
  intro j
  induction j with
  | zero => rfl
  | succ j ih => unfold lq; rw [ih, ar_congr (op := .mul) h (Sm.refl _ _)]

def lgS (y : Nat) : Nat := ar .quo .f64 (ar .sub .f64 y 4607182418800017408) (ar .add .f64 y 4607182418800017408)
def lgU (y : Nat) : Nat := ar .mul .f64 (lgS y) (lgS y)
/-- the logarithm, with the number reduced and how often it was halved -/
def lgF (y : Nat) (e : Int) : Nat := ar .add .f64 (ar .mul .f64 4611686018427387904 (ar .mul .f64 (lgS y) (lq (lgU y) 13))) (ar .mul .f64 (floatOfInt .f64 e) 4604418534313441775)

/-- THE LOGARITHM -/
def lgW (y : Nat) : Nat := lgF (red2 1200 (red1 1200 y 0).1 (red1 1200 y 0).2).1 (red2 1200 (red1 1200 y 0).1 (red1 1200 y 0).2).2

theorem nm_one : Nm 4607182418800017408 0 := nm_const 0 (s := false) (m := 4503599627370496) (p := -52) (by decide) (by decide) (by decide)
theorem ng_one : Ng 4607182418800017408 0 := ng_const 0 (s := false) (m := 4503599627370496) (p := -52) (by decide) (by decide) (by decide)
theorem nm_two : Nm 4611686018427387904 1 := nm_const 1 (s := false) (m := 4503599627370496) (p := -51) (by decide) (by decide) (by decide)
theorem nm_ln2 : Nm 4604418534313441775 0 := nm_const 0 (s := false) (m := 6243314768165359) (p := -53) (by decide) (by decide) (by decide)

theorem Pos.nm {y : Nat} {L E : Int} (h : Pos y L) (hE : L < E) : Nm y E := by
  obtain ⟨m, p, hd, h0, hL⟩ := h
  have : Lt (double.read y) E := ⟨_, _, _, hd, .inr (by omega)⟩
  exact this.to_Le

theorem nm_lq {u : Nat} (hu : Nm u 2) : ∀ j, j ≤ 13 → Nm (lq u j) (3 * j) := by
  intro j
  induction j with
  | zero => intro _; exact ⟨false, 0, -1074, (by decide : double.read 0 = .number false 0 (-1074)), .inl rfl⟩
  | succ j ih =>
    intro hj
    have h1 := ih (by omega)
    have h2 : Nm (ar .quo .f64 4607182418800017408 (floatOfInt .f64 (25 - 2 * (j : Int)))) 0 := nm_div nm_one (ng_int (by omega) (by omega)) (by omega) (by omega) (by omega)
    have h3 : Nm (ar .mul .f64 u (lq u j)) (2 + 3 * j) := nm_mul hu h1 (by omega) (by omega) (by omega)
    unfold lq
    exact nm_add (A := 2 + 3 * j) (h2.mono (by omega)) h3 (by omega) (by omega) (by omega)

theorem nm_lgS {y : Nat} {L : Int} (h : Pos y L) (hL : L ≤ 0) : Nm (lgS y) 1 := by
  have hy : Nm y 1 := h.nm (by omega)
  obtain ⟨m, p, hd, h0, hl⟩ := h
  have h1 : double.read 4607182418800017408 = .number false 4503599627370496 (-52) := by decide
  exact nm_div (A := 1) (B := 0) (nm_sub_opp hd h1 hy (nm_one.mono (by omega)) (by omega) (by omega)) (ng_add hd h1 ng_one hy (nm_one.mono (by omega)) (by omega) (by omega) (by omega)) (by omega) (by omega) (by omega)

theorem nm_lgF {y : Nat} {L e : Int} (h : Pos y L) (hL : L ≤ 0) (he : e.natAbs ≤ 1200) : Nm (lgF y e) 45 := by
  have h1 := nm_lgS h hL
  have h2 : Nm (lgU y) 2 := nm_mul h1 h1 (by omega) (by omega) (by omega)
  have h3 := nm_lq h2 13 (by omega)
  have h4 : Nm (ar .mul .f64 (lgS y) (lq (lgU y) 13)) 40 := nm_mul h1 h3 (by omega) (by omega) (by omega)
  have h5 : Nm (ar .mul .f64 4611686018427387904 (ar .mul .f64 (lgS y) (lq (lgU y) 13))) 44 := nm_mul nm_two h4 (by omega) (by omega) (by omega)
  have h6 : Nm (floatOfInt .f64 e) 11 := nm_int (by have : (2 : Nat) ^ (11 : Int).toNat = 2048 := by decide
                                                    omega) (by omega) (by omega)
  have h7 : Nm (ar .mul .f64 (floatOfInt .f64 e) 4604418534313441775) 44 := nm_mul h6 nm_ln2 (by omega) (by omega) (by omega)
  exact nm_add h5 h7 (by omega) (by omega) (by omega)

theorem lt15_not {y : Nat} (h : FloatKind.f64.format.order y 4609434218613702656 = some .eq ∨ FloatKind.f64.format.order y 4609434218613702656 = some .gt) : lt15 y = false := by
  unfold lt15
  rcases h with h | h <;> rw [h] <;> rfl
theorem lt075_not {y : Nat} (h : FloatKind.f64.format.order y 4604930618986332160 = some .eq ∨ FloatKind.f64.format.order y 4604930618986332160 = some .gt) : lt075 y = false := by
  unfold lt075
  rcases h with h | h <;> rw [h] <;> rfl

theorem red1_pos : ∀ (f : Nat) (y : Nat) (e L : Int), Pos y L → L ≤ 1000 → -1000 ≤ L → L + 1 ≤ f → ∃ y' e' L', red1 f y e = (y', e') ∧ Pos y' L' ∧ L' ≤ 0 ∧ e' + L' = e + L ∧ L' ≤ L ∧ (L' = L ∨ -1 ≤ L') := by
  intro f
  induction f with
  | zero =>
    intro y e L h h1 h2 h3
    exact ⟨y, e, L, rfl, h, by omega, rfl, by omega, .inl rfl⟩
  | succ f ih =>
    intro y e L h h1 h2 h3
    rcases pos_15 h with ⟨ho, hL⟩ | ⟨ho, hL⟩
    · exact ⟨y, e, L, red1_stop _ (by unfold lt15; rw [ho]; rfl), h, hL, rfl, by omega, .inl rfl⟩
    · obtain ⟨_, hp⟩ := pos_half h (by omega) (by omega)
      obtain ⟨y', e', L', hr, hp', a, b, c, d⟩ := ih (halfOf y) (e + 1) (L - 1) hp (by omega) (by omega) (by omega)
      refine ⟨y', e', L', ?_, hp', a, by omega, by omega, by omega⟩
      rw [← hr]
      simp [red1, lt15_not ho]

theorem red2_pos : ∀ (f : Nat) (y : Nat) (e L : Int), Pos y L → L ≤ 0 → -1000 ≤ L → -L ≤ f → ∃ y' e' L', red2 f y e = (y', e') ∧ Pos y' L' ∧ L' ≤ 0 ∧ e' + L' = e + L ∧ L ≤ L' ∧ -1 ≤ L' := by
  intro f
  induction f with
  | zero =>
    intro y e L h h1 h2 h3
    exact ⟨y, e, L, rfl, h, by omega, rfl, by omega, by omega⟩
  | succ f ih =>
    intro y e L h h1 h2 h3
    rcases pos_075 h with ⟨ho, hL⟩ | ⟨ho, hL⟩
    · obtain ⟨_, hp⟩ := pos_dbl h (by omega) (by omega)
      obtain ⟨y', e', L', hr, hp', a, b, c, d⟩ := ih (dblOf y) (e - 1) (L + 1) hp (by omega) (by omega) (by omega)
      refine ⟨y', e', L', ?_, hp', a, by omega, by omega, by omega⟩
      rw [← hr]
      have : lt075 y = true := by unfold lt075; rw [ho]; rfl
      simp [red2, this]
    · exact ⟨y, e, L, red2_stop _ (lt075_not ho), h, h1, rfl, by omega, hL⟩

theorem nm_lgW {y : Nat} {L : Int} (h : Pos y L) (h1 : L ≤ 1000) (h2 : -1000 ≤ L) : Nm (lgW y) 45 := by
  obtain ⟨y1, e1, L1, hr1, hp1, a1, b1, c1, d1⟩ := red1_pos 1200 y 0 L h h1 h2 (by omega)
  obtain ⟨y2, e2, L2, hr2, hp2, a2, b2, c2, d2⟩ := red2_pos 1200 y1 e1 L1 hp1 a1 (by omega) (by omega)
  unfold lgW
  rw [hr1]
  show Nm (lgF (red2 1200 y1 e1).1 (red2 1200 y1 e1).2) 45
  rw [hr2]
  exact nm_lgF hp2 a2 (by omega)
theorem some_of_nm {op : BinOp} {x y : Nat} {E : Int} (h : Nm (ar op .f64 x y) E) : floatBits op .f64 x y = some (ar op .f64 x y) := by
  cases hb : floatBits op .f64 x y with
  | some r => unfold ar; rw [hb, Option.getD_some]
  | none =>
    have hn := h.isN
    unfold ar at hn
    rw [hb, Option.getD_none, qn_isN] at hn
    cases hn

theorem run_nm {P : Program} {op : BinOp} {x y : Nat} {E : Int} (h : Nm (ar op .f64 x y) E) (t : TypeId) (w : World) : (binOp op t (.float .f64 x) (.float .f64 y)).run P w = .ok (.float .f64 (ar op .f64 x y)) w :=
  run_float_arith w op t .f64 x y _ (some_of_nm h)

/-- one term more of the sum: what the three operations give -/
theorem lq_step {P : Program} {u : Nat} (hu : Nm u 2) {j : Nat} (hj : j < 13) : ∃ a b : Nat,
    (∀ t w, (binOp .quo t (.float .f64 4607182418800017408) (.float .f64 (floatOfInt .f64 (25 - 2 * (j : Int))))).run P w = .ok (.float .f64 a) w) ∧
    (∀ t w, (binOp .mul t (.float .f64 u) (.float .f64 (lq u j))).run P w = .ok (.float .f64 b) w) ∧
    (∀ t w, (binOp .add t (.float .f64 a) (.float .f64 b)).run P w = .ok (.float .f64 (lq u (j + 1))) w) := by
  have h1 := nm_lq hu j (by omega)
  have h2 : Nm (ar .quo .f64 4607182418800017408 (floatOfInt .f64 (25 - 2 * (j : Int)))) 0 := nm_div nm_one (ng_int (by omega) (by omega)) (by omega) (by omega) (by omega)
  have h3 : Nm (ar .mul .f64 u (lq u j)) (2 + 3 * j) := nm_mul hu h1 (by omega) (by omega) (by omega)
  have h4 := nm_lq hu (j + 1) (by omega)
  exact ⟨_, _, fun t w => run_nm h2 t w, fun t w => run_nm h3 t w, fun t w => run_nm (op := .add) h4 t w⟩

/-- the reduced number's quotient and its square -/
theorem su_step {P : Program} {y : Nat} {L : Int} (h : Pos y L) (hL : L ≤ 0) : ∃ a b s u : Nat, Nm u 2 ∧ s = lgS y ∧ u = lgU y ∧
    (∀ t w, (binOp .sub t (.float .f64 y) (.float .f64 4607182418800017408)).run P w = .ok (.float .f64 a) w) ∧
    (∀ t w, (binOp .add t (.float .f64 y) (.float .f64 4607182418800017408)).run P w = .ok (.float .f64 b) w) ∧
    (∀ t w, (binOp .quo t (.float .f64 a) (.float .f64 b)).run P w = .ok (.float .f64 s) w) ∧
    (∀ t w, (binOp .mul t (.float .f64 s) (.float .f64 s)).run P w = .ok (.float .f64 u) w) := by
  have hS := nm_lgS h hL
  have hU : Nm (lgU y) 2 := nm_mul hS hS (by omega) (by omega) (by omega)
  have hy : Nm y 1 := h.nm (by omega)
  have hsub : Nm (ar .sub .f64 y 4607182418800017408) 2 := nm_sub hy (nm_one.mono (by omega)) (by omega) (by omega) (by omega)
  have hadd : Nm (ar .add .f64 y 4607182418800017408) 2 := nm_add hy (nm_one.mono (by omega)) (by omega) (by omega) (by omega)
  exact ⟨_, _, _, _, hU, rfl, rfl, fun t w => run_nm hsub t w, fun t w => run_nm hadd t w, fun t w => run_nm (op := .quo) hS t w, fun t w => run_nm (op := .mul) hU t w⟩

/-- the last operations -/
theorem fin_step {P : Program} {y : Nat} {L e : Int} (h : Pos y L) (hL : L ≤ 0) (he : e.natAbs ≤ 1200) : ∃ a b c : Nat,
    (∀ t w, (binOp .mul t (.float .f64 (lgS y)) (.float .f64 (lq (lgU y) 13))).run P w = .ok (.float .f64 a) w) ∧
    (∀ t w, (binOp .mul t (.float .f64 4611686018427387904) (.float .f64 a)).run P w = .ok (.float .f64 b) w) ∧
    (∀ t w, (binOp .mul t (.float .f64 (floatOfInt .f64 e)) (.float .f64 4604418534313441775)).run P w = .ok (.float .f64 c) w) ∧
    (∀ t w, (binOp .add t (.float .f64 b) (.float .f64 c)).run P w = .ok (.float .f64 (lgF y e)) w) := by
  have h1 := nm_lgS h hL
  have h2 : Nm (lgU y) 2 := nm_mul h1 h1 (by omega) (by omega) (by omega)
  have h3 := nm_lq h2 13 (by omega)
  have h4 : Nm (ar .mul .f64 (lgS y) (lq (lgU y) 13)) 40 := nm_mul h1 h3 (by omega) (by omega) (by omega)
  have h5 : Nm (ar .mul .f64 4611686018427387904 (ar .mul .f64 (lgS y) (lq (lgU y) 13))) 44 := nm_mul nm_two h4 (by omega) (by omega) (by omega)
  have h6 : Nm (floatOfInt .f64 e) 11 := nm_int (by have : (2 : Nat) ^ (11 : Int).toNat = 2048 := by decide
                                                    omega) (by omega) (by omega)
  have h7 : Nm (ar .mul .f64 (floatOfInt .f64 e) 4604418534313441775) 44 := nm_mul h6 nm_ln2 (by omega) (by omega) (by omega)
  have h8 := nm_lgF h hL he
  exact ⟨_, _, _, fun t w => run_nm h4 t w, fun t w => run_nm h5 t w, fun t w => run_nm h7 t w, fun t w => run_nm (op := .add) h8 t w⟩

theorem lgW_of {y0 y1 y2 : Nat} {e1 e2 : Int} (h1 : red1 1200 y0 0 = (y1, e1)) (h2 : red2 1200 y1 e1 = (y2, e2)) : lgW y0 = lgF y2 e2 := by
  unfold lgW
  rw [h1]
  show lgF (red2 1200 y1 e1).1 (red2 1200 y1 e1).2 = _
  rw [h2]
end Go.Fl
