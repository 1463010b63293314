/- The angle, as the document tells it, on the bits of 64-bit numbers. -/
import Derived.Test.YtibpahkjjjhapabFlZ
namespace Go.Fl
open Ieee Go.Ie

theorem sum_comm (d e : Datum) : d.sum e = e.sum d := by
  cases d with
  | nan s f => cases e <;> rfl
  | infinity s =>
    cases e with
    | nan t f => rfl
    | infinity t => cases s <;> cases t <;> rfl
    | number t n j => rfl
  | number s m i =>
    cases e with
    | nan t f => rfl
    | infinity t => rfl
    | number t n j =>
      unfold Datum.sum
      dsimp only
      rw [Int.min_comm j i, Int.add_comm (signed t n _), Bool.and_comm t s]

theorem ng_add_left {x y : Nat} {B E : Int} {s : Bool} {m n : Nat} {i j : Int} (hdx : double.read x = .number s m i) (hdy : double.read y = .number s n j) (hx : Ng x B) (hx2 : Nm x E) (hy2 : Nm y E) (hB : -1022 ≤ B) (hE : E ≤ 1020) (hE0 : -1021 ≤ E) : Ng (ar .add .f64 x y) B := by
  have h := ng_add hdy hdx hx hy2 hx2 hB hE hE0
  have e : ar .add .f64 x y = ar .add .f64 y x := by
    have : floatBits .add .f64 x y = floatBits .add .f64 y x := by
      show double.add x y = double.add y x
      unfold Format.add
      rw [sum_comm]
    unfold ar; rw [this]
  rw [e]; exact h

theorem neg_of {b : Nat} {s : Bool} {m : Nat} {p : Int} (h : double.read b = .number s m p) : (double.read b).neg = s := by rw [h]; rfl

/-- a product's sign -/
theorem mul_read {x y : Nat} {A B E : Int} {s t : Bool} {m n : Nat} {i j : Int} (hdx : double.read x = .number s m i) (hdy : double.read y = .number t n j) (hx : Nm x A) (hy : Nm y B) (h : A + B ≤ E) (hlo : -1021 ≤ E) (hhi : E ≤ 1022) :
    ∃ k q, double.read (ar .mul .f64 x y) = .number (s ^^ t) k q := by
  obtain ⟨s', k, q, hd, _⟩ := nm_mul hx hy h hlo hhi
  have e : floatBits .mul .f64 x y = some (double.write (.number (s ^^ t) (m * n) (i + j))) := by
    show double.mul x y = _
    unfold Format.mul
    rw [hdx, hdy]; rfl
  have hn := neg_write double (by decide) (.number (s ^^ t) (m * n) (i + j)) rfl
  have e2 : ar .mul .f64 x y = double.write (.number (s ^^ t) (m * n) (i + j)) := by unfold ar; rw [e, Option.getD_some]
  rw [e2] at hd ⊢
  rw [hd] at hn
  have : s' = (s ^^ t) := hn
  exact ⟨k, q, by rw [hd, this]⟩

/-- a sum's sign, of numbers that are not negative -/
theorem add_read {x y : Nat} {E : Int} {m n : Nat} {i j : Int} (hdx : double.read x = .number false m i) (hdy : double.read y = .number false n j) (hx : Nm x E) (hy : Nm y E) (hlo : -1021 ≤ E) (hhi : E ≤ 1020) :
    ∃ k q, double.read (ar .add .f64 x y) = .number false k q := by
  obtain ⟨s', k, q, hd, _⟩ := nm_add hx hy (E := E + 1) (by omega) (by omega) (by omega)
  have hs : ∃ k' q', (Datum.number false m i).sum (Datum.number false n j) = some (.number false k' q') := by
    have hk : (Datum.number false m i).sum (Datum.number false n j) = some (.number (if signed false m (i - min i j).toNat + signed false n (j - min i j).toNat = 0 then (false && false) else decide (signed false m (i - min i j).toNat + signed false n (j - min i j).toNat < 0)) (signed false m (i - min i j).toNat + signed false n (j - min i j).toNat).natAbs (min i j)) := rfl
    have e : ∀ (m k : Nat), signed false m k = ((m <<< k : Nat) : Int) := fun _ _ => rfl
    have hb : (if signed false m (i - min i j).toNat + signed false n (j - min i j).toNat = 0 then (false && false) else decide (signed false m (i - min i j).toNat + signed false n (j - min i j).toNat < 0)) = false := by
      rw [e, e]
      generalize m <<< (i - min i j).toNat = a
      generalize n <<< (j - min i j).toNat = b
      split
      · rfl
      · simp; omega
    rw [hb] at hk
    exact ⟨_, _, hk⟩
  obtain ⟨k', q', hs⟩ := hs
  have e2 : ar .add .f64 x y = double.write (.number false k' q') := by
    have : floatBits .add .f64 x y = some (double.write (.number false k' q')) := by
      show double.add x y = _
      unfold Format.add
      rw [hdx, hdy, hs]; rfl
    unfold ar; rw [this, Option.getD_some]
  have hn := neg_write double (by decide) (.number false k' q') rfl
  rw [e2] at hd ⊢
  rw [hd] at hn
  have : s' = false := hn
  exact ⟨k, q, by rw [hd, this]⟩

/-- a root of what is not negative -/
theorem sq_read {x : Nat} {A E : Int} {m : Nat} {p : Int} (hd : double.read x = .number false m p) (hx : Nm x A) (h : A / 2 + 2 ≤ E) (hlo : -1021 ≤ E) (hhi : E ≤ 1022) :
    double.sqrt x = some (sq x) ∧ Nm (sq x) E ∧ ∃ k q, double.read (sq x) = .number false k q := by
  have hx' : Le (double.read x) A := hx
  rw [hd] at hx'
  obtain ⟨r, hr, hr1, hr2⟩ := root_Lt (digits := double.fractionBits + 2) hx'.to_Lt rfl
  have e : double.sqrt x = some (double.write r) := by
    unfold Format.sqrt
    rw [hd, hr]; rfl
  have e2 : sq x = double.write r := by unfold sq; rw [e, Option.getD_some]
  have hL : Nm (sq x) E := by
    rw [e2]
    exact d_write_Le (hr1.to_Le.mono (by omega)) hlo hhi
  refine ⟨by rw [e2]; exact e, hL, ?_⟩
  obtain ⟨s', k, q, hd', _⟩ := hL
  obtain ⟨_, _, _, hrn, _⟩ := hr1
  have hn := neg_write double (by decide) r (by rw [hrn]; rfl)
  rw [hr2, ← e2, hd'] at hn
  have : s' = false := hn
  exact ⟨k, q, by rw [hd', this]⟩

/-- one halving of the angle -/
def tW (t : Nat) : Nat := ar .add .f64 4607182418800017408 (ar .mul .f64 t t)
def tstep (t : Nat) : Nat := ar .quo .f64 t (ar .add .f64 4607182418800017408 (sq (tW t)))
def tit : Nat → Nat → Nat
  | t, 0 => t
  | t, j + 1 => tstep (tit t j)
/-- the sum's first j terms, from the last one on -/
def lp (u : Nat) : Nat → Nat
  | 0 => 0
  | j + 1 => ar .sub .f64 (ar .quo .f64 4607182418800017408 (floatOfInt .f64 (15 - 2 * (j : Int)))) (ar .mul .f64 u (lp u j))
/-- the angle of a slope -/
def slp (t : Nat) : Nat := ar .quo .f64 (ar .mul .f64 4620693217682128896 (ar .mul .f64 (tit t 3) (lp (ar .mul .f64 (tit t 3) (tit t 3)) 8))) 4618760256179416344

theorem read_one : double.read 4607182418800017408 = .number false 4503599627370496 (-52) := by decide

theorem t_step {t : Nat} (h : Nm t 0) : Nm (ar .mul .f64 t t) 0 ∧ Nm (tW t) 1 ∧ double.sqrt (tW t) = some (sq (tW t)) ∧ Nm (ar .add .f64 4607182418800017408 (sq (tW t))) 3 ∧ Nm (tstep t) 0 := by
  obtain ⟨s, m, p, hd, _⟩ := id h
  have h1 : Nm (ar .mul .f64 t t) 0 := nm_mul h h (by omega) (by omega) (by omega)
  obtain ⟨k, q, hr1⟩ := mul_read hd hd h h (E := 0) (by omega) (by omega) (by omega)
  have hs : (s ^^ s) = false := by cases s <;> rfl
  rw [hs] at hr1
  have h2 : Nm (tW t) 1 := nm_add nm_one h1 (by omega) (by omega) (by omega)
  obtain ⟨k2, q2, hr2⟩ := add_read read_one hr1 nm_one h1 (by omega) (by omega)
  obtain ⟨h3, h4, k3, q3, hr3⟩ := sq_read (x := tW t) hr2 h2 (E := 2) (by omega) (by omega) (by omega)
  have h5 : Nm (ar .add .f64 4607182418800017408 (sq (tW t))) 3 := nm_add (nm_one.mono (by omega)) h4 (by omega) (by omega) (by omega)
  have h6 := ng_add_left read_one hr3 ng_one (nm_one.mono (E := 0) (F := 2) (by omega)) h4 (by omega) (by omega) (by omega)
  exact ⟨h1, h2, h3, h5, nm_div h h6 (by omega) (by omega) (by omega)⟩

theorem nm_tit {t : Nat} (h : Nm t 0) : ∀ j, Nm (tit t j) 0 := by
  intro j
  induction j with
  | zero => exact h
  | succ j ih => exact (t_step ih).2.2.2.2

theorem nm_lp {u : Nat} (hu : Nm u 0) : ∀ j, j ≤ 8 → Nm (lp u j) j := by
  intro j
  induction j with
  | zero => intro _; exact ⟨false, 0, -1074, (by decide : double.read 0 = .number false 0 (-1074)), .inl rfl⟩
  | succ j ih =>
    intro hj
    have h1 := ih (by omega)
    have h2 : Nm (ar .quo .f64 4607182418800017408 (floatOfInt .f64 (15 - 2 * (j : Int)))) 0 := nm_div nm_one (ng_int (by omega) (by omega)) (by omega) (by omega) (by omega)
    have h3 : Nm (ar .mul .f64 u (lp u j)) j := nm_mul hu h1 (by omega) (by omega) (by omega)
    unfold lp
    exact nm_sub (A := j) (h2.mono (by omega)) h3 (by omega) (by omega) (by omega)

theorem nm_eight : Nm 4620693217682128896 3 := nm_const 3 (s := false) (m := 4503599627370496) (p := -49) (by decide) (by decide) (by decide)
theorem ng_2pi : Ng 4618760256179416344 2 := ng_const 2 (s := false) (m := 7074237752028440) (p := -50) (by decide) (by decide) (by decide)
theorem nm_2pi : Nm 4618760256179416344 3 := nm_const 3 (s := false) (m := 7074237752028440) (p := -50) (by decide) (by decide) (by decide)

/-- the operations of a halving -/
theorem tit_ops {P : Program} {t : Nat} (h : Nm t 0) (j : Nat) : ∃ a b : Nat, tit t (j + 1) = ar .quo .f64 (tit t j) b ∧
    (∀ ty w, (binOp .mul ty (.float .f64 (tit t j)) (.float .f64 (tit t j))).run P w = .ok (.float .f64 a) w) ∧
    (∀ ty w, (binOp .add ty (.float .f64 4607182418800017408) (.float .f64 a)).run P w = .ok (.float .f64 (tW (tit t j))) w) ∧
    double.sqrt (tW (tit t j)) = some (sq (tW (tit t j))) ∧
    (∀ ty w, (binOp .add ty (.float .f64 4607182418800017408) (.float .f64 (sq (tW (tit t j))))).run P w = .ok (.float .f64 b) w) ∧
    (∀ ty w, (binOp .quo ty (.float .f64 (tit t j)) (.float .f64 b)).run P w = .ok (.float .f64 (tit t (j + 1))) w) := by
  obtain ⟨h1, h2, h3, h4, h5⟩ := t_step (nm_tit h j)
  exact ⟨_, _, rfl, fun ty w => run_nm h1 ty w, fun ty w => run_nm (op := .add) h2 ty w, h3, fun ty w => run_nm h4 ty w, fun ty w => run_nm (op := .quo) h5 ty w⟩

/-- one term more -/
theorem lp_ops {P : Program} {u : Nat} (hu : Nm u 0) {j : Nat} (hj : j < 8) : ∃ a b : Nat,
    (∀ t w, (binOp .quo t (.float .f64 4607182418800017408) (.float .f64 (floatOfInt .f64 (15 - 2 * (j : Int))))).run P w = .ok (.float .f64 a) w) ∧
    (∀ t w, (binOp .mul t (.float .f64 u) (.float .f64 (lp u j))).run P w = .ok (.float .f64 b) w) ∧
    (∀ t w, (binOp .sub t (.float .f64 a) (.float .f64 b)).run P w = .ok (.float .f64 (lp u (j + 1))) w) := by
  have h1 := nm_lp hu j (by omega)
  have h2 : Nm (ar .quo .f64 4607182418800017408 (floatOfInt .f64 (15 - 2 * (j : Int)))) 0 := nm_div nm_one (ng_int (by omega) (by omega)) (by omega) (by omega) (by omega)
  have h3 : Nm (ar .mul .f64 u (lp u j)) j := nm_mul hu h1 (by omega) (by omega) (by omega)
  have h4 := nm_lp hu (j + 1) (by omega)
  exact ⟨_, _, fun t w => run_nm h2 t w, fun t w => run_nm h3 t w, fun t w => run_nm (op := .sub) h4 t w⟩

/-- the last operations -/
theorem slp_ops {P : Program} {t : Nat} (h : Nm t 0) : ∃ u a b : Nat, Nm u 0 ∧ Nm (slp t) 9 ∧
    (∀ ty w, (binOp .mul ty (.float .f64 (tit t 3)) (.float .f64 (tit t 3))).run P w = .ok (.float .f64 u) w) ∧
    (∀ ty w, (binOp .mul ty (.float .f64 (tit t 3)) (.float .f64 (lp u 8))).run P w = .ok (.float .f64 a) w) ∧
    (∀ ty w, (binOp .mul ty (.float .f64 4620693217682128896) (.float .f64 a)).run P w = .ok (.float .f64 b) w) ∧
    (∀ ty w, (binOp .quo ty (.float .f64 b) (.float .f64 4618760256179416344)).run P w = .ok (.float .f64 (slp t)) w) := by
  have h3 := nm_tit h 3
  have hu : Nm (ar .mul .f64 (tit t 3) (tit t 3)) 0 := nm_mul h3 h3 (by omega) (by omega) (by omega)
  have h8 := nm_lp hu 8 (by omega)
  have ha : Nm (ar .mul .f64 (tit t 3) (lp (ar .mul .f64 (tit t 3) (tit t 3)) 8)) 8 := nm_mul h3 h8 (by omega) (by omega) (by omega)
  have hb : Nm (ar .mul .f64 4620693217682128896 (ar .mul .f64 (tit t 3) (lp (ar .mul .f64 (tit t 3) (tit t 3)) 8))) 11 := nm_mul nm_eight ha (by omega) (by omega) (by omega)
  have hc : Nm (slp t) 9 := nm_div hb ng_2pi (by omega) (by omega) (by omega)
  exact ⟨_, _, _, hu, hc, fun ty w => run_nm hu ty w, fun ty w => run_nm ha ty w, fun ty w => run_nm hb ty w, fun ty w => run_nm (op := .quo) hc ty w⟩
theorem order_wide_zero (b : Nat) : FloatKind.f64.format.order (cv .f32 .f64 b) 0 = FloatKind.f32.format.order b 0 := by
  rw [order_zero .f32 b]
  cases hn : isN .f32 b with
  | true =>
    have h1 : isN .f64 (cv .f32 .f64 b) = true := by rw [wide_isN]; exact hn
    have h2 : FloatKind.f64.format.order (cv .f32 .f64 b) 0 = none := order_nan_left (d := FloatKind.f64.format.read (cv .f32 .f64 b)) h1
    rw [h2]
    have h3 : (FloatKind.f32.format.read b).isNaN = true := hn
    cases hd : FloatKind.f32.format.read b with
    | nan s f => rfl
    | infinity s => rw [hd] at h3; cases h3
    | number s m p => rw [hd] at h3; cases h3
  | false =>
    rw [order_zero .f64]
    rcases read_not_nan hn with ⟨s, m, p, hd⟩ | ⟨s, hd⟩
    · rw [hd]
      by_cases h0 : m = 0
      · subst h0
        obtain ⟨p', hd'⟩ := wide_zero hd
        have hd'' : FloatKind.f64.format.read (cv .f32 .f64 b) = _ := hd'
        rw [hd'']
      · cases s with
        | true =>
          obtain ⟨m', p', hd', h0'⟩ := wide_neg hd h0
          have hd'' : FloatKind.f64.format.read (cv .f32 .f64 b) = _ := hd'
          rw [hd'']; simp [h0, h0']
        | false =>
          obtain ⟨⟨m', p', hd', h0', _⟩, _⟩ := wide_pos hd h0
          have hd'' : FloatKind.f64.format.read (cv .f32 .f64 b) = _ := hd'
          rw [hd'']; simp [h0, h0']
    · have hd'' : FloatKind.f64.format.read (cv .f32 .f64 b) = _ := wide_inf hd
      rw [hd, hd'']

/-- the opposite keeps the bound -/
theorem nm_neg {a : Nat} {E : Int} (h : Nm a E) : Nm (Op.negFloat .f64 a) E := by
  have e : absN (Op.negFloat .f64 a) = absN a := by
    show (a ^^^ 2 ^ 63) % 9223372036854775808 = a % 9223372036854775808
    have : (9223372036854775808 : Nat) = 2 ^ 63 := by decide
    rw [this, Nat.xor_mod_two_pow]
    have h2 : 2 ^ 63 % 2 ^ 63 = 0 := by decide
    rw [h2, Nat.xor_zero]
  have key : ∀ b, Le (absD (double.read b)) E ↔ Le (double.read b) E := by
    intro b
    cases double.read b with
    | nan s f => constructor <;> (rintro ⟨_, _, _, h, _⟩; cases h)
    | infinity s => constructor <;> (rintro ⟨_, _, _, h, _⟩; cases h)
    | number s m p =>
      constructor
      · rintro ⟨_, _, _, h, h'⟩; cases h; exact ⟨_, _, _, rfl, h'⟩
      · rintro ⟨_, _, _, h, h'⟩; cases h; exact ⟨_, _, _, rfl, h'⟩
  have h1 : Le (double.read a) E := h
  show Le (double.read (Op.negFloat .f64 a)) E
  rw [← key, ← read_abs] at h1 ⊢
  rw [e]; exact h1

/-- taken from itself, a number gives 0 -/
theorem sub_self_num {k : FloatKind} {b : Nat} {s : Bool} {m : Nat} {p : Int} (hd : k.format.read b = .number s m p) : floatBits .sub k b b = some 0 := by
  show k.format.sub b b = some 0
  unfold Format.sub
  rw [hd]
  have ht : signed s m (p - min p p).toNat + signed (!s) m (p - min p p).toNat = 0 := by
    unfold signed
    cases s <;> simp <;> omega
  have : (Datum.number s m p).sum (Datum.number s m p).opposite = some (.number false 0 (min p p)) := by
    simp only [Datum.sum, Datum.opposite, ht]
    cases s <;> rfl
  rw [this]
  cases k <;> rfl
theorem sub_self_not {k : FloatKind} {b r : Nat} (h : ∀ s m p, k.format.read b ≠ .number s m p) (hr : Sm k r (ar .sub k b b)) : k.format.order r 0 = none := by
  have h1 := mt (sub_self (k := k) (b := b)).1 (by rintro ⟨s, m, p, hd⟩; exact h s m p hd)
  have h2 : isN k (ar .sub k b b) = true := by
    cases hd : k.format.read b with
    | number s m p => exact absurd hd (h s m p)
    | nan s f =>
      have : isN k b = true := by show (k.format.read b).isNaN = true; rw [hd]; rfl
      exact ar_nan_left this
    | infinity s =>
      have : floatBits .sub k b b = none := by
        show k.format.sub b b = none
        unfold Format.sub
        rw [hd]
        cases s <;> rfl
      unfold ar; rw [this]; exact qn_isN k
  have h3 : isN k r = true := by rw [hr.isN]; exact h2
  exact order_nan_left (d := k.format.read r) h3

/-- the slope, at most 1 -/
def slope (st : Bool) (a b : Nat) : Nat := if st then ar .quo .f64 b a else ar .quo .f64 a b

theorem quo_le_one {a b : Nat} {m n : Nat} {i j : Int} (ha : double.read a = .number false m i) (hb : double.read b = .number false n j) (hn : n ≠ 0) (ho : (double.read a).order (double.read b) ≠ some .gt) : Nm (ar .quo .f64 a b) 0 := by
  rw [ha, hb] at ho
  have hle : m <<< (i - min i j).toNat ≤ n <<< (j - min i j).toNat := by
    have e : ∀ (m k : Nat), signed false m k = ((m <<< k : Nat) : Int) := fun _ _ => rfl
    simp only [Datum.order, e] at ho
    generalize m <<< (i - min i j).toNat = x at *
    generalize n <<< (j - min i j).toNat = y at *
    rcases cmp_cases (x : Int) (y : Int) with ⟨_, h⟩ | ⟨_, h⟩ | ⟨h, _⟩
    · omega
    · omega
    · rw [h] at ho; exact absurd rfl ho
  obtain ⟨r, hr, hL⟩ := quotient_one (digits := double.fractionBits + 2) (s := false) (t := false) hn hle
  have e : floatBits .quo .f64 a b = some (double.write r) := by
    show double.div a b = _
    unfold Format.div
    rw [ha, hb, hr]; rfl
  unfold Nm ar
  rw [e, Option.getD_some]
  exact d_write_Le hL (by omega) (by omega)

theorem order_swap {d e : Datum} (h : d.order e = some .gt) : e.order d ≠ some .gt := by
  cases d with
  | nan s f => cases e <;> cases h
  | infinity s =>
    cases e with
    | nan t f => cases h
    | infinity t => cases s <;> cases t <;> simp [Datum.order, compare, compareOfLessAndEq] at h ⊢
    | number t n j => cases s <;> simp [Datum.order] at h ⊢
  | number s m i =>
    cases e with
    | nan t f => cases h
    | infinity t => cases t <;> simp [Datum.order] at h ⊢
    | number t n j =>
      simp only [Datum.order] at h ⊢
      rw [Int.min_comm j i]
      rcases cmp_cases (signed s m (i - min i j).toNat) (signed t n (j - min i j).toNat) with ⟨h1, h2⟩ | ⟨h1, h2⟩ | ⟨h1, h2⟩
      · rw [h1] at h; cases h
      · rw [h1] at h; cases h
      · rcases cmp_cases (signed t n (j - min i j).toNat) (signed s m (i - min i j).toNat) with ⟨h3, h4⟩ | ⟨h3, h4⟩ | ⟨h3, h4⟩
        · rw [h3]; simp
        · rw [h3]; simp
        · omega

/-- of two numbers that are not both 0: their absolute values' slope -/
theorem nm_slope {y x : Nat} {s t : Bool} {m n : Nat} {i j : Int} (hy : double.read y = .number s m i) (hx : double.read x = .number t n j) (h0 : m ≠ 0 ∨ n ≠ 0) :
    Nm (slope (FloatKind.f64.format.order (absN y) (absN x) == some .gt) (absN y) (absN x)) 0 := by
  have ha : double.read (absN y) = .number false m i := by rw [read_abs, hy]; rfl
  have hb : double.read (absN x) = .number false n j := by rw [read_abs, hx]; rfl
  have e : FloatKind.f64.format.order (absN y) (absN x) = (double.read (absN y)).order (double.read (absN x)) := rfl
  rw [e]
  by_cases ho : (double.read (absN y)).order (double.read (absN x)) = some .gt
  · rw [ho]
    have hm : m ≠ 0 := by
      intro hm
      subst hm
      have hn : n ≠ 0 := by omega
      rw [ha, hb] at ho
      have e : ∀ (m k : Nat), signed false m k = ((m <<< k : Nat) : Int) := fun _ _ => rfl
      simp only [Datum.order, e, Option.some.injEq] at ho
      have hz : (0 : Nat) <<< (i - min i j).toNat = 0 := by simp
      rw [hz] at ho
      rcases cmp_cases ((0 : Nat) : Int) ((n <<< (j - min i j).toNat : Nat) : Int) with ⟨h1, h2⟩ | ⟨h1, h2⟩ | ⟨h1, h2⟩
      · rw [h1] at ho; cases ho
      · rw [h1] at ho; cases ho
      · generalize n <<< (j - min i j).toNat = z at *; omega
    exact quo_le_one hb ha hm (order_swap ho)
  · have hf : ((double.read (absN y)).order (double.read (absN x)) == some .gt) = false := by simpa using ho
    rw [hf]
    have hn : n ≠ 0 := by
      intro hn
      subst hn
      have hm : m ≠ 0 := by omega
      refine ho ?_
      rw [ha, hb]
      have e : ∀ (m k : Nat), signed false m k = ((m <<< k : Nat) : Int) := fun _ _ => rfl
      simp only [Datum.order, e]
      have hz : (0 : Nat) <<< (j - min i j).toNat = 0 := by simp
      rw [hz]
      have hpos : m <<< (i - min i j).toNat ≠ 0 := by rw [Nat.shiftLeft_eq]; exact Nat.mul_ne_zero hm (by have := Nat.two_pow_pos (i - min i j).toNat; omega)
      generalize m <<< (i - min i j).toNat = z at *
      rcases cmp_cases (z : Int) ((0 : Nat) : Int) with ⟨h1, h2⟩ | ⟨h1, h2⟩ | ⟨h1, h2⟩
      · omega
      · omega
      · rw [h1]
    exact quo_le_one ha hb hn ho

def a2f (st : Bool) (a : Nat) : Nat := if st then ar .sub .f64 4598175219545276416 a else a
def a3f (b : Bool) (a : Nat) : Nat := if b then ar .sub .f64 4602678819172646912 a else a
def a4f (b : Bool) (a : Nat) : Nat := if b then Op.negFloat .f64 a else a
/-- THE ANGLE of the point with the coordinates x and y, which are numbers and not both 0 -/
def angF (y x : Nat) : Nat :=
  let st := FloatKind.f64.format.order (absN y) (absN x) == some .gt
  a4f (FloatKind.f64.format.order y 0 == some .lt) (a3f (FloatKind.f64.format.order x 0 == some .lt) (a2f st (slp (slope st (absN y) (absN x)))))

theorem nm_q25 : Nm 4598175219545276416 0 := nm_const 0 (s := false) (m := 4503599627370496) (p := -54) (by decide) (by decide) (by decide)
theorem nm_q5 : Nm 4602678819172646912 0 := nm_const 0 (s := false) (m := 4503599627370496) (p := -53) (by decide) (by decide) (by decide)
theorem nm_slp {t : Nat} (h : Nm t 0) : Nm (slp t) 9 := (slp_ops (P := default) h).choose_spec.choose_spec.choose_spec.2.1
theorem nm_a2 {t : Nat} (h : Nm t 0) (st : Bool) : Nm (ar .sub .f64 4598175219545276416 (slp t)) 10 ∧ Nm (a2f st (slp t)) 10 := by
  have h1 := nm_slp h
  have h2 : Nm (ar .sub .f64 4598175219545276416 (slp t)) 10 := nm_sub (nm_q25.mono (by omega)) h1 (by omega) (by omega) (by omega)
  exact ⟨h2, by cases st; exact h1.mono (by omega); exact h2⟩
theorem nm_a3 {a : Nat} (h : Nm a 10) (b : Bool) : Nm (ar .sub .f64 4602678819172646912 a) 11 ∧ Nm (a3f b a) 11 := by
  have h2 : Nm (ar .sub .f64 4602678819172646912 a) 11 := nm_sub (nm_q5.mono (by omega)) h (by omega) (by omega) (by omega)
  exact ⟨h2, by cases b; exact h.mono (by omega); exact h2⟩
theorem nm_a4 {a : Nat} (h : Nm a 11) (b : Bool) : Nm (a4f b a) 11 := by
  cases b
  · exact h
  · exact nm_neg h
end Go.Fl
