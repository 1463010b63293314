/- Floats in the walk: every operation on two floats gives the number that IEEE 754 asks for, or some not-a-number; what is the same up to the bits of a not-a-number stays the same. -/
import Derived.Laws.FloatArith
import Derived.Laws.ComplexArith
import Derived.Laws.NewFold
import Derived.Deep.Draws
import Derived.Tactics
import Derived.Tactics2
import Derived.BigFrame
namespace Go.Fl

/-- is a not-a-number -/
def isN (k : FloatKind) (b : Nat) : Bool := (k.decode b).isNaN

/-- the same up to the bits of a not-a-number -/
def Sm (k : FloatKind) (a b : Nat) : Prop := a = b ∨ (isN k a = true ∧ isN k b = true)

theorem Sm.refl (k : FloatKind) (a : Nat) : Sm k a a := .inl rfl
theorem Sm.symm {k : FloatKind} {a b : Nat} (h : Sm k a b) : Sm k b a := by
  rcases h with h | ⟨h, h'⟩
  · exact .inl h.symm
  · exact .inr ⟨h', h⟩
theorem Sm.trans {k : FloatKind} {a b c : Nat} (h : Sm k a b) (g : Sm k b c) : Sm k a c := by
  rcases h with rfl | ⟨h, h'⟩
  · exact g
  · rcases g with rfl | ⟨g, g'⟩
    · exact .inr ⟨h, h'⟩
    · exact .inr ⟨h, g'⟩
theorem Sm.isN {k : FloatKind} {a b : Nat} (h : Sm k a b) : isN k a = isN k b := by
  rcases h with rfl | ⟨h, h'⟩
  · rfl
  · rw [h, h']
theorem Sm.eq_of_not {k : FloatKind} {a b : Nat} (h : Sm k a b) (n : Go.Fl.isN k a = false) : a = b := by
  rcases h with h | ⟨h, _⟩
  · exact h
  · rw [n] at h; cases h

/-- a not-a-number of the kind -/
def qn : FloatKind → Nat
  | .f32 => 2143289344
  | .f64 => 9221120237041090560

theorem qn_isN (k : FloatKind) : isN k (qn k) = true := by cases k <;> decide

/-- an operation's result, one not-a-number for all -/
def ar (op : BinOp) (k : FloatKind) (x y : Nat) : Nat := (floatBits op k x y).getD (qn k)

theorem sum_nan_left {d e : Ieee.Datum} (h : d.isNaN = true) : d.sum e = none := by
  cases d <;> simp [Ieee.Datum.isNaN] at h
  cases e <;> rfl
theorem sum_nan_right {d e : Ieee.Datum} (h : e.isNaN = true) : d.sum e = none := by
  cases e <;> simp [Ieee.Datum.isNaN] at h
  cases d <;> rfl
theorem product_nan_left {d e : Ieee.Datum} (h : d.isNaN = true) : d.product e = none := by
  cases d <;> simp [Ieee.Datum.isNaN] at h
  cases e <;> rfl
theorem product_nan_right {d e : Ieee.Datum} (h : e.isNaN = true) : d.product e = none := by
  cases e <;> simp [Ieee.Datum.isNaN] at h
  cases d <;> rfl
theorem quotient_nan_left {n : Nat} {d e : Ieee.Datum} (h : d.isNaN = true) : d.quotient n e = none := by
  cases d <;> simp [Ieee.Datum.isNaN] at h
  cases e <;> rfl
theorem quotient_nan_right {n : Nat} {d e : Ieee.Datum} (h : e.isNaN = true) : d.quotient n e = none := by
  cases e <;> simp [Ieee.Datum.isNaN] at h
  cases d <;> rfl
theorem order_nan_left {d e : Ieee.Datum} (h : d.isNaN = true) : d.order e = none := by
  cases d <;> simp [Ieee.Datum.isNaN] at h
  cases e <;> rfl
theorem order_nan_right {d e : Ieee.Datum} (h : e.isNaN = true) : d.order e = none := by
  cases e <;> simp [Ieee.Datum.isNaN] at h
  cases d <;> rfl
theorem opposite_isNaN (d : Ieee.Datum) : d.opposite.isNaN = d.isNaN := by cases d <;> rfl

theorem floatBits_nan_left {op : BinOp} {k : FloatKind} {x y : Nat} (h : isN k x = true) : floatBits op k x y = none := by
  have h' : (k.format.read x).isNaN = true := h
  cases op <;> simp only [floatBits, Ieee.Format.add, Ieee.Format.sub, Ieee.Format.mul, Ieee.Format.div]
  · rw [sum_nan_left h']; rfl
  · rw [sum_nan_left h']; rfl
  · rw [product_nan_left h']; rfl
  · rw [quotient_nan_left h']; rfl
theorem floatBits_nan_right {op : BinOp} {k : FloatKind} {x y : Nat} (h : isN k y = true) : floatBits op k x y = none := by
  have h' : (k.format.read y).isNaN = true := h
  cases op <;> simp only [floatBits, Ieee.Format.add, Ieee.Format.sub, Ieee.Format.mul, Ieee.Format.div]
  · rw [sum_nan_right h']; rfl
  · rw [sum_nan_right (by rw [opposite_isNaN]; exact h')]; rfl
  · rw [product_nan_right h']; rfl
  · rw [quotient_nan_right h']; rfl

theorem ar_congr {op : BinOp} {k : FloatKind} {x x' y y' : Nat} (hx : Sm k x x') (hy : Sm k y y') : ar op k x y = ar op k x' y' := by
  unfold ar
  rcases hx with rfl | ⟨h, h'⟩
  · rcases hy with rfl | ⟨h, h'⟩
    · rfl
    · rw [floatBits_nan_right h, floatBits_nan_right h']
  · rw [floatBits_nan_left h, floatBits_nan_left h']

/-- how two floats stand to each other -/
def ord (k : FloatKind) (x y : Nat) : Option Ordering := k.format.order x y
theorem ord_congr {k : FloatKind} {x x' y y' : Nat} (hx : Sm k x x') (hy : Sm k y y') : k.format.order x y = k.format.order x' y' := by
  have l : ∀ {a b : Nat}, isN k a = true → k.format.order a b = none := fun {a b} h => order_nan_left (d := k.format.read a) h
  have r : ∀ {a b : Nat}, isN k b = true → k.format.order a b = none := fun {a b} h => order_nan_right (e := k.format.read b) h
  rcases hx with rfl | ⟨h, h'⟩
  · rcases hy with rfl | ⟨h, h'⟩
    · rfl
    · rw [r h, r h']
  · rw [l h, l h']

theorem cut_nan (k : FloatKind) (q : Question) (t : Nat) (h : (∃ x y, q = .nanBits k x y) ∨ ∃ x, q = .nanConv k x) : isN k (q.cut t) = true := by
  have e32 : isN .f32 ((t % 2) * 2 ^ 31 + 0x7f800000 + 1 + (t / 2) % (2 ^ 23 - 1)) = true := by
    have hs : Ieee.single.signWeight = 2147483648 := by decide
    have hb : Ieee.single.binade = 8388608 := by decide
    have hi : Ieee.single.infRung = 2139095040 := by decide
    have hr : ((t % 2) * 2 ^ 31 + 0x7f800000 + 1 + (t / 2) % (2 ^ 23 - 1)) % 2147483648 = 0x7f800000 + 1 + (t / 2) % (2 ^ 23 - 1) := by omega
    simp only [isN, FloatKind.decode, FloatKind.format, Ieee.Format.read, hs, hb, hi, hr]
    rw [if_neg (by omega), if_neg (by omega), if_neg (by omega)]
    rfl
  have e64 : isN .f64 ((t % 2) * 2 ^ 63 + 0x7ff0000000000000 + 1 + (t / 2) % (2 ^ 52 - 1)) = true := by
    have hs : Ieee.double.signWeight = 9223372036854775808 := by decide
    have hb : Ieee.double.binade = 4503599627370496 := by decide
    have hi : Ieee.double.infRung = 9218868437227405312 := by decide
    have hr : ((t % 2) * 2 ^ 63 + 0x7ff0000000000000 + 1 + (t / 2) % (2 ^ 52 - 1)) % 9223372036854775808 = 0x7ff0000000000000 + 1 + (t / 2) % (2 ^ 52 - 1) := by omega
    simp only [isN, FloatKind.decode, FloatKind.format, Ieee.Format.read, hs, hb, hi, hr]
    rw [if_neg (by omega), if_neg (by omega), if_neg (by omega)]
    rfl
  rcases h with ⟨x, y, rfl⟩ | ⟨x, rfl⟩ <;> cases k
  · exact e32
  · exact e64
  · exact e32
  · exact e64

theorem small_sum {u v M A N : Nat} (hu : u ≤ 1) (hv : v < M) (h : A + N + 1 + M ≤ 2 * A) : u * A + N + 1 + v < 2 * A := by
  have : u * A ≤ 1 * A := Nat.mul_le_mul_right _ hu
  omega
theorem cut_wf (k : FloatKind) (q : Question) (t : Nat) (h : (∃ x y, q = .nanBits k x y) ∨ ∃ x, q = .nanConv k x) : (Lit.float k (q.cut t)).wf = true := by
  refine wf_of_lt k _ ?_
  have h2 : t % 2 ≤ 1 := by omega
  have e32 : (t % 2) * 2 ^ 31 + 0x7f800000 + 1 + (t / 2) % (2 ^ 23 - 1) < 2 * 2 ^ 31 := small_sum h2 (Nat.mod_lt _ (by decide)) (by decide)
  have e64 : (t % 2) * 2 ^ 63 + 0x7ff0000000000000 + 1 + (t / 2) % (2 ^ 52 - 1) < 2 * 2 ^ 63 := small_sum h2 (Nat.mod_lt _ (by decide)) (by decide)
  rcases h with ⟨x, y, rfl⟩ | ⟨x, rfl⟩ <;> cases k
  · exact e32
  · exact e64
  · exact e32
  · exact e64

section
variable {P : Program} (w : World)

/-- '+', '-', '*', '/' of floats, whatever they are. -/
theorem run_ar (op : BinOp) (hop : op = .add ∨ op = .sub ∨ op = .mul ∨ op = .quo) (t : TypeId) (k : FloatKind) (x y : Nat) :
    ∃ r n, (binOp op t (.float k x) (.float k y)).run P w = .ok (.float k r) (w.drewN n) ∧ Sm k r (ar op k x y) ∧ (Lit.float k r).wf = true := by
  cases h : floatBits op k x y with
  | some r => exact ⟨r, 0, run_float_arith w op t k x y r h, .inl (by simp [ar, h]), floatBits_wf h⟩
  | none =>
    refine ⟨(Question.nanBits k x y).cut (w.tape w.drawn (.nanBits k x y)), 1, ?_, .inr ⟨cut_nan k _ _ (.inl ⟨x, y, rfl⟩), by simp [ar, h, qn_isN]⟩, cut_wf k _ _ (.inl ⟨x, y, rfl⟩)⟩
    unfold floatBits at h
    rcases hop with rfl | rfl | rfl | rfl <;> simp only at h <;> simp [binOp, Op.floatArith, h, Question.forced] <;> rfl

/-- a conversion's result, one not-a-number for all -/
def cv (s d : FloatKind) (x : Nat) : Nat := (floatToFloatBits s x d).getD (qn d)

/-- a conversion that the language fixes but for a not-a-number's bits -/
def Fits (s d : FloatKind) (x : Nat) : Prop := isN s x = true ∨ (floatToFloatBits s x d).isSome = true

theorem cv_nan {s d : FloatKind} (hsd : s ≠ d) {x : Nat} (h : isN s x = true) : cv s d x = qn d := by
  unfold cv floatToFloatBits
  rw [if_neg hsd]
  unfold isN at h
  cases hd : s.decode x with
  | nan _ _ => rfl
  | number _ _ _ => rw [hd] at h; cases h
  | infinity _ => rw [hd] at h; cases h

theorem cv_congr {s d : FloatKind} (hsd : s ≠ d) {x x' : Nat} (h : Sm s x x') : cv s d x = cv s d x' := by
  rcases h with rfl | ⟨h, h'⟩
  · rfl
  · rw [cv_nan hsd h, cv_nan hsd h']

theorem conv_wf {s d : FloatKind} (hsd : s ≠ d) {x r : Nat} (h : floatToFloatBits s x d = some r) : (Lit.float d r).wf = true := by
  unfold floatToFloatBits at h
  rw [if_neg hsd] at h
  split at h
  · cases h
  · cases h; exact encode_wf ..
  · split at h
    · cases h
    · cases h; exact encode_wf ..

theorem qn_wf (k : FloatKind) : (Lit.float k (qn k)).wf = true := by cases k <;> decide
theorem ar_wf (op : BinOp) (k : FloatKind) (x y : Nat) : (Lit.float k (ar op k x y)).wf = true := by
  unfold ar
  cases h : floatBits op k x y with
  | some r => exact floatBits_wf h
  | none => exact qn_wf k
theorem cv_wf {s d : FloatKind} (hsd : s ≠ d) (x : Nat) : (Lit.float d (cv s d x)).wf = true := by
  unfold cv
  cases h : floatToFloatBits s x d with
  | some r => exact conv_wf hsd h
  | none => exact qn_wf d

theorem run_cv (src dst : TypeId) (s d : FloatKind) (hsd : s ≠ d) (x : Nat) (hs : (P.underlying src).isSome = true) (hd : P.underlying dst = some (.float d)) (h : Fits s d x) :
    ∃ r n, (convert src dst (.float s x)).run P w = .ok (.float d r) (w.drewN n) ∧ Sm d r (cv s d x) ∧ (Lit.float d r).wf = true := by
  cases hb : floatToFloatBits s x d with
  | some r => exact ⟨r, 0, run_convert_float_float w src dst s d x r hs hd hb, .inl (by simp [cv, hb]), conv_wf hsd hb⟩
  | none =>
    have hn : isN s x = true := by
      rcases h with h | h
      · exact h
      · rw [hb] at h; cases h
    obtain ⟨u, hs'⟩ := Option.isSome_iff_exists.1 hs
    refine ⟨(Question.nanConv d x).cut (w.tape w.drawn (.nanConv d x)), 1, ?_, .inr ⟨cut_nan d _ _ (.inr ⟨x, rfl⟩), by rw [cv_nan hsd hn]; exact qn_isN d⟩, cut_wf d _ _ (.inr ⟨x, rfl⟩)⟩
    unfold isN at hn
    cases hde : s.decode x with
    | number _ _ _ => rw [hde] at hn; cases hn
    | infinity _ => rw [hde] at hn; cases hn
    | nan a b => cases u <;> simp [convert, run_underlying hs', run_underlying hd, Conv.floatToFloat, hsd, hde, Question.forced] <;> rfl

theorem run_cv_same (src dst : TypeId) (s : FloatKind) (x : Nat) (hs : (P.underlying src).isSome = true) (hd : P.underlying dst = some (.float s)) :
    (convert src dst (.float s x)).run P w = .ok (.float s x) w := run_convert_float_float w src dst s s x x hs hd (by simp [floatToFloatBits])
end

section
variable {P : Program} {w : World} {ops : Array Oper} {rest : List Oper} {o : Oper} {a : Act} {Q : Exit → Act → World → Prop}

/-- THE WALK's LAW for an operation on two floats. -/
theorem wpList_ar (hg : o.guard = none) (op : BinOp) (t t' : TypeId) (x y : Operand) (ho : o.op = .binOp op t x y t') (hop : op = .add ∨ op = .sub ∨ op = .mul ∨ op = .quo) (k : FloatKind) (bx b2 : Nat)
    (hx : a.eval x = .float k bx) (hy : a.eval y = .float k b2) (h : ∀ r n, Sm k r (ar op k bx b2) → (Lit.float k r).wf = true → wpList P ops Q rest (a.put o.dst (.float k r)) (w.drewN n)) : wpList P ops Q (o :: rest) a w := by
  refine wpList_plain hg fun K hK' => ?_
  obtain ⟨r, n, hrun, hr, hw⟩ := run_ar (P := P) w op hop t k bx b2
  have hK := hK' _ _ (h r n hr hw)
  unfold Oper.wp
  rcases hop with rfl | rfl | rfl | rfl <;> simpa [execOp, ho, hx, hy, hrun, Result.andThen, eqGuard, Oper.upon_value] using hK

/-- THE WALK's LAW for a conversion of a float. -/
theorem wpList_cv (hg : o.guard = none) (src dst : TypeId) (x : Operand) (ho : o.op = .convert src dst x) (s d : FloatKind) (hsd : s ≠ d) (bx : Nat)
    (hx : a.eval x = .float s bx) (hs : (P.underlying src).isSome = true) (hd : P.underlying dst = some (.float d)) (hf : Fits s d bx)
    (h : ∀ r n, Sm d r (cv s d bx) → (Lit.float d r).wf = true → wpList P ops Q rest (a.put o.dst (.float d r)) (w.drewN n)) : wpList P ops Q (o :: rest) a w := by
  refine wpList_plain hg fun K hK' => ?_
  obtain ⟨r, n, hrun, hr, hw⟩ := run_cv (P := P) w src dst s d hsd bx hs hd hf
  unfold Oper.wp
  simp [execOp, ho, hx, hrun, Result.andThen]
  exact hK' _ _ (h r n hr hw)
/-- THE WALK's LAW for an operation on two floats, under a guard that says yes. -/
theorem wpList_arw (hg : Region.wanted o (yielded ops a.tmps) = true) (op : BinOp) (t t' : TypeId) (x y : Operand) (ho : o.op = .binOp op t x y t') (hop : op = .add ∨ op = .sub ∨ op = .mul ∨ op = .quo) (k : FloatKind) (bx b2 : Nat)
    (hx : a.eval x = .float k bx) (hy : a.eval y = .float k b2) (h : ∀ r n, Sm k r (ar op k bx b2) → (Lit.float k r).wf = true → wpList P ops Q rest (a.put o.dst (.float k r)) (w.drewN n)) : wpList P ops Q (o :: rest) a w := by
  refine BigFrame.wpList_want hg fun K hK' => ?_
  obtain ⟨r, n, hrun, hr, hw⟩ := run_ar (P := P) w op hop t k bx b2
  have hK := hK' _ _ (h r n hr hw)
  unfold Oper.wp
  rcases hop with rfl | rfl | rfl | rfl <;> simpa [execOp, ho, hx, hy, hrun, Result.andThen, eqGuard, Oper.upon_value] using hK

/-- THE WALK's LAW for a conversion of a float, under a guard that says yes. -/
theorem wpList_cvw (hg : Region.wanted o (yielded ops a.tmps) = true) (src dst : TypeId) (x : Operand) (ho : o.op = .convert src dst x) (s d : FloatKind) (hsd : s ≠ d) (bx : Nat)
    (hx : a.eval x = .float s bx) (hs : (P.underlying src).isSome = true) (hd : P.underlying dst = some (.float d)) (hf : Fits s d bx)
    (h : ∀ r n, Sm d r (cv s d bx) → (Lit.float d r).wf = true → wpList P ops Q rest (a.put o.dst (.float d r)) (w.drewN n)) : wpList P ops Q (o :: rest) a w := by
  refine BigFrame.wpList_want hg fun K hK' => ?_
  obtain ⟨r, n, hrun, hr, hw⟩ := run_cv (P := P) w src dst s d hsd bx hs hd hf
  unfold Oper.wp
  simp [execOp, ho, hx, hrun, Result.andThen]
  exact hK' _ _ (h r n hr hw)
end
end Go.Fl
