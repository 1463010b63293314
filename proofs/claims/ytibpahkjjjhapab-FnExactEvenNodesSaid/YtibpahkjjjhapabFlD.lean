/- Bounds on 64-bit words through the operations; roots. -/
import Derived.Test.YtibpahkjjjhapabFlC
import Derived.Test.YtibpahkjjjhapabIeB
namespace Go.Fl
open Ieee Go.Ie

/-- a not-a-number, or at most 2 ^ E -/
def Ok (b : Nat) (E : Int) : Prop := isN .f64 b = true ∨ Le (double.read b) E
/-- a not-a-number, an infinity, or at least 2 ^ E -/
def Gb (b : Nat) (E : Int) : Prop := isN .f64 b = true ∨ (∃ s, double.read b = .infinity s) ∨ Ge (double.read b) E

theorem Ok.mono {b : Nat} {E F : Int} (h : Ok b E) (hE : E ≤ F) : Ok b F := h.imp id (·.mono hE)
theorem Ok.congr {r c : Nat} {E : Int} (h : Ok c E) (hs : Sm .f64 r c) : Ok r E := by
  rcases hs with rfl | ⟨hn, _⟩
  · exact h
  · exact .inl hn
theorem Gb.congr {r c : Nat} {E : Int} (h : Gb c E) (hs : Sm .f64 r c) : Gb r E := by
  rcases hs with rfl | ⟨hn, _⟩
  · exact h
  · exact .inl hn

theorem d_write_Le {d : Datum} {E : Int} (h : Le d E) (hlo : -1021 ≤ E) (hhi : E ≤ 1022) : Le (double.read (double.write d)) E :=
  write_Le double h (by have : double.leastPlace + double.fractionBits + 1 = -1021 := by decide
                        omega) (by have h1 : double.leastPlace = -1074 := by decide
                                   have h2 : ((2 ^ double.exponentBits - 1 : Nat) : Int) = 2047 := by decide
                                   have h3 : (double.fractionBits : Int) = 52 := by decide
                                   omega)
theorem d_write_Ge {d : Datum} {E : Int} (h : Ge d E) (hlo : -1022 ≤ E) : Ge (double.read (double.write d)) E ∨ ∃ s, double.read (double.write d) = .infinity s :=
  write_Ge double h (by have : double.leastPlace + double.fractionBits = -1022 := by decide
                        omega) (by decide)

theorem ar_nan_left {op : BinOp} {k : FloatKind} {x y : Nat} (h : isN k x = true) : isN k (ar op k x y) = true := by
  unfold ar; rw [floatBits_nan_left h]; exact qn_isN k
theorem ar_nan_right {op : BinOp} {k : FloatKind} {x y : Nat} (h : isN k y = true) : isN k (ar op k x y) = true := by
  unfold ar; rw [floatBits_nan_right h]; exact qn_isN k

theorem ok_mul {x y : Nat} {A B E : Int} (hx : Ok x A) (hy : Ok y B) (h : A + B ≤ E) (hlo : -1021 ≤ E) (hhi : E ≤ 1022) : Ok (ar .mul .f64 x y) E := by
  rcases hx with hx | hx
  · exact .inl (ar_nan_left hx)
  rcases hy with hy | hy
  · exact .inl (ar_nan_right hy)
  obtain ⟨r, hr, hL⟩ := product_Le hx hy
  right
  have e : floatBits .mul .f64 x y = some (double.write r) := by
    show double.mul x y = _
    unfold Format.mul
    rw [hr]; rfl
  unfold ar
  rw [e]
  exact d_write_Le (hL.mono h) hlo hhi

theorem ok_add {x y : Nat} {A E : Int} (hx : Ok x A) (hy : Ok y A) (h : A + 1 ≤ E) (hlo : -1021 ≤ E) (hhi : E ≤ 1022) : Ok (ar .add .f64 x y) E := by
  rcases hx with hx | hx
  · exact .inl (ar_nan_left hx)
  rcases hy with hy | hy
  · exact .inl (ar_nan_right hy)
  obtain ⟨r, hr, hL⟩ := sum_Le hx hy
  right
  have e : floatBits .add .f64 x y = some (double.write r) := by
    show double.add x y = _
    unfold Format.add
    rw [hr]; rfl
  unfold ar
  rw [e]
  exact d_write_Le (hL.mono h) hlo hhi

theorem ok_sub {x y : Nat} {A E : Int} (hx : Ok x A) (hy : Ok y A) (h : A + 1 ≤ E) (hlo : -1021 ≤ E) (hhi : E ≤ 1022) : Ok (ar .sub .f64 x y) E := by
  rcases hx with hx | hx
  · exact .inl (ar_nan_left hx)
  rcases hy with hy | hy
  · exact .inl (ar_nan_right hy)
  obtain ⟨r, hr, hL⟩ := sum_Le hx (opposite_Le hy)
  right
  have e : floatBits .sub .f64 x y = some (double.write r) := by
    show double.sub x y = _
    unfold Format.sub
    rw [hr]; rfl
  unfold ar
  rw [e]
  exact d_write_Le (hL.mono h) hlo hhi

theorem ok_div {x y : Nat} {A B E : Int} (hx : Ok x A) (hy : Gb y B) (h : A - B ≤ E) (hlo : -1021 ≤ E) (hhi : E ≤ 1022) : Ok (ar .quo .f64 x y) E := by
  rcases hx with hx | hx
  · exact .inl (ar_nan_left hx)
  rcases hy with hy | ⟨t, hy⟩ | hy
  · exact .inl (ar_nan_right hy)
  · right
    obtain ⟨s, m, i, hd, _⟩ := hx
    have e : floatBits .quo .f64 x y = some (double.write (.number (s ^^ t) 0 0)) := by
      show double.div x y = _
      unfold Format.div
      rw [hd, hy]; rfl
    unfold ar
    rw [e]
    exact d_write_Le ⟨_, _, _, rfl, .inl rfl⟩ hlo hhi
  obtain ⟨r, hr, hL⟩ := quotient_Le (digits := double.fractionBits + 2) hx hy
  right
  have e : floatBits .quo .f64 x y = some (double.write r) := by
    show double.div x y = _
    unfold Format.div
    rw [hr]; rfl
  unfold ar
  rw [e]
  exact d_write_Le (hL.mono h) hlo hhi

/-- constants -/
theorem ok_const {b : Nat} {s : Bool} {m : Nat} {p : Int} (E : Int) (h : double.read b = .number s m p) (hp : p ≤ E) (hm : m ≤ 2 ^ (E - p).toNat) : Ok b E :=
  .inr ⟨s, m, p, h, .inr ⟨hp, hm⟩⟩
theorem gb_const {b : Nat} {s : Bool} {m : Nat} {p : Int} (E : Int) (h : double.read b = .number s m p) (h0 : m ≠ 0) (hE : E ≤ (m.log2 : Int) + p) : Gb b E :=
  .inr (.inr ⟨s, m, p, h, h0, hE⟩)

theorem ok_fits {b : Nat} {E : Int} (h : Ok b E) (hE : E ≤ 126) : Fits .f64 .f32 b := by
  rcases h with h | h
  · exact .inl h
  · exact fits_narrow h.to_Lt (by omega)

/-- widened numbers -/
theorem ok_wide {b : Nat} {s : Bool} {m : Nat} {p : Int} (h : single.read b = .number s m p) : Ok (cv .f32 .f64 b) 129 := .inr (wide_Lt h).to_Le

/- ROOTS -/
/-- the root, one not-a-number for all -/
def sq (b : Nat) : Nat := (double.sqrt b).getD (qn .f64)

theorem root_nan {n : Nat} {d : Datum} (h : d.isNaN = true) : d.root n = none := by
  cases d <;> simp [Datum.isNaN] at h
  rfl
theorem sq_congr {x y : Nat} (h : Sm .f64 x y) : sq x = sq y := by
  rcases h with rfl | ⟨h, h'⟩
  · rfl
  · unfold sq Format.sqrt
    have e1 : (double.read x).isNaN = true := h
    have e2 : (double.read y).isNaN = true := h'
    rw [root_nan e1, root_nan e2]

theorem neg_write (f : Format) (hbi : f.binade ≤ f.infRung) (d : Datum) (h : d.isNaN = false) : (f.read (f.write d)).neg = d.neg := by
  have hb : 0 < f.binade := Nat.two_pow_pos _
  have key : ∀ (s : Bool) (r : Nat), r ≤ f.infRung → (f.read (f.word s r)).neg = s := by
    intro s r hr
    by_cases hlt : r < f.infRung
    · rw [read_word f s r hlt]; split <;> rfl
    · have : r = f.infRung := by omega
      rw [this, read_inf f hbi]; rfl
  cases d with
  | nan s t => cases h
  | infinity s => exact key s _ (Nat.le_refl _)
  | number s m p =>
    show (f.read (f.nearest s m p)).neg = s
    unfold Format.nearest
    split
    · exact key s 0 (by omega)
    · exact key s _ (Nat.min_le_right ..)

theorem ok_sq {x : Nat} {A E : Int} (hx : Ok x A) (h : A / 2 + 2 ≤ E) (hlo : -1021 ≤ E) (hhi : E ≤ 1022) : Ok (sq x) E := by
  rcases hx with hx | hx
  · left
    have e1 : (double.read x).isNaN = true := hx
    unfold sq Format.sqrt; rw [root_nan e1]; rfl
  obtain ⟨s, m, p, hd, hm⟩ := hx
  cases s with
  | true =>
    by_cases h0 : m = 0
    · right
      have e : double.sqrt x = some (double.write (.number true m p)) := by
        unfold Format.sqrt
        rw [hd]
        simp only [Datum.root, h0, if_true]; rfl
      unfold sq
      rw [e]
      exact d_write_Le ⟨_, _, _, rfl, .inl h0⟩ hlo hhi
    · left
      have e : double.sqrt x = none := by
        unfold Format.sqrt
        rw [hd]
        simp [Datum.root, h0]
      unfold sq
      rw [e]; rfl
  | false =>
    have hL : Lt (Datum.number false m p) (A + 1) := Le.to_Lt ⟨_, _, _, rfl, hm⟩
    obtain ⟨r, hr, hr1, hr2⟩ := root_Lt (digits := double.fractionBits + 2) hL rfl
    right
    have e : double.sqrt x = some (double.write r) := by
      unfold Format.sqrt
      rw [hd, hr]; rfl
    unfold sq
    rw [e]
    exact d_write_Le (hr1.to_Le.mono (by omega)) hlo hhi
end Go.Fl
