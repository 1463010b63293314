/- Tenths of decibels, reckoned on what the words stand for. -/
import Derived.Test.YtclogbnecgfndabFast
import Derived.Test.YtclogbnecgfndabFlF
namespace Go.Fq
open Ieee Go.Ie Go.Fl

/-- rounded to 64 bits -/
def fr (d : Datum) : Option Datum := frnd 52 (-1074) 1022 d
theorem fr_ok {d d' : Datum} (h : fr d = some d') : double.read (double.write d) = d' := frnd_ok double 1022 (by decide) (by decide) (by decide) h

theorem op_of {op : BinOp} {x y : Nat} {o : Option Datum} {dz : Datum} (h : floatBits op .f64 x y = o.map double.write) (hz : o.bind fr = some dz) : double.read (ar op .f64 x y) = dz := by
  unfold ar
  rw [h]
  cases o with
  | none => cases hz
  | some d => exact fr_ok hz

def mulF (a b : Datum) : Option Datum := (a.product b).bind fr
def addF (a b : Datum) : Option Datum := (a.sum b).bind fr
def subF (a b : Datum) : Option Datum := (a.sum b.opposite).bind fr
def divF (a b : Datum) : Option Datum := (a.quotient 54 b).bind fr
theorem mul_ok {x y : Nat} {a b c : Datum} (hx : double.read x = a) (hy : double.read y = b) (h : mulF a b = some c) : double.read (ar .mul .f64 x y) = c :=
  op_of (o := a.product b) (by subst hx hy; rfl) h
theorem add_ok {x y : Nat} {a b c : Datum} (hx : double.read x = a) (hy : double.read y = b) (h : addF a b = some c) : double.read (ar .add .f64 x y) = c :=
  op_of (o := a.sum b) (by subst hx hy; rfl) h
theorem sub_ok {x y : Nat} {a b c : Datum} (hx : double.read x = a) (hy : double.read y = b) (h : subF a b = some c) : double.read (ar .sub .f64 x y) = c :=
  op_of (o := a.sum b.opposite) (by subst hx hy; rfl) h
theorem div_ok {x y : Nat} {a b c : Datum} (hx : double.read x = a) (hy : double.read y = b) (h : divF a b = some c) : double.read (ar .quo .f64 x y) = c :=
  op_of (o := a.quotient 54 b) (by subst hx hy; rfl) h

def nD : Datum := .number false 0 0
def oneD : Datum := .number false 4503599627370496 (-52)
def twoD : Datum := .number false 4503599627370496 (-51)
def ln2D : Datum := .number false 6243314768165359 (-53)
def c43D : Datum := .number false 6112151458964211 (-47)
def halfD : Datum := .number false 4503599627370496 (-53)
/-- the reciprocals of 25, 23, .., 1 -/
def cDs : List Datum := [.number false 5764607523034235 (-57), .number false 6265877742428516 (-57), .number false 6862628003612184 (-57), .number false 7585009898729256 (-57), .number false 8477364004462110 (-57), .number false 4803839602528529 (-56), .number false 5542891849071380 (-56), .number false 6550690367084358 (-56), .number false 8006399337547548 (-56), .number false 5146971002709138 (-55), .number false 7205759403792794 (-55), .number false 6004799503160661 (-54), .number false 4503599627370496 (-52)]
def cD (j : Nat) : Datum := cDs.getD j nD
theorem cD_ok : ∀ j : Fin 13, double.read (ar .quo .f64 4607182418800017408 (floatOfInt .f64 (25 - 2 * (j.val : Int)))) = cD j.val := by decide +kernel

/-- the sum's first j terms -/
def lqF (u : Datum) : Nat → Option Datum
  | 0 => some (.number false 0 (-1074))
  | j + 1 => (lqF u j).bind fun q => (mulF u q).bind fun v => addF (cD j) v
theorem bind_some {α β : Type} {o : Option α} {f : α → Option β} {b : β} (h : o.bind f = some b) : ∃ a, o = some a ∧ f a = some b := Option.bind_eq_some_iff.1 h
theorem lqF_ok {u : Nat} {du : Datum} (hu : double.read u = du) : ∀ (j : Nat) (q : Datum), j ≤ 13 → lqF du j = some q → double.read (lq u j) = q := by
  intro j
  induction j with
  | zero =>
    intro q _ h
    injection h with h
    rw [← h]
    exact (by decide : double.read 0 = .number false 0 (-1074))
  | succ j ih =>
    intro q hj h
    obtain ⟨a, ha, h⟩ := bind_some h
    obtain ⟨v, hv, h⟩ := bind_some h
    exact add_ok (cD_ok ⟨j, by omega⟩) (mul_ok hu (ih a (by omega) ha) hv) h

/-- the tenths of a power whose reduced number and places are given -/
def tnF (y : Datum) (e : Int) : Option Int :=
  (subF y oneD).bind fun a => (addF y oneD).bind fun b => (divF a b).bind fun s => (mulF s s).bind fun u => (lqF u 13).bind fun q => (mulF s q).bind fun z => (mulF twoD z).bind fun z2 =>
  (fr (.number (decide (e < 0)) e.natAbs 0)).bind fun i => (mulF i ln2D).bind fun l => (addF z2 l).bind fun g => (mulF g c43D).bind fun h => (addF h halfD).bind fun x =>
  (fr (x.integral .down)).bind fun f => f.toInt .zero

theorem tnF_ok {y : Nat} {dy : Datum} {e t : Int} (hy : double.read y = dy) (h : tnF dy e = some t) :
    trunc (flo (ar .add .f64 (ar .mul .f64 (lgF y e) 4631308968768463603) 4602678819172646912)) = t := by
  unfold tnF at h
  obtain ⟨a, ha, h⟩ := bind_some h
  obtain ⟨b, hb, h⟩ := bind_some h
  obtain ⟨s, hs, h⟩ := bind_some h
  obtain ⟨u, hu, h⟩ := bind_some h
  obtain ⟨q, hq, h⟩ := bind_some h
  obtain ⟨z, hz, h⟩ := bind_some h
  obtain ⟨z2, hz2, h⟩ := bind_some h
  obtain ⟨i, hi, h⟩ := bind_some h
  obtain ⟨l, hl, h⟩ := bind_some h
  obtain ⟨g, hg, h⟩ := bind_some h
  obtain ⟨k, hk, h⟩ := bind_some h
  obtain ⟨x, hx, h⟩ := bind_some h
  obtain ⟨f, hf, h⟩ := bind_some h
  have r1 : double.read 4607182418800017408 = oneD := by decide
  have r2 : double.read 4611686018427387904 = twoD := by decide
  have r3 : double.read 4604418534313441775 = ln2D := by decide
  have r4 : double.read 4631308968768463603 = c43D := by decide
  have r5 : double.read 4602678819172646912 = halfD := by decide
  have hS : double.read (lgS y) = s := div_ok (sub_ok hy r1 ha) (add_ok hy r1 hb) hs
  have hU : double.read (lgU y) = u := mul_ok hS hS hu
  have hQ := lqF_ok hU 13 q (by omega) hq
  have hI : double.read (floatOfInt .f64 e) = i := fr_ok hi
  have hG : double.read (lgF y e) = g := add_ok (mul_ok r2 (mul_ok hS hQ hz) hz2) (mul_ok hI r3 hl) hg
  have hX := add_ok (mul_ok hG r4 hk) r5 hx
  generalize ar .add .f64 (ar .mul .f64 (lgF y e) 4631308968768463603) 4602678819172646912 = w at *
  have hF : double.read (flo w) = f := by
    unfold flo
    rw [hX]
    exact fr_ok hf
  unfold trunc
  rw [hF, h]
  rfl

/- THE REDUCTION -/
theorem half_num {y m : Nat} {X : Int} (hm : m.log2 = 52) (h : double.read y = .number false m (X - 52)) (h1 : X ≤ 1000) (h2 : -1000 ≤ X) : double.read (halfOf y) = .number false m (X - 1 - 52) := by
  have h0 : m ≠ 0 := by intro h; subst h; revert hm; decide
  obtain ⟨_, h3⟩ := half_exact h h0 (by omega) (by omega)
  have e1 : m <<< (52 - m.log2) = m := by rw [hm]; rfl
  have e2 : X - 52 - 1 + (m.log2 : Int) - 52 = X - 1 - 52 := by omega
  rw [e1, e2] at h3
  exact h3
theorem dbl_num {y m : Nat} {X : Int} (hm : m.log2 = 52) (h : double.read y = .number false m (X - 52)) (h1 : X ≤ 1000) (h2 : -1000 ≤ X) : double.read (dblOf y) = .number false m (X + 1 - 52) := by
  have h0 : m ≠ 0 := by intro h; subst h; revert hm; decide
  obtain ⟨_, h3⟩ := double_exact h h0 (by omega) (by omega)
  have e1 : m <<< (52 - m.log2) = m := by rw [hm]; rfl
  have e2 : X - 52 + 1 + (m.log2 : Int) - 52 = X + 1 - 52 := by omega
  rw [e1, e2] at h3
  exact h3

theorem same_place {y m c M : Nat} {P : Int} (h : double.read y = .number false m P) (hc : double.read c = .number false M P) : (FloatKind.f64.format.order y c == some .lt) = decide (m < M) := by
  have ho : FloatKind.f64.format.order y c = some (compare (signed false m (P - min P P).toNat) (signed false M (P - min P P).toNat)) := by
    show (double.read y).order (double.read c) = _
    rw [h, hc]; rfl
  have e0 : (P - min P P).toNat = 0 := by omega
  have e : ∀ (m : Nat), signed false m 0 = (m : Int) := fun m => by show ((m <<< 0 : Nat) : Int) = m; rw [Nat.shiftLeft_zero]
  rw [ho, e0, e, e]
  rcases cmp_cases (m : Int) (M : Int) with ⟨hc, h⟩ | ⟨hc, h⟩ | ⟨hc, h⟩
  · rw [hc, decide_eq_true (by omega : m < M)]; rfl
  · rw [hc, decide_eq_false (by omega : ¬ m < M)]; rfl
  · rw [hc, decide_eq_false (by omega : ¬ m < M)]; rfl

theorem lt15_num {y m : Nat} {X : Int} (hm : m.log2 = 52) (h : double.read y = .number false m (X - 52)) : lt15 y = decide (X < 0 ∨ X = 0 ∧ m < 6755399441055744) := by
  have h0 : m ≠ 0 := by intro h; subst h; revert hm; decide
  have hp : Pos y X := ⟨m, _, h, h0, by omega⟩
  rcases Int.lt_trichotomy X 0 with hX | hX | hX
  · rw [decide_eq_true (Or.inl hX)]
    rcases pos_15 hp with ⟨ho, _⟩ | ⟨_, hX2⟩
    · unfold lt15; rw [ho]; rfl
    · omega
  · subst hX
    have hc : double.read 4609434218613702656 = .number false 6755399441055744 (0 - 52) := by decide
    unfold lt15
    rw [same_place h hc]
    exact decide_eq_decide.2 (by omega)
  · rw [decide_eq_false (by omega)]
    rcases pos_15 hp with ⟨_, hX2⟩ | ⟨ho, _⟩
    · omega
    · exact lt15_not ho
theorem lt075_num {y m : Nat} {X : Int} (hm : m.log2 = 52) (h : double.read y = .number false m (X - 52)) : lt075 y = decide (X < -1 ∨ X = -1 ∧ m < 6755399441055744) := by
  have h0 : m ≠ 0 := by intro h; subst h; revert hm; decide
  have hp : Pos y X := ⟨m, _, h, h0, by omega⟩
  rcases Int.lt_trichotomy X (-1) with hX | hX | hX
  · rw [decide_eq_true (Or.inl hX)]
    rcases pos_075 hp with ⟨ho, _⟩ | ⟨_, hX2⟩
    · unfold lt075; rw [ho]; rfl
    · omega
  · subst hX
    have hc : double.read 4604930618986332160 = .number false 6755399441055744 (-1 - 52) := by decide
    unfold lt075
    rw [same_place h hc]
    exact decide_eq_decide.2 (by omega)
  · rw [decide_eq_false (by omega)]
    rcases pos_075 hp with ⟨_, hX2⟩ | ⟨ho, _⟩
    · omega
    · exact lt075_not ho

/-- where the reduction ends -/
def endX (m : Nat) : Int := if m < 6755399441055744 then 0 else -1
theorem red1_num {m : Nat} (hm : m.log2 = 52) : ∀ (f y : Nat) (e X : Int), double.read y = .number false m (X - 52) → X + 1 ≤ f → X ≤ 1000 → -1000 ≤ X →
    ∃ y', red1 f y e = (y', e + X - min X (endX m)) ∧ double.read y' = .number false m (min X (endX m) - 52) := by
  have hE : endX m = 0 ∧ m < 6755399441055744 ∨ endX m = -1 ∧ ¬ m < 6755399441055744 := by
    unfold endX
    by_cases h : m < 6755399441055744
    · exact .inl ⟨if_pos h, h⟩
    · exact .inr ⟨if_neg h, h⟩
  intro f
  induction f with
  | zero =>
    intro y e X h h1 h2 h3
    have e1 : min X (endX m) = X := by omega
    have e2 : e + X - X = e := by omega
    exact ⟨y, by rw [e1, e2]; rfl, by rw [e1]; exact h⟩
  | succ f ih =>
    intro y e X h h1 h2 h3
    have hl := lt15_num hm h
    by_cases hX : X < 0 ∨ X = 0 ∧ m < 6755399441055744
    · rw [decide_eq_true hX] at hl
      have e1 : min X (endX m) = X := by omega
      have e2 : e + X - X = e := by omega
      exact ⟨y, by rw [e1, e2]; exact red1_stop _ hl, by rw [e1]; exact h⟩
    · rw [decide_eq_false hX] at hl
      obtain ⟨y', h4, h5⟩ := ih (halfOf y) (e + 1) (X - 1) (half_num hm h h2 h3) (by omega) (by omega) (by omega)
      have e1 : min (X - 1) (endX m) = min X (endX m) := by omega
      have e2 : e + 1 + (X - 1) - min X (endX m) = e + X - min X (endX m) := by omega
      rw [e1] at h4 h5
      rw [e2] at h4
      exact ⟨y', by rw [red1_go f hl]; exact h4, h5⟩
theorem red2_num {m : Nat} (hm : m.log2 = 52) : ∀ (f y : Nat) (e X : Int), double.read y = .number false m (X - 52) → -X ≤ f → X ≤ endX m → -1000 ≤ X →
    ∃ y', red2 f y e = (y', e + X - endX m) ∧ double.read y' = .number false m (endX m - 52) := by
  have hE : endX m = 0 ∧ m < 6755399441055744 ∨ endX m = -1 ∧ ¬ m < 6755399441055744 := by
    unfold endX
    by_cases h : m < 6755399441055744
    · exact .inl ⟨if_pos h, h⟩
    · exact .inr ⟨if_neg h, h⟩
  intro f
  induction f with
  | zero =>
    intro y e X h h1 h2 h3
    have e1 : X = endX m := by omega
    have e2 : e + X - X = e := by omega
    rw [← e1, e2]
    exact ⟨y, rfl, h⟩
  | succ f ih =>
    intro y e X h h1 h2 h3
    have hl := lt075_num hm h
    by_cases hX : X < -1 ∨ X = -1 ∧ m < 6755399441055744
    · rw [decide_eq_true hX] at hl
      obtain ⟨y', h4, h5⟩ := ih (dblOf y) (e - 1) (X + 1) (dbl_num hm h (by omega) h3) (by omega) (by omega) (by omega)
      have e2 : e - 1 + (X + 1) - endX m = e + X - endX m := by omega
      rw [e2] at h4
      exact ⟨y', by rw [red2_go f hl]; exact h4, h5⟩
    · rw [decide_eq_false hX] at hl
      have e1 : X = endX m := by omega
      have e2 : e + X - X = e := by omega
      rw [← e1, e2]
      exact ⟨y, red2_stop _ hl, h⟩

theorem lgW_num {y m : Nat} {X : Int} (hm : m.log2 = 52) (h : double.read y = .number false m (X - 52)) (h1 : X ≤ 1000) (h2 : -1000 ≤ X) : ∃ y', lgW y = lgF y' (X - endX m) ∧ double.read y' = .number false m (endX m - 52) := by
  have hE : endX m = 0 ∨ endX m = -1 := by unfold endX; split <;> omega
  obtain ⟨y1, h3, h4⟩ := red1_num hm 1200 y 0 X h (by omega) h1 h2
  obtain ⟨y2, h5, h6⟩ := red2_num hm 1200 y1 (0 + X - min X (endX m)) (min X (endX m)) h4 (by omega) (by omega) (by omega)
  have e : 0 + X - min X (endX m) + min X (endX m) - endX m = X - endX m := by omega
  rw [e] at h5
  exact ⟨y2, lgW_of h3 h5, h6⟩
end Go.Fq
