/- Powers over primes: that the rest may be taken first. No program is spoken of. -/
import Derived.Test.YtfhcfeafohcjpaaPi
namespace Go.Pl

/-- a product over p -/
def om (A B : List Int) (p : Int) : List Int := trim (mods (prod A B) p)
theorem md_zero (p : Int) : md 0 p = 0 := by
  unfold md
  rw [Int.zero_tmod, Int.zero_add, Int.tmod_self]
theorem mods_at (L : List Int) (p : Int) (m : Nat) : at' (mods L p) m = md (at' L m) p := by
  by_cases h : m < L.length
  · rw [at_get (mods_get (p := p) (at_some L m h))]
  · rw [at_out (by rw [mods_len]; omega), at_out (by omega), md_zero]
theorem om_dvd {A B : List Int} {p : Int} (hp : 0 < p) (hA : 1 ≤ A.length) (hB : 1 ≤ B.length) (m : Nat) : p ∣ at' (om A B p) m - cv (at' A) (at' B) m := by
  unfold om
  rw [trim_at (mods_ne (prod_ne hA hB)), mods_at, ← prod_cv hB]
  exact md_dvd _ hp
theorem om_ov {A B : List Int} {p : Int} (hp : 0 < p) (hA : 1 ≤ A.length) (hB : 1 ≤ B.length) : Ov (om A B p) p ∧ (om A B p).length ≤ A.length + B.length - 1 := by
  have hne := mods_ne (p := p) (prod_ne hA hB)
  refine ⟨⟨trim_pos _, trim_in (mods_range _ hp) hne⟩, ?_⟩
  have := trim_le hne
  rw [mods_len, prod_len] at this
  exact this
theorem clean_ext {X Y : List Int} (hX : X.length = 1 ∨ X[X.length - 1]? ≠ some 0) (hY : Y.length = 1 ∨ Y[Y.length - 1]? ≠ some 0) (h1 : 1 ≤ X.length) (h2 : 1 ≤ Y.length) (h : ∀ m, at' X m = at' Y m) : X = Y := by
  have key : ∀ {X Y : List Int}, (X.length = 1 ∨ X[X.length - 1]? ≠ some 0) → 1 ≤ X.length → 1 ≤ Y.length → (∀ m, at' X m = at' Y m) → X.length ≤ Y.length := by
    intro X Y hX h1 h2 h
    by_cases hl : X.length ≤ Y.length
    · exact hl
    · exfalso
      rcases hX with hX | hX
      · omega
      · apply hX
        rw [at_some X _ (by omega), h, at_out (by omega)]
  have a := key hX h1 h2 h
  have b := key hY h2 h1 (fun m => (h m).symm)
  exact ext_at (by omega) fun j _ => h j
/-- what differs by a sum of moved B has the same rest -/
theorem rest_eq {X Y B : List Int} {p : Int} (hp : isP p = true) (hX : Ov X p) (hY : Ov Y p) (hB : Ov B p) (hl : at' B (B.length - 1) ≠ 0) (h : Im (at' B) p (fun m => at' X m - at' Y m)) : dr X B p = dr Y B p := by
  have hp2 := isP_le hp
  have hbl := hB.2.at (by omega) (by omega) (B.length - 1)
  obtain ⟨_, i2, i3⟩ := inv_ok hp (x := at' B (B.length - 1)) (by omega)
  obtain ⟨_, x1, _, _, x2⟩ := dv_ok hp hX hB hl
  obtain ⟨_, y1, _, _, y2⟩ := dv_ok hp hY hB hl
  have d1 := dr_im (p := p) (by omega) hX.1 hB.1
  have d2 := dr_im (p := p) (by omega) hY.1 hB.1
  have hD : Im (at' B) p (fun m => at' (dr X B p) m - at' (dr Y B p) m) := ((h.add (d1.scale (-1))).add d2).of fun m => by
    show p ∣ (at' (dr X B p) m - at' (dr Y B p) m) - ((at' X m - at' Y m + -1 * (at' X m - at' (dr X B p) m)) + (at' Y m - at' (dr Y B p) m))
    rw [show (at' (dr X B p) m - at' (dr Y B p) m) - ((at' X m - at' Y m + -1 * (at' X m - at' (dr X B p) m)) + (at' Y m - at' (dr Y B p) m)) = 0 by omega]
    exact Int.dvd_zero p
  have hz : ∀ Z : List Int, ((dr Z B p).length ≤ B.length - 1 ∨ dr Z B p = [0]) → ∀ m, B.length - 1 ≤ m → at' (dr Z B p) m = 0 := by
    intro Z hZ m hm
    rcases hZ with hZ | hZ
    · exact at_out (by omega)
    · rw [hZ]
      by_cases h0 : m = 0
      · rw [h0]; rfl
      · exact at_out (by simp; omega)
  obtain ⟨N, q, hq⟩ := hD
  have hi : p ∣ at' B (B.length - 1) * inv (at' B (B.length - 1)) p - 1 := by
    have := tmod_dvd (at' B (B.length - 1) * inv (at' B (B.length - 1)) p) p
    rw [i3] at this
    obtain ⟨c, hc⟩ := this
    exact ⟨-c, by rw [Int.mul_neg]; omega⟩
  have hall := Im.short (n := 0) hi (fun j hj => at_out (by omega)) N q (fun m hm => by
    show p ∣ at' (dr X B p) m - at' (dr Y B p) m
    rw [hz X x2 m hm, hz Y y2 m hm]
    exact Int.dvd_zero p) hq
  refine clean_ext (dr_clean X B p) (dr_clean Y B p) x1.1 y1.1 fun m => ?_
  have ha := x1.2.at (by omega) (by omega) m
  have hb := y1.2.at (by omega) (by omega) m
  obtain ⟨c, hc⟩ := hall m
  have hc' : at' (dr X B p) m - at' (dr Y B p) m = p * c := hc
  have : c = 0 := by
    by_cases h1 : 1 ≤ c
    · have : p * 1 ≤ p * c := Int.mul_le_mul_of_nonneg_left h1 (by omega)
      omega
    · by_cases h2 : c ≤ -1
      · have : p * c ≤ p * -1 := Int.mul_le_mul_of_nonneg_left h2 (by omega)
        omega
      · omega
  rw [this] at hc'
  omega
theorem at_end (L : List Int) : ∀ i, L.length ≤ i → at' L i = 0 := fun _ h => at_out h
theorem cv_diff (a b c : Nat → Int) (m : Nat) : cv a (fun j => b j - c j) m = cv a b m - cv a c m := cv_sub_r a b c m
/-- the rest of a product by what is known but for its rest -/
theorem om_rest {C A B : List Int} {p : Int} (hp : isP p = true) (hC : Ov C p) (hA : Ov A p) (hB : Ov B p) (hl : at' B (B.length - 1) ≠ 0) : dr (om C A p) B p = dr (om C (dr A B p) p) B p := by
  have hp2 := isP_le hp
  obtain ⟨_, r1, _, _, _⟩ := dv_ok hp hA hB hl
  refine rest_eq hp (om_ov (by omega) hC.1 hA.1).1 (om_ov (by omega) hC.1 r1.1).1 hB hl ?_
  have hD := (dr_im (p := p) (by omega) hA.1 hB.1).mul (at' C) (at_end C)
  refine hD.of fun m => ?_
  rw [cv_diff]
  have h1 := om_dvd (p := p) (by omega) hC.1 hA.1 m
  have h2 := om_dvd (p := p) (by omega) hC.1 r1.1 m
  obtain ⟨x, hx⟩ := h1
  obtain ⟨y, hy⟩ := h2
  exact ⟨x - y, by rw [Int.mul_sub]; omega⟩
theorem om_comm_rest {C A B : List Int} {p : Int} (hp : isP p = true) (hC : Ov C p) (hA : Ov A p) (hB : Ov B p) (hl : at' B (B.length - 1) ≠ 0) : dr (om C A p) B p = dr (om A C p) B p := by
  have hp2 := isP_le hp
  refine rest_eq hp (om_ov (by omega) hC.1 hA.1).1 (om_ov (by omega) hA.1 hC.1).1 hB hl (Im.zero fun m => ?_)
  have h1 := om_dvd (p := p) (by omega) hC.1 hA.1 m
  have h2 := om_dvd (p := p) (by omega) hA.1 hC.1 m
  rw [cv_comm] at h2
  obtain ⟨x, hx⟩ := h1
  obtain ⟨y, hy⟩ := h2
  exact ⟨x - y, by rw [Int.mul_sub]; omega⟩
theorem sq_rest {A B : List Int} {p : Int} (hp : isP p = true) (hA : Ov A p) (hB : Ov B p) (hl : at' B (B.length - 1) ≠ 0) : dr (om A A p) B p = dr (om (dr A B p) (dr A B p) p) B p := by
  obtain ⟨_, r1, _, _, _⟩ := dv_ok hp hA hB hl
  rw [om_rest hp hA hA hB hl, om_comm_rest hp hA r1 hB hl, om_rest hp r1 hA hB hl]

/-- powers: so many rounds at most, the exponent, the product so far, the square so far -/
def pwr (B : List Int) (p : Int) : Nat → Nat → List Int → List Int → List Int
  | 0, _, O, _ => O
  | f + 1, n, O, S => if n = 0 then O else pwr B p f (n / 2) (if n % 2 = 1 then dr (om O S p) B p else O) (dr (om S S p) B p)
theorem pwr_stop (B : List Int) (p : Int) (f : Nat) (O S : List Int) : pwr B p f 0 O S = O := by
  cases f with
  | zero => rfl
  | succ f => rw [pwr, if_pos rfl]
theorem pwr_odd {B : List Int} {p : Int} {f n : Nat} {O S : List Int} (h0 : n ≠ 0) (h : n % 2 = 1) : pwr B p (f + 1) n O S = pwr B p f (n / 2) (dr (om O S p) B p) (dr (om S S p) B p) := by rw [pwr, if_neg h0, if_pos h]
theorem pwr_even {B : List Int} {p : Int} {f n : Nat} {O S : List Int} (h0 : n ≠ 0) (h : ¬ n % 2 = 1) : pwr B p (f + 1) n O S = pwr B p f (n / 2) O (dr (om S S p) B p) := by rw [pwr, if_neg h0, if_neg h]
theorem one_ov {p : Int} (hp : isP p = true) : Ov [1] p := ⟨by simp, fun z hz => by
  have := isP_le hp
  simp only [List.mem_singleton] at hz
  omega⟩
theorem pwr_first {A B : List Int} {p : Int} (hp : isP p = true) (hA : Ov A p) (hB : Ov B p) (hl : at' B (B.length - 1) ≠ 0) (f n : Nat) : pwr B p f n [1] A = pwr B p f n [1] (dr A B p) := by
  cases f with
  | zero => rfl
  | succ f =>
    by_cases h0 : n = 0
    · rw [h0, pwr_stop, pwr_stop]
    · by_cases h : n % 2 = 1
      · rw [pwr_odd h0 h, pwr_odd h0 h, sq_rest hp hA hB hl, om_rest hp (one_ov hp) hA hB hl]
      · rw [pwr_even h0 h, pwr_even h0 h, sq_rest hp hA hB hl]
/-- what the walks keep -/
def Kpd (L : List Int) (p : Int) : Prop := Gd L p
theorem om_gd {O S B : List Int} {p : Int} (hp : isP p = true) (hO : Gd O p) (hS : Gd S p) (hB : Gd B p) (h2 : 2 ≤ B.length) : Ov (om O S p) p ∧ (om O S p).length ≤ 40 ∧ Gd (dr (om O S p) B p) p := by
  have hp2 := isP_le hp
  obtain ⟨h3, h4⟩ := om_ov (p := p) (by omega) hO.1.1 hS.1.1
  have hl := clean_last hB.2.2 (fun e => by rw [e] at h2; simp at h2) hB.1.1
  obtain ⟨_, r1, _, _, r2⟩ := dv_ok hp h3 hB.1 hl
  refine ⟨h3, by have := hO.2.1; have := hS.2.1; omega, r1, ?_, dr_clean _ _ _⟩
  rcases r2 with r2 | r2
  · have := hB.2.1; omega
  · rw [r2]; simp
theorem gd_last {B : List Int} {p : Int} (hB : Gd B p) (h2 : 2 ≤ B.length) : at' B (B.length - 1) ≠ 0 := clean_last hB.2.2 (fun e => by rw [e] at h2; simp at h2) hB.1.1
theorem gd_one {p : Int} (hp : isP p = true) : Gd [1] p := ⟨one_ov hp, by simp, .inl rfl⟩
theorem pwr_gd {B : List Int} {p : Int} (hp : isP p = true) (hB : Gd B p) (h2 : 2 ≤ B.length) : ∀ (f n : Nat) (O S : List Int), Gd O p → Gd S p → Gd (pwr B p f n O S) p
  | 0, _, O, _, hO, _ => hO
  | f + 1, n, O, S, hO, hS => by
    by_cases h0 : n = 0
    · rw [h0, pwr_stop]; exact hO
    · by_cases h : n % 2 = 1
      · rw [pwr_odd h0 h]
        exact pwr_gd hp hB h2 f _ _ _ (om_gd hp hO hS hB h2).2.2 (om_gd hp hS hS hB h2).2.2
      · rw [pwr_even h0 h]
        exact pwr_gd hp hB h2 f _ _ _ hO (om_gd hp hS hS hB h2).2.2
end Go.Pl
