/- Lifting two factors, pure: the program's inverse modulo a whole, the specification's two at once, and that what both add to the factors is one. No program is spoken of. -/
import Derived.Test.YtfhcfeafohcjpaaLiP
namespace Go.Pl

/-- a sum over p -/
def smt (X Y : List Int) (p : Int) : List Int := trim (mods (weigh X Y 1 1) p)
theorem smt_dvd {X Y : List Int} {p : Int} (hp : 0 < p) (hX : 1 ≤ X.length) (m : Nat) : p ∣ at' (smt X Y p) m - (at' X m + at' Y m) := by
  unfold smt
  rw [trim_at (ne_of_len (by rw [mods_len, weigh_len]; omega)), mods_at]
  have h1 := md_dvd (at' (weigh X Y 1 1) m) hp
  have h2 : at' (weigh X Y 1 1) m = at' X m + at' Y m := by
    by_cases hk : m < max X.length Y.length
    · rw [at_get (weigh_get X Y 1 1 hk)]; omega
    · rw [at_out (by rw [weigh_len]; omega), at_out (L := X) (by omega), at_out (L := Y) (by omega)]; rfl
  rw [h2] at h1 ⊢
  exact h1
theorem smt_ov {X Y : List Int} {p : Int} (hp : 0 < p) (hX : 1 ≤ X.length) : Ov (smt X Y p) p ∧ (smt X Y p).length ≤ max X.length Y.length := by
  have hne : mods (weigh X Y 1 1) p ≠ [] := ne_of_len (by rw [mods_len, weigh_len]; omega)
  refine ⟨⟨trim_pos _, trim_in (mods_range _ hp) hne⟩, ?_⟩
  have := trim_le hne
  rw [mods_len, weigh_len] at this
  exact this
theorem sbt_ov {X Y : List Int} {p : Int} (hp : 0 < p) (hX : 1 ≤ X.length) : Ov (sbt X Y p) p ∧ (sbt X Y p).length ≤ max X.length Y.length := by
  have hne : mods (weigh X Y 1 (-1)) p ≠ [] := ne_of_len (by rw [mods_len, weigh_len]; omega)
  refine ⟨⟨trim_pos _, trim_in (mods_range _ hp) hne⟩, ?_⟩
  have := trim_le hne
  rw [mods_len, weigh_len] at this
  exact this
theorem smt_clean (X Y : List Int) (p : Int) : (smt X Y p).length = 1 ∨ (smt X Y p)[(smt X Y p).length - 1]? ≠ some 0 := trim_clean _

/-- how long the times may be -/
def Tk (p : Int) (M : Nat) (A tA B tB : List Int) : Prop := Gd A p ∧ Gd B p ∧ Ov tA p ∧ Ov tB p ∧ tA.length + B.length ≤ M ∧ tB.length + A.length ≤ M ∧ tB.length + B.length ≤ M
theorem Tk.step {p : Int} {M : Nat} {A tA B tB : List Int} (hp : isP p = true) (h : Tk p M A tA B tB) (h0 : B ≠ [0]) :
    Tk p M B tB (dr A B p) (sbt tA (om (dq A B p) tB p) p) ∧ (om (dq A B p) tB p).length + B.length ≤ M ∧ Ov (om (dq A B p) tB p) p := by
  obtain ⟨hA, hB, htA, htB, m1, m2, m3⟩ := h
  have hp2 := isP_le hp
  have hl := clean_last hB.2.2 h0 hB.1.1
  obtain ⟨q1, r1, q2, r2, r3⟩ := dv_ok hp hA.1 hB.1 hl
  obtain ⟨o1, o2⟩ := om_ov (p := p) (by omega) q1.1 htB.1
  obtain ⟨s1, s2⟩ := sbt_ov (p := p) (X := tA) (Y := om (dq A B p) tB p) (by omega) htA.1
  have b1 := hB.1.1
  have r4 : (dr A B p).length ≤ B.length := by
    rcases r3 with r3 | r3
    · omega
    · rw [r3]; exact b1
  have t1 := htB.1
  have q3 := q1.1
  refine ⟨⟨hB, Gd.rest hp hA hB h0, htB, s1, ?_, ?_, ?_⟩, ?_, o1⟩ <;> omega
theorem Kv.mk' {g h : Nat → Int} {p : Int} {A t : List Int} (h1 : 1 ≤ A.length) (h2 : 1 ≤ t.length) (h3 : Im g p (fun m => cv (at' t) h m - at' A m)) : Kv g h p A t := ⟨h1, h2, h3⟩
theorem ivm_ok {g h : Nat → Int} {p : Int} {M : Nat} (hp : isP p = true) : ∀ (f : Nat) (A tA B tB : List Int), Tk p M A tA B tB → Kv g h p A tA → Kv g h p B tB →
    (ivm p f A tA B tB).1 = cgo p f A B ∧ Gd (ivm p f A tA B tB).1 p ∧ Ov (ivm p f A tA B tB).2 p ∧ (ivm p f A tA B tB).2.length ≤ M ∧ Kv g h p (ivm p f A tA B tB).1 (ivm p f A tA B tB).2
  | 0, A, tA, B, tB, ht, hA, _ => ⟨rfl, ht.1, ht.2.2.1, by have := ht.2.2.2.2.1; unfold ivm; show tA.length ≤ M; omega, hA⟩
  | f + 1, A, tA, B, tB, ht, hA, hB => by
    by_cases h0 : B = [0]
    · rw [ivm, if_pos h0, h0, cgo_stop]
      exact ⟨rfl, ht.1, ht.2.2.1, by have := ht.2.2.2.2.1; show tA.length ≤ M; omega, hA⟩
    · rw [ivm, if_neg h0, cgo_step h0]
      obtain ⟨t1, _, _⟩ := ht.step hp h0
      have hp2 := isP_le hp
      obtain ⟨q1, r1, _⟩ := dv_ok hp ht.1.1 ht.2.1.1 (clean_last ht.2.1.2.2 h0 ht.2.1.1.1)
      exact ivm_ok hp f _ _ _ _ t1 hB (Kv.step (by omega) hA hB r1.1 q1.1)

/-- what times h is 1 modulo g -/
def Iv (g h : Nat → Int) (p : Int) (J : List Int) : Prop := 1 ≤ J.length ∧ Im g p (fun m => cv (at' J) h m - one m)
theorem at_single (c : Int) (m : Nat) : at' [c] m = c * one m := by
  unfold one
  cases m with
  | zero => rw [if_pos rfl, Int.mul_one]; rfl
  | succ m => rw [if_neg (by omega), Int.mul_zero]; exact at_out (by simp)
theorem cv_single (c : Int) (b : Nat → Int) (m : Nat) : cv (at' [c]) b m = c * b m := by
  have e : at' [c] = fun j => c * one j := funext (at_single c)
  rw [cv_comm, e]
  have : cv b (fun j => c * one j) m = c * cv b one m := by
    unfold cv
    rw [← sm_mul]
    exact sm_congr _ fun i _ => by grind
  rw [this, cv_one]
theorem inv_dvd {x p : Int} (hp : isP p = true) (h : 0 < x ∧ x < p) : p ∣ x * inv x p - 1 := by
  obtain ⟨_, _, i3⟩ := inv_ok hp h
  have := tmod_dvd (x * inv x p) p
  rw [i3] at this
  obtain ⟨c, hc⟩ := this
  exact ⟨-c, by rw [Int.mul_neg]; omega⟩
theorem Kv.iv {g h : Nat → Int} {p c : Int} {t J : List Int} (hp : isP p = true) (hc : 0 < c ∧ c < p) (hk : Kv g h p [c] t) (hJ1 : 1 ≤ J.length) (hJ : ∀ m, p ∣ at' J m - inv c p * at' t m) : Iv g h p J := by
  refine ⟨hJ1, (hk.2.2.scale (inv c p)).of fun m => ?_⟩
  show p ∣ (cv (at' J) h m - one m) - inv c p * (cv (at' t) h m - at' [c] m)
  have h1 := cv_mod (a := at' J) (a' := fun j => inv c p * at' t j) (b := h) hJ m
  have h2 : cv (fun j => inv c p * at' t j) h m = inv c p * cv (at' t) h m := by
    unfold cv
    rw [← sm_mul]
    exact sm_congr _ fun i _ => by grind
  rw [h2] at h1
  rw [at_single]
  obtain ⟨x, hx⟩ := h1
  obtain ⟨y, hy⟩ := inv_dvd hp hc
  refine ⟨x + y * one m, ?_⟩
  have : p * (x + y * one m) = p * x + (p * y) * one m := by grind
  rw [this, ← hx, ← hy]
  grind

/-- the model's way: rests, and both times -/
def mns (q s p : List Int) (P : Int) : List Int := smt p (om (om [P - 1] q P) s P) P
def bez (p : Int) : Nat → List Int → List Int → List Int → List Int → List Int → List Int → List Int × List Int × List Int
  | 0, A, _, s0, _, t0, _ => (A, s0, t0)
  | f + 1, A, B, s0, s1, t0, t1 => if B = [0] then (A, s0, t0) else bez p f B (dr A B p) s1 (mns (dq A B p) s1 s0 p) t1 (mns (dq A B p) t1 t0 p)
theorem mns_dvd {q s t : List Int} {p : Int} (hp : 0 < p) (hq : 1 ≤ q.length) (hs : 1 ≤ s.length) (ht : 1 ≤ t.length) (m : Nat) : p ∣ at' (mns q s t p) m - (at' t m - cv (at' q) (at' s) m) := by
  unfold mns
  have a1 := smt_dvd (Y := om (om [p - 1] q p) s p) hp ht m
  have o1 := om_ov (A := [p - 1]) (B := q) (p := p) hp (by simp) hq
  have a2 := om_dvd hp o1.1.1 hs m
  have a3 := cv_mod (a := at' (om [p - 1] q p)) (a' := cv (at' [p - 1]) (at' q)) (b := at' s) (fun j => om_dvd hp (by simp) hq j) m
  rw [← cv_assoc, cv_single] at a3
  obtain ⟨x, hx⟩ := a1
  obtain ⟨y, hy⟩ := a2
  obtain ⟨z, hz⟩ := a3
  refine ⟨x + y + z + cv (at' q) (at' s) m, ?_⟩
  grind
theorem mns_ov {q s t : List Int} {p : Int} (hp : 0 < p) (hq : 1 ≤ q.length) (hs : 1 ≤ s.length) (ht : 1 ≤ t.length) : Ov (mns q s t p) p ∧ (mns q s t p).length ≤ max t.length (q.length + s.length - 1) := by
  have o1 := om_ov (A := [p - 1]) (B := q) (p := p) hp (by simp) hq
  have o2 := om_ov (A := om [p - 1] q p) (B := s) (p := p) hp o1.1.1 hs
  obtain ⟨s1, s2⟩ := smt_ov (X := t) (Y := om (om [p - 1] q p) s p) hp ht
  refine ⟨s1, ?_⟩
  have := o1.2
  simp only [List.length_cons, List.length_nil] at this
  have := o2.2
  unfold mns
  omega
/-- s times g, and t times h, are r over p -/
def Ez (g h : Nat → Int) (p : Int) (r s t : List Int) : Prop := 1 ≤ s.length ∧ 1 ≤ t.length ∧ ∀ m, p ∣ cv (at' s) g m + cv (at' t) h m - at' r m
theorem Ez.step {g h : Nat → Int} {p : Int} {A B s0 s1 t0 t1 : List Int} (hp : 0 < p) (hA1 : 1 ≤ A.length) (hB1 : 1 ≤ B.length) (hq : 1 ≤ (dq A B p).length) (hA : Ez g h p A s0 t0) (hB : Ez g h p B s1 t1) : Ez g h p (dr A B p) (mns (dq A B p) s1 s0 p) (mns (dq A B p) t1 t0 p) := by
  refine ⟨(mns_ov hp hq hB.1 hA.1).1.1, (mns_ov hp hq hB.2.1 hA.2.1).1.1, fun m => ?_⟩
  have key : ∀ (x y : List Int) (c : Nat → Int), 1 ≤ x.length → 1 ≤ y.length → p ∣ cv (at' (mns (dq A B p) y x p)) c m - (cv (at' x) c m - cv (at' (dq A B p)) (cv (at' y) c) m) := by
    intro x y c hx hy
    have h1 := cv_mod (a := at' (mns (dq A B p) y x p)) (a' := fun j => at' x j - cv (at' (dq A B p)) (at' y) j) (b := c) (fun j => mns_dvd hp hq hy hx j) m
    have h2 : cv (fun j => at' x j - cv (at' (dq A B p)) (at' y) j) c m = cv (at' x) c m - cv (cv (at' (dq A B p)) (at' y)) c m := by
      rw [cv_comm, cv_sub_r, cv_comm c, cv_comm c]
    rw [h2, ← cv_assoc] at h1
    exact h1
  have k1 := key s0 s1 g hA.1 hB.1
  have k2 := key t0 t1 h hA.2.1 hB.2.1
  have k3 := hA.2.2 m
  have k4 := cv_mod_r (a := at' (dq A B p)) (b := fun j => cv (at' s1) g j + cv (at' t1) h j) (b' := at' B) (fun j => hB.2.2 j) m
  have k5 : cv (at' (dq A B p)) (fun j => cv (at' s1) g j + cv (at' t1) h j) m = cv (at' (dq A B p)) (cv (at' s1) g) m + cv (at' (dq A B p)) (cv (at' t1) h) m := by
    unfold cv
    rw [← sm_add]
    exact sm_congr _ fun i _ => Int.mul_add _ _ _
  rw [k5] at k4
  have k6 := dq_dr (A := A) (B := B) hp hA1 hB1 m
  obtain ⟨a, ha⟩ := k1
  obtain ⟨b, hb⟩ := k2
  obtain ⟨c, hc⟩ := k3
  obtain ⟨d, hd⟩ := k4
  obtain ⟨e, he⟩ := k6
  refine ⟨a + b + c - d + e, ?_⟩
  grind
/-- how long the model's times may be -/
def Bk (p : Int) (M : Nat) (A B s0 s1 t0 t1 : List Int) : Prop := Tk p M A s0 B s1 ∧ Tk p M A t0 B t1
theorem mns_tk {p : Int} {M : Nat} {A tA B tB : List Int} (hp : isP p = true) (h : Tk p M A tA B tB) (h0 : B ≠ [0]) : Tk p M B tB (dr A B p) (mns (dq A B p) tB tA p) := by
  obtain ⟨hA, hB, htA, htB, m1, m2, m3⟩ := h
  have hp2 := isP_le hp
  have hl := clean_last hB.2.2 h0 hB.1.1
  obtain ⟨q1, r1, q2, r2, r3⟩ := dv_ok hp hA.1 hB.1 hl
  obtain ⟨s1, s2⟩ := mns_ov (p := p) (q := dq A B p) (s := tB) (t := tA) (by omega) q1.1 htB.1 htA.1
  have b1 := hB.1.1
  have r4 : (dr A B p).length ≤ B.length := by
    rcases r3 with r3 | r3
    · omega
    · rw [r3]; exact b1
  have t1 := htB.1
  have q3 := q1.1
  refine ⟨hB, Gd.rest hp hA hB h0, htB, s1, ?_, ?_, ?_⟩ <;> omega
theorem bez_ok {g h : Nat → Int} {p : Int} {M : Nat} (hp : isP p = true) : ∀ (f : Nat) (A B s0 s1 t0 t1 : List Int), Bk p M A B s0 s1 t0 t1 → Ez g h p A s0 t0 → Ez g h p B s1 t1 →
    (bez p f A B s0 s1 t0 t1).1 = cgo p f A B ∧ Gd (bez p f A B s0 s1 t0 t1).1 p ∧ Ov (bez p f A B s0 s1 t0 t1).2.1 p ∧ (bez p f A B s0 s1 t0 t1).2.1.length ≤ M ∧ Ov (bez p f A B s0 s1 t0 t1).2.2 p ∧ (bez p f A B s0 s1 t0 t1).2.2.length ≤ M ∧ Ez g h p (bez p f A B s0 s1 t0 t1).1 (bez p f A B s0 s1 t0 t1).2.1 (bez p f A B s0 s1 t0 t1).2.2
  | 0, A, B, s0, s1, t0, t1, ht, hA, _ => ⟨rfl, ht.1.1, ht.1.2.2.1, by have := ht.1.2.2.2.2.1; show s0.length ≤ M; omega, ht.2.2.2.1, by have := ht.2.2.2.2.2.1; show t0.length ≤ M; omega, hA⟩
  | f + 1, A, B, s0, s1, t0, t1, ht, hA, hB => by
    by_cases h0 : B = [0]
    · rw [bez, if_pos h0, h0, cgo_stop]
      exact ⟨rfl, ht.1.1, ht.1.2.2.1, by have := ht.1.2.2.2.2.1; show s0.length ≤ M; omega, ht.2.2.2.1, by have := ht.2.2.2.2.2.1; show t0.length ≤ M; omega, hA⟩
    · rw [bez, if_neg h0, cgo_step h0]
      have hp2 := isP_le hp
      obtain ⟨q1, r1, _⟩ := dv_ok hp ht.1.1.1 ht.1.2.1.1 (clean_last ht.1.2.1.2.2 h0 ht.1.2.1.1.1)
      exact bez_ok hp f _ _ _ _ _ _ ⟨mns_tk hp ht.1 h0, mns_tk hp ht.2 h0⟩ hB (Ez.step (by omega) ht.1.1.1.1 ht.1.2.1.1.1 q1.1 hA hB)
end Go.Pl
