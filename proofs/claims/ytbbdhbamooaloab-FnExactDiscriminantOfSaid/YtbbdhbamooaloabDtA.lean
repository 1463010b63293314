/- Resultants: how many bits a set has; the checks of both sides. -/
import Derived.Test.YtbbdhbamooaloabDet
import Derived.Test.YtbbdhbamooaloabFnC
import Derived.Test.YtbbdhbamooaloabWs
namespace Go.Proofs.Ytbbdhbamooaloab.res
open Go.RowKit Go.Pl Go.Proofs.Ytbbdhbamooaloab.wh

def y1 (x : Int) : Int := IntKind.u64.wrap (bits BinOp.and IntKind.u64 (x / 2) 6148914691236517205 + bits BinOp.and IntKind.u64 x 6148914691236517205)
def y2 (x : Int) : Int := IntKind.u64.wrap (bits BinOp.and IntKind.u64 (x / 4) 3689348814741910323 + bits BinOp.and IntKind.u64 x 3689348814741910323)
def y3 (x : Int) : Int := bits BinOp.and IntKind.u64 (IntKind.u64.wrap (x / 16 + x)) 1085102592571150095
def y4 (x : Int) : Int := IntKind.u64.wrap (x + x / 256)
def y5 (x : Int) : Int := IntKind.u64.wrap (x + x / 65536)
def y6 (x : Int) : Int := IntKind.u64.wrap (x + x / 4294967296)
def y7 (x : Int) : Int := bits BinOp.and IntKind.i64 (wrap64 x) 127
theorem y_all : ∀ x : Nat, x < 256 → y7 (y6 (y5 (y4 (y3 (y2 (y1 (x : Int))))))) = ((cols x).length : Int) := by
  have h : ∀ x : Nat, x < 256 → y7 (y6 (y5 (y4 (y3 (y2 (y1 (x : Int))))))) = ((cols x).length : Int) := by decide +kernel
  exact h
set_option maxRecDepth 100000 in
theorem ones64_any (x : Nat) (hx : x < 256) (w : World) : Calls Try.prog 85 #[.int .u64 x] w fun e w' => e = .returned (.int .i64 ((cols x).length : Nat)) ∧ w' = w := by
  have ha := y_all x hx
  obtain ⟨a1, h1⟩ : ∃ a, y1 (x : Int) = a := ⟨_, rfl⟩
  rw [h1] at ha
  unfold y1 at h1
  obtain ⟨a2, h2⟩ : ∃ a, y2 a1 = a := ⟨_, rfl⟩
  rw [h2] at ha
  unfold y2 at h2
  obtain ⟨a3, h3⟩ : ∃ a, y3 a2 = a := ⟨_, rfl⟩
  rw [h3] at ha
  unfold y3 at h3
  obtain ⟨a4, h4⟩ : ∃ a, y4 a3 = a := ⟨_, rfl⟩
  rw [h4] at ha
  unfold y4 at h4
  obtain ⟨a5, h5⟩ : ∃ a, y5 a4 = a := ⟨_, rfl⟩
  rw [h5] at ha
  unfold y5 at h5
  obtain ⟨a6, h6⟩ : ∃ a, y6 a5 = a := ⟨_, rfl⟩
  rw [h6] at ha
  unfold y6 at h6
  unfold y7 at ha
  obtain ⟨n, hn⟩ : ∃ n, n = (cols x).length := ⟨_, rfl⟩
  rw [← hn] at ha ⊢
  clear hn hx
  go_enter Try.func85, Try.ntmps85
  go_wp2_with fail
  go_ret
  exact ⟨rfl, rfl⟩
theorem ones_any (x : Nat) (hx : x < 256) (w : World) : Calls Try.prog 68 #[.int .u64 x] w fun e w' => e = .returned (.int .i64 ((cols x).length : Nat)) ∧ w' = w := by
  go_enter Try.func68, Try.ntmps68
  go_wp2_with fail
  refine (ones64_any x hx w).mono ?_
  rintro e w1 ⟨rfl, rfl⟩
  go_wp2_with fail
  go_ret
  exact ⟨rfl, rfl⟩

/-- a whole whose resultants are told -/
def sml (d : Nat) (A : List Int) : Bool := val A && (decide (d + 1 ≤ A.length ∧ A.length ≤ 5) && decide (inR (-20) 20 A))
theorem deg_any {v : Value} {L : List Int} {w : World} (h : Ls w v L) : Calls Try.prog 52 #[v] w fun e w' => e = .returned (.int .i64 ((L.length : Int) - 1)) ∧ w' = w := by
  obtain ⟨ao, cap, rfl, hn, hcap, hc⟩ := h
  clear hc
  generalize L.length = n at *
  have hw : IntKind.i64.wrap ((n : Int) - 1) = (n : Int) - 1 := IntWalk.i64_in _ (by omega)
  have hw' : wrap64 ((n : Int) - 1) = (n : Int) - 1 := IntWalk.wrap64_in _ (by omega)
  go_enter Try.func52, Try.ntmps52
  go_wp2
  go_ret
  exact ⟨rfl, rfl⟩
theorem hasDeg_any {v : Value} {L : List Int} {w : World} (h : Wh w v L) (lo hi : Int) : Calls Try.prog 50 #[v, .int .i64 lo, .int .i64 hi] w fun e w' => e = .returned (.bool (val L && decide (lo ≤ (L.length : Int) - 1 ∧ (L.length : Int) - 1 ≤ hi))) ∧ Below w.heap.size w w' := by
  obtain ⟨s, rfl, h⟩ := h
  obtain ⟨ao, cap, rfl⟩ := id h.shape
  have HH : Hid (Ls w (.slice ao L.length cap) L) := h
  clear h
  obtain ⟨w1, hw⟩ : ∃ x, x = w.alloc (.cells #[.slice ao L.length cap] 37) := ⟨_, rfl⟩
  have X : Hid (Bx w1 w.heap.size (.slice ao L.length cap)) := by rw [hw]; exact Bx.new _ _ _
  have B1 : Hid (Below w.heap.size w w1) := by rw [hw]; exact new1 _ _
  have H1 : Hid (Ls w1 (.slice ao L.length cap) L) := HH.out.below B1.out
  have c := X.out.cell
  clear HH
  go_enter Try.func50, Try.ntmps50
  go_wp2_with fail
  rw [← hw]
  clear hw
  refine (valid_any ⟨_, rfl, H1.out⟩).mono ?_
  rintro e w2 ⟨rfl, b⟩
  replace B1 : Hid (Below w.heap.size w w2) := B1.out.trans (b.mono B1.out.size)
  replace H1 : Hid (Ls w2 (.slice ao L.length cap) L) := H1.out.below b
  replace X : Hid (Bx w2 w.heap.size (.slice ao L.length cap)) := X.out.kept b
  replace c := X.out.cell
  clear b
  cases hv : val L with
  | false =>
    go_wp2_with fail
    go_ret
    exact ⟨by rw [hv]; rfl, B1.out⟩
  | true =>
    go_wp2_with fail
    refine (deg_any H1.out).mono ?_
    rintro e w3 ⟨rfl, hw3⟩
    rw [hw3]
    clear hw3
    go_wp2_with fail
    refine (from_any _ _ _ _).mono ?_
    rintro e w3 ⟨rfl, hw3⟩
    rw [hw3]
    clear hw3
    go_wp2_with fail
    go_ret
    exact ⟨by rw [hv]; simp [Bool.decide_and], B1.out⟩

theorem isFor_any {A : List Int} {v : Value} {w : World} (h : Wh w v A) : Calls Try.prog 45 #[v] w fun e w' => e = .returned (.bool (sml 1 A)) ∧ Below w.heap.size w w' := by
  obtain ⟨s, rfl, h⟩ := h
  obtain ⟨ao, cap, rfl⟩ := id h.shape
  have HH : Hid (Ls w (.slice ao A.length cap) A) := h
  clear h
  obtain ⟨w1, hw⟩ : ∃ x, x = w.alloc (.cells #[.slice ao A.length cap] 37) := ⟨_, rfl⟩
  have X : Hid (Bx w1 w.heap.size (.slice ao A.length cap)) := by rw [hw]; exact Bx.new _ _ _
  have B1 : Hid (Below w.heap.size w w1) := by rw [hw]; exact new1 _ _
  have H1 : Hid (Ls w1 (.slice ao A.length cap) A) := HH.out.below B1.out
  have c := X.out.cell
  clear HH
  go_enter Try.func45, Try.ntmps45
  go_wp2_with fail
  rw [← hw]
  clear hw
  refine (hasDeg_any ⟨_, rfl, H1.out⟩ 1 4).mono ?_
  rintro e w2 ⟨rfl, b⟩
  replace B1 : Hid (Below w.heap.size w w2) := B1.out.trans (b.mono B1.out.size)
  replace H1 : Hid (Ls w2 (.slice ao A.length cap) A) := H1.out.below b
  replace X : Hid (Bx w2 w.heap.size (.slice ao A.length cap)) := X.out.kept b
  replace c := X.out.cell
  clear b
  have e0 : sml 1 A = ((val A && decide ((1 : Int) ≤ (A.length : Int) - 1 ∧ (A.length : Int) - 1 ≤ 4)) && decide (inR (-20) 20 A)) := by
    unfold sml
    rw [← Bool.and_assoc]
    congr 2
    exact decide_eq_decide.2 (by omega)
  have E0 : Hid _ := e0
  clear e0
  cases hv : (val A && decide ((1 : Int) ≤ (A.length : Int) - 1 ∧ (A.length : Int) - 1 ≤ 4)) with
  | false =>
    have hz : Hid (sml 1 A = false) := by rw [hv] at E0; exact E0.out
    clear hv E0
    go_wp2_with fail
    go_ret
    exact ⟨by rw [hz.out]; rfl, B1.out⟩
  | true =>
    have hz : Hid (sml 1 A = decide (inR (-20) 20 A)) := by rw [hv] at E0; exact E0.out
    clear hv E0
    go_wp2_with fail
    refine (are_any H1.out (-20) 20).mono ?_
    rintro e w3 ⟨rfl, hw3⟩
    rw [hw3]
    clear hw3
    go_wp2_with fail
    go_ret
    exact ⟨by rw [hz.out]; rfl, B1.out⟩

theorem small_any {b d : Nat} {s : Value} {A : List Int} {w : World} (hb : w.cell? ⟨b, 0, none⟩ = some s) (h : Ls w s A) (hd : d ≤ 2) : Calls Try.prog 42 #[.pointer (some ⟨b, 0, none⟩), .int .i64 (d : Int)] w fun e w' => e = .returned (.bool (sml d A)) ∧ Below w.heap.size w w' := by
  obtain ⟨ao, cap, rfl⟩ := id h.shape
  have HH : Hid (Ls w (.slice ao A.length cap) A) := h
  have hmx : A.length ≤ 9223372036854775807 := by obtain ⟨_, _, _, h, _⟩ := h; exact h
  clear h
  go_enter Try.func42, Try.ntmps42
  go_wp2_with fail
  refine (is_any hb HH.out).mono ?_
  rintro e w1 ⟨rfl, hw1⟩
  rw [hw1]
  clear hw1
  cases hv : val A with
  | false =>
    have hz : Hid (sml d A = false) := by show _ = _; unfold sml; rw [hv]; rfl
    clear hv
    go_wp2_with fail
    go_ret
    exact ⟨by rw [hz.out]; rfl, Below.refl _ _⟩
  | true =>
    have HV : Hid (val A = true) := hv
    clear hv
    by_cases h1 : d + 1 ≤ A.length ∧ A.length ≤ 5
    · obtain ⟨h1a, h1b⟩ := h1
      have hz : Hid (sml d A = decide (inR (-20) 20 A)) := by show _ = _; unfold sml; rw [HV.out, decide_eq_true (show d + 1 ≤ A.length ∧ A.length ≤ 5 from ⟨h1a, h1b⟩)]; rfl
      obtain ⟨n, hn⟩ : ∃ n, n = A.length := ⟨_, rfl⟩
      have HN : Hid (n = A.length) := hn
      rw [← hn] at hb hmx h1a h1b HH
      clear hn
      go_wp2_with fail
      go_loopw [32] (fun i wr => ∃ (k : Nat), k ≤ n ∧ i = .int .i64 k ∧ Hid (∀ j, j < k → -20 ≤ at' A j ∧ at' A j ≤ 20) ∧ wr = w) (fun i _ => n - (intOf i).toNat)
      case atStart => exact ⟨0, by omega, rfl, fun j hj => by omega, rfl⟩
      case round =>
        obtain ⟨k, hk, rfl, hp, rfl⟩ := hrel
        by_cases hlt : k < n
        · obtain ⟨_, _, he, _, _, hc⟩ := HH.out
          simp only [Value.slice.injEq] at he
          obtain ⟨bb, off, hq, hlb, hcc⟩ := hc (by have := HN.out; omega)
          obtain rfl : ao = some ⟨bb, off, none⟩ := he.1.trans hq
          have hz1 := at_some A k (by have := HN.out; omega)
          have e1 := hcc k _ hz1
          obtain ⟨z, hz2⟩ : ∃ z, at' A k = z := ⟨_, rfl⟩
          have HZ2 : Hid (at' A k = z) := hz2
          rw [hz2] at e1
          clear hz1 hcc hc he hq hz2
          go_wp2_with fail
          refine (in_any z (-20) 20 wr).mono ?_
          rintro e w2 ⟨rfl, rfl⟩
          by_cases hzz : -20 ≤ z ∧ z ≤ 20
          · have hd1 : decide (-20 ≤ z ∧ z ≤ 20) = true := decide_eq_true hzz
            go_wp2_with fail
            go_roundw
            case rel =>
              refine ⟨k + 1, by omega, by go_num, fun j hj => ?_, by trivial⟩
              by_cases hjk : j = k
              · rw [hjk, HZ2.out]; exact hzz
              · exact hp.out j (by omega)
            case measure => simp [intOf]; omega
          · have hd1 : decide (-20 ≤ z ∧ z ≤ 20) = false := decide_eq_false hzz
            rw [hd1]
            go_wp2_with fail
            go_ret
            have hf : decide (inR (-20) 20 A) = false := decide_eq_false fun hin => by
              have := hin.at (by omega) (by omega) k
              rw [HZ2.out] at this
              exact hzz this
            exact ⟨by rw [hz.out, hf]; rfl, Below.refl _ _⟩
        · obtain rfl : k = n := by omega
          go_wp2_with fail
          go_ret
          have hf : decide (inR (-20) 20 A) = true := decide_eq_true (inR_of fun j y hj hy => by
            have := hp.out j (by have := HN.out; omega)
            rw [at_get hy] at this
            exact this)
          exact ⟨by rw [hz.out, hf]; rfl, Below.refl _ _⟩
    · have hz : Hid (sml d A = false) := by show _ = _; unfold sml; rw [decide_eq_false h1, Bool.false_and, Bool.and_false]
      generalize A.length = n at *
      go_wp2_with fail
      all_goals (go_ret; exact ⟨by rw [hz.out]; rfl, Below.refl _ _⟩)
end Go.Proofs.Ytbbdhbamooaloab.res
