/- Lists of 32-bit numbers: whether all are finite. A list that agrees with what is told up to the bits of not-a-numbers; the answer of a list of one's own, and whether there is one. -/
import Derived.Test.YtfmdbgpalldjoabFlsEqW
import Derived.Test.YtfmdbgpalldjoabMrf
import Derived.Test.YtfmdbgpalldjoabFinW
import Derived.Test.YtfmdbgpalldjoabFaP
import Derived.Test.YtfmdbgpalldjoabPost
namespace Go.Proofs.Ytfmdbgpalldjoab.fls
open Go.RowKit Go.Fl Go.Proofs.Ytfmdbgpalldjoab.sameFloat Go.Proofs.Ytfmdbgpalldjoab.fin

theorem fin_sm {a b : Nat} (h : Sm .f32 a b) : fin a = fin b := by
  rcases h with rfl | ⟨h, h'⟩
  · rfl
  · have h1 : (Ieee.single.read a).isNaN = true := h
    have h2 : (Ieee.single.read b).isNaN = true := h'
    unfold fin
    cases hd : Ieee.single.read a <;> cases he : Ieee.single.read b <;> simp_all [Ieee.Datum.isNaN]
/-- whether the first n are finite -/
def afin (f : Nat → Nat) : Nat → Bool
  | 0 => true
  | n + 1 => afin f n && fin (f n)
theorem afin_no {f : Nat → Nat} : ∀ {n k : Nat}, k < n → fin (f k) = false → afin f n = false
  | n + 1, k, hk, h => by
    unfold afin
    by_cases hkn : k = n
    · subst hkn; rw [h, Bool.and_false]
    · rw [afin_no (n := n) (k := k) (by omega) h, Bool.false_and]
theorem afin_congr {f g : Nat → Nat} : ∀ {n : Nat}, (∀ k, k < n → Sm .f32 (f k) (g k)) → afin f n = afin g n
  | 0, _ => rfl
  | n + 1, h => by
    unfold afin
    rw [afin_congr (n := n) (fun k hk => h k (by omega)), fin_sm (h n (by omega))]
theorem afin_fin {f : Nat → Nat} : ∀ {n k : Nat}, afin f n = true → k < n → fin (f k) = true
  | n + 1, k, h, hk => by
    unfold afin at h
    rw [Bool.and_eq_true] at h
    by_cases hkn : k = n
    · subst hkn; exact h.2
    · exact afin_fin (n := n) h.1 (by omega)

theorem sfin_any {v : Value} {n : Nat} {f : Nat → Nat} {w : World} (h : Fls w v n f) : Calls Try.prog 24 #[v] w fun e w' => e = .returned (.bool (afin f n)) ∧ ∃ m, w' = w.drewN m := by
  obtain ⟨ao, cap, rfl, hn, hc⟩ := h
  have hc' : Hid (n ≠ 0 → ∃ b off, ao = some ⟨b, off, none⟩ ∧ b < w.heap.size ∧ ∀ k, k < n → w.cell? ⟨b, off + k, none⟩ = some (.float .f32 (f k))) := hc
  clear hc
  go_enter Try.func24, Try.ntmps24
  go_wp2
  go_loopw [3] (fun i wr => ∃ (k : Nat), k ≤ n ∧ i = .int .i64 k ∧ Hid (afin f k = true) ∧ Hid (∃ m, wr = w.drewN m)) (fun i _ => n - (intOf i).toNat)
  case atStart => exact ⟨0, by omega, rfl, rfl, 0, rfl⟩
  case round =>
    obtain ⟨k, hk, rfl, ha, hm⟩ := hrel
    by_cases hlt : k < n
    · obtain ⟨b, off, rfl, _, hcell⟩ := hc'.out (by omega)
      have e1 : wr.cell? ⟨b, off + k, none⟩ = some (.float .f32 (f k)) := by obtain ⟨m, rfl⟩ := hm.out; exact hcell k hlt
      clear hcell
      have next : ∀ q, Hid (∃ m, wr.drewN q = w.drewN m) := fun q => by obtain ⟨m, rfl⟩ := hm.out; exact ⟨m + q, World.drewN_drewN _ _ _⟩
      clear hm
      have hy := fun w => l01_any (f k) w
      cases hf : fin (f k) with
      | true =>
        have HA : Hid (afin f (k + 1) = true) := by show _ = _; unfold afin; rw [ha.out, hf]; rfl
        rw [hf] at hy
        have HY := Lib.hid hy
        clear hy hf ha
        generalize f k = z at *
        go_wp2_with (first | (go_at_call 25; refine (HY.out _).mono ?_; rintro e w' ⟨rfl, q, rfl⟩))
        go_roundw
        case rel => exact ⟨k + 1, by omega, by go_num, HA, next _⟩
        case measure => simp [intOf]; omega
      | false =>
        have HA : Hid (afin f n = false) := afin_no hlt hf
        rw [hf] at hy
        have HY := Lib.hid hy
        clear hy hf ha
        generalize f k = z at *
        go_wp2_with (first | (go_at_call 25; refine (HY.out _).mono ?_; rintro e w' ⟨rfl, q, rfl⟩))
        go_ret
        exact ⟨(by rw [HA.out]; rfl), (next _).out⟩
    · obtain rfl : k = n := by omega
      go_wp2
      go_ret
      exact ⟨(by rw [ha.out]; rfl), hm.out⟩

theorem ifin_any {v : Value} {n : Nat} {f : Nat → Nat} {w : World} (h : Fls w v n f) : Calls Try.prog 30 #[v] w fun e w' => e = .returned (.bool (afin f n)) ∧ ∃ m, w' = w.drewN m := by
  obtain ⟨ao, cap, rfl, hn, hc⟩ := h
  have hc' : Hid (n ≠ 0 → ∃ b off, ao = some ⟨b, off, none⟩ ∧ b < w.heap.size ∧ ∀ k, k < n → w.cell? ⟨b, off + k, none⟩ = some (.float .f32 (f k))) := hc
  clear hc
  go_enter Try.func30, Try.ntmps30
  go_wp2
  go_loopw [7] (fun i wr => ∃ (k : Nat), k ≤ n ∧ i = .int .i64 k ∧ Hid (afin f k = true) ∧ Hid (∃ m, wr = w.drewN m)) (fun i _ => n - (intOf i).toNat)
  case atStart => exact ⟨0, by omega, rfl, rfl, 0, rfl⟩
  case round =>
    obtain ⟨k, hk, rfl, ha, hm⟩ := hrel
    by_cases hlt : k < n
    · obtain ⟨b, off, rfl, _, hcell⟩ := hc'.out (by omega)
      have e1 : wr.cell? ⟨b, off + k, none⟩ = some (.float .f32 (f k)) := by obtain ⟨m, rfl⟩ := hm.out; exact hcell k hlt
      clear hcell
      have next : ∀ q, Hid (∃ m, wr.drewN q = w.drewN m) := fun q => by obtain ⟨m, rfl⟩ := hm.out; exact ⟨m + q, World.drewN_drewN _ _ _⟩
      clear hm
      have hy := fun w => fin.impl_any (f k) w
      cases hf : fin (f k) with
      | true =>
        have HA : Hid (afin f (k + 1) = true) := by show _ = _; unfold afin; rw [ha.out, hf]; rfl
        rw [hf] at hy
        have HY := Lib.hid hy
        clear hy hf ha
        generalize f k = z at *
        go_wp2_with (first | (go_at_call 31; refine (HY.out _).mono ?_; rintro e w' ⟨rfl, q, rfl⟩))
        go_roundw
        case rel => exact ⟨k + 1, by omega, by go_num, HA, next _⟩
        case measure => simp [intOf]; omega
      | false =>
        have HA : Hid (afin f n = false) := afin_no hlt hf
        rw [hf] at hy
        have HY := Lib.hid hy
        clear hy hf ha
        generalize f k = z at *
        go_wp2_with (first | (go_at_call 31; refine (HY.out _).mono ?_; rintro e w' ⟨rfl, q, rfl⟩))
        go_ret
        exact ⟨(by rw [HA.out]; rfl), (next _).out⟩
    · obtain rfl : k = n := by omega
      go_wp2
      go_ret
      exact ⟨(by rw [ha.out]; rfl), hm.out⟩

/-- n values of a list, the same as F 0, F 1, .. up to the bits of not-a-numbers -/
def FL (L : List Value) (n : Nat) (F : Nat → Nat) : Prop := L.length = n ∧ ∀ k, k < n → ∃ b, L[k]? = some (.float .f32 b) ∧ Sm .f32 b (F k)
theorem FL.get {L : List Value} {n : Nat} {F : Nat → Nat} (h : FL L n F) : ∃ f : Nat → Nat, (∀ k, k < n → L[k]? = some (.float .f32 (f k))) ∧ ∀ k, k < n → Sm .f32 (f k) (F k) := by
  refine ⟨fun k => match L[k]? with | some (.float _ b) => b | _ => 0, fun k hk => ?_, fun k hk => ?_⟩
  · obtain ⟨b, hb, _⟩ := h.2 k hk
    simp only [hb]
  · obtain ⟨b, hb, hs⟩ := h.2 k hk
    simp only [hb]
    exact hs
theorem FL.nil (F : Nat → Nat) : FL [] 0 F := ⟨rfl, fun k hk => by omega⟩
theorem FL.snoc {L : List Value} {n : Nat} {F : Nat → Nat} (h : FL L n F) {b : Nat} (hb : Sm .f32 b (F n)) : FL (L ++ [.float .f32 b]) (n + 1) F := by
  refine ⟨by rw [List.length_append, h.1]; rfl, fun k hk => ?_⟩
  by_cases hkn : k = n
  · subst hkn
    exact ⟨b, by rw [List.getElem?_append_right (by rw [h.1]; omega), h.1]; simp, hb⟩
  · obtain ⟨c, hc, hs⟩ := h.2 k (by omega)
    exact ⟨c, by rw [List.getElem?_append_left (by rw [h.1]; omega)]; exact hc, hs⟩
theorem FL.set {L : List Value} {n k : Nat} {F : Nat → Nat} (hl : L.length = n) (h : ∀ j, j < k → ∃ b, L[j]? = some (.float .f32 b) ∧ Sm .f32 b (F j)) (hk : k < n) {b : Nat} (hb : Sm .f32 b (F k)) : ∀ j, j < k + 1 → ∃ c, (L.set k (.float .f32 b))[j]? = some (.float .f32 c) ∧ Sm .f32 c (F j) := by
  intro j hj
  by_cases hjk : j = k
  · subst hjk
    exact ⟨b, by rw [List.getElem?_set_self (by omega)], hb⟩
  · rw [List.getElem?_set_ne (by omega)]
    exact h j (by omega)

/-- an ending that answers so: a list of n in memory of its own, and whether there is one -/
def FAns (n : Nat) (g : Bool) (F : Nat → Nat) (w : World) (e : Ending) (w' : World) : Prop :=
  ∃ v L, e = .returned (.tuple #[v, .bool g]) ∧ w'.ownsRow w.heap.size 31 1 v n L ∧ FL L n F ∧ Below w.heap.size w w'
theorem FAns.no {F : Nat → Nat} {w w' : World} (hb : Below w.heap.size w w') : FAns 0 false F w (.returned (.tuple #[.slice none 0 0, .bool false])) w' :=
  ⟨_, [], rfl, ⟨rfl, .inl ⟨rfl, rfl⟩⟩, FL.nil F, hb⟩

set_option maxHeartbeats 1600000 in
theorem eqs_any {v0 v1 : Value} {n : Nat} {f g : Nat → Nat} {w : World} (h0 : Fls w v0 n f) (h1 : Fls w v1 n g) (hs : ∀ k, k < n → Sm .f32 (f k) (g k)) :
    Calls Try.prog 14 #[v0, v1] w fun e w' => e = .returned (.bool true) ∧ ∃ m, w' = w.drewN m := by
  obtain ⟨ao, cap, rfl, hn, hc0⟩ := h0
  obtain ⟨bo, cap1, rfl, _, hc1⟩ := h1
  have hc0' : Hid (n ≠ 0 → ∃ b off, ao = some ⟨b, off, none⟩ ∧ b < w.heap.size ∧ ∀ k, k < n → w.cell? ⟨b, off + k, none⟩ = some (.float .f32 (f k))) := hc0
  have hc1' : Hid (n ≠ 0 → ∃ b off, bo = some ⟨b, off, none⟩ ∧ b < w.heap.size ∧ ∀ k, k < n → w.cell? ⟨b, off + k, none⟩ = some (.float .f32 (g k))) := hc1
  have HS := Lib.hid hs
  clear hc0 hc1 hs
  go_enter Try.func14, Try.ntmps14
  go_wp2
  go_loopw [5] (fun i wr => ∃ (k : Nat), k ≤ n ∧ i = .int .i64 k ∧ Hid (∃ m, wr = w.drewN m)) (fun i _ => n - (intOf i).toNat)
  case atStart => exact ⟨0, by omega, rfl, 0, rfl⟩
  case round =>
    obtain ⟨k, hk, rfl, hm⟩ := hrel
    by_cases hlt : k < n
    · obtain ⟨b, off, rfl, _, hcell⟩ := hc0'.out (by omega)
      obtain ⟨b', off', rfl, _, hcell'⟩ := hc1'.out (by omega)
      have e1 : wr.cell? ⟨b, off + k, none⟩ = some (.float .f32 (f k)) := by obtain ⟨m, rfl⟩ := hm.out; exact hcell k hlt
      have e2 : wr.cell? ⟨b', off' + k, none⟩ = some (.float .f32 (g k)) := by obtain ⟨m, rfl⟩ := hm.out; exact hcell' k hlt
      clear hcell hcell'
      have next : ∀ q, Hid (∃ m, wr.drewN q = w.drewN m) := fun q => by obtain ⟨m, rfl⟩ := hm.out; exact ⟨m + q, World.drewN_drewN _ _ _⟩
      clear hm
      have hk' := HS.out k hlt
      cases hN : isN .f32 (f k) with
      | false =>
        obtain e := hk'.eq_of_not hN
        rw [← e] at e2
        obtain ⟨r, hr, hrun⟩ := wide_num_run hN
        have hq := fun w => same_any r r (Sm.refl _ _) w
        clear hN hk' e
        generalize f k = z at *
        go_wp2_with fail
        go_quiet (first | (go_at_call 13; exact Calls.quiet_of (hq _)))
        go_wp2
        go_roundw
        case rel => exact ⟨k + 1, by omega, by go_num, next _⟩
        case measure => simp [intOf]; omega
      | true =>
        have hN2 : isN .f32 (g k) = true := by rw [← hk'.isN]; exact hN
        have hrun := fun w => wide_nan_run hN w
        have hrun2 := fun w => wide_nan_run hN2 w
        have hq := fun w w1 w2 => same_nan (nv_nan (f k) w1) (nv_nan (g k) w2) w
        clear hN hN2 hk'
        generalize nv (f k) = gg at *
        generalize nv (g k) = gh at *
        generalize f k = z at *
        generalize g k = z' at *
        go_wp2_with fail
        go_region_with (first | (go_at_call 13; refine (hq _ _ _).mono ?_; rintro e w' ⟨rfl, n, rfl⟩))
        all_goals
          go_wp2
          go_roundw
          case rel => exact ⟨k + 1, by omega, by go_num, next _⟩
          case measure => simp [intOf]; omega
    · obtain rfl : k = n := by omega
      obtain ⟨m, rfl⟩ := hm.out
      go_wp2
      go_ret
      exact ⟨rfl, _, rfl⟩
end Go.Proofs.Ytfmdbgpalldjoab.fls
