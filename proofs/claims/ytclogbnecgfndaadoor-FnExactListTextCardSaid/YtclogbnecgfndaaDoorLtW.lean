/- The model's text of a list of numbers. -/
import Derived.Test.YtclogbnecgfndaaDoorRdW
import Derived.Test.YtclogbnecgfndaaDoorIlsW
import Derived.Test.YtclogbnecgfndaaDoorLtP
namespace Go.Proofs.YtclogbnecgfndaaDoor.lt
open Go.RowKit Go.Lib Go.Rd Go.Lt Go.Proofs.YtclogbnecgfndaaDoor.dec Go.Proofs.YtclogbnecgfndaaDoor.ils

theorem list_any {v : Value} {n : Nat} {f : Nat → Int} {w : World} (h : Ils w v n f) :
    Calls Tryd.prog 41 #[v] w fun e w' => e = .returned (.bool (good n f)) ∧ w' = w := by
  obtain ⟨ao, cap, rfl, hn, hc⟩ := h
  have hc' : Hid (n ≠ 0 → ∃ b off, ao = some ⟨b, off, none⟩ ∧ b < w.heap.size ∧ ∀ k, k < n → w.cell? ⟨b, off + k, none⟩ = some (.int .i64 (f k))) := hc
  clear hc
  go_enter Tryd.func41, Tryd.ntmps41
  go_wp2
  go_loop [3] (fun i => ∃ (k : Nat), k ≤ n ∧ i = .int .i64 k ∧ Hid (∀ j, j < k → inR (f j))) (fun i => n - (intOf i).toNat)
  case atStart => exact ⟨0, by omega, rfl, fun j hj => by omega⟩
  case round =>
    obtain ⟨k, hk, rfl, hr⟩ := hrel
    by_cases hlt : k < n
    · obtain ⟨b, off, rfl, _, hcell⟩ := hc'.out (by omega)
      have e1 := hcell k hlt
      clear hcell
      by_cases hin : inR (f k)
      · have HR : Hid (∀ j, j < k + 1 → inR (f j)) := fun j hj => by
          by_cases e : j = k
          · rw [e]; exact hin
          · exact hr.out j (by omega)
        clear hr
        unfold inR at hin
        generalize f k = z at *
        go_wp2_with (first | (go_at_call 60; refine (rd.in_yes _ _ _ hin.1 hin.2 _).mono ?_; rintro e w' ⟨rfl, rfl⟩))
        go_round
        case rel => exact ⟨k + 1, by omega, by go_num, HR⟩
        case measure => simp [intOf]; omega
      · have HG : Hid (good n f = false) := good_no hlt hin
        have hin' : f k < -1000000000000000 ∨ 1000000000000000 < f k := by unfold inR at hin; omega
        clear hr hin
        generalize f k = z at *
        go_wp2_with (first | (go_at_call 60; refine (rd.in_no _ _ _ hin' _).mono ?_; rintro e w' ⟨rfl, rfl⟩))
        go_ret
        exact ⟨by rw [HG.out]; rfl, rfl⟩
    · obtain rfl : k = n := by omega
      by_cases h64 : k ≤ 64
      · have HG : Hid (good k f = true) := good_yes h64 hr.out
        have d1 : decide ((k : Int) ≤ 64) = true := by rw [decide_eq_true_eq]; omega
        clear hr
        go_wp2
        go_ret
        exact ⟨by rw [HG.out]; first | rfl | (simp; omega), rfl⟩
      · have HG : Hid (good k f = false) := good_many h64
        have d1 : decide ((k : Int) ≤ 64) = false := by rw [decide_eq_false_iff_not]; omega
        clear hr
        go_wp2
        go_ret
        exact ⟨by rw [HG.out]; first | rfl | (simp; omega), rfl⟩

theorem cat (f : Nat → Int) (m : Nat) : ((⟨(tx f m).toArray⟩ : ByteArray) ++ ((⟨#[44]⟩ : ByteArray) ++ (⟨(itoa (f (m + 1))).toArray⟩ : ByteArray))) = ⟨(tx f (m + 1)).toArray⟩ := by
  apply ByteArray.ext
  simp [tx_succ, ByteArray.data_append]

theorem text_any {v : Value} {n : Nat} {f : Nat → Int} {w : World} (h : Ils w v n f) (hg : n ≤ 64) (hr : ∀ k, k < n → inR (f k)) :
    Calls Tryd.prog 42 #[v] w fun e w' => e = .returned (.string (text n f)) ∧ Below w.heap.size w w' := by
  obtain ⟨ao, cap, rfl, hn, hc⟩ := h
  have HR : Hid (∀ k, k < n → inR (f k)) := hr
  clear hr
  by_cases h0 : n = 0
  · subst h0
    go_enter Tryd.func42, Tryd.ntmps42
    go_wp2
    go_ret
    exact ⟨rfl, Below.refl _ _⟩
  · obtain ⟨b, off, rfl, hbw, hcell⟩ := hc h0
    have HC : Hid (∀ k, k < n → w.cell? ⟨b, off + k, none⟩ = some (.int .i64 (f k))) := hcell
    have HB : Hid (b < w.heap.size) := hbw
    have c0 : w.cell? ⟨b, off, none⟩ = some (.int .i64 (f 0)) := hcell 0 (by omega)
    have r0 := HR.out 0 (by omega)
    have hcall := l01_any (f 0) (by unfold inR at r0; omega) (by unfold inR at r0; omega) w
    clear hc hcell hbw r0
    have hn0 : 0 < n := by omega
    have hb0 : ((n : Int) == 0) = false := by rw [beq_eq_false_iff_ne]; omega
    clear h0
    have htx : Hid ((itoa (f 0)) = tx f 0) := (tx_zero f).symm
    generalize f 0 = z at c0 hcall htx
    go_enter Tryd.func42, Tryd.ntmps42
    go_wp2_with fail
    refine hcall.mono ?_
    rintro e w1 ⟨rfl, b1⟩
    have B1 : Hid (Below w.heap.size w w1) := b1
    clear b1 hcall c0
    rw [htx.out]
    go_wp2_with fail
    go_loopw [3, 4] (fun o i wr => ∃ (m : Nat), m < n ∧ i = .int .i64 ((m + 1 : Nat) : Int) ∧ o = .string ⟨(tx f m).toArray⟩ ∧ Hid (Below w.heap.size w wr)) (fun _ i _ => n - (intOf i).toNat)
    case atStart => exact ⟨0, hn0, rfl, rfl, B1⟩
    case round =>
      obtain ⟨m, hm, rfl, rfl, hb⟩ := hrel
      by_cases hlt : m + 1 < n
      · have e1 : wr.cell? ⟨b, off + (m + 1), none⟩ = some (.int .i64 (f (m + 1))) := (hb.out.cell HB.out).trans (HC.out (m + 1) hlt)
        have r1 := HR.out (m + 1) hlt
        have hcall := l01_any (f (m + 1)) (by unfold inR at r1; omega) (by unfold inR at r1; omega) wr
        have hct : Hid (∀ t, t = itoa (f (m + 1)) → Value.string ((⟨(tx f m).toArray⟩ : ByteArray) ++ ((⟨#[44]⟩ : ByteArray) ++ (⟨t.toArray⟩ : ByteArray))) = .string ⟨(tx f (m + 1)).toArray⟩) := fun t ht => by rw [ht, cat f m]
        replace hct : Hid (Value.string ((⟨(tx f m).toArray⟩ : ByteArray) ++ ((⟨#[44]⟩ : ByteArray) ++ (⟨(itoa (f (m + 1))).toArray⟩ : ByteArray))) = .string ⟨(tx f (m + 1)).toArray⟩) := hct.out _ rfl
        have hu : ∃ u', Hid (u' = tx f (m + 1)) := ⟨_, rfl⟩
        obtain ⟨u', hu⟩ := hu
        rw [← hu.out] at hct
        have hl1 := tx_len f n HR.out m hm
        have hl2 := itoa_in _ r1
        clear r1
        generalize f (m + 1) = z at *
        generalize itoa z = t at *
        generalize tx f m = u at *
        go_wp2_with fail
        refine hcall.mono ?_
        rintro e w2 ⟨rfl, b2⟩
        have B2 : Hid (Below w.heap.size w w2) := hb.out.trans (b2.mono hb.out.size)
        clear b2 hcall hb
        go_wp2_with fail
        go_roundw
        case rel => exact ⟨m + 1, hlt, by go_num, by rw [hct.out, hu.out], B2⟩
        case measure => simp [intOf]; omega
      · obtain rfl : n = m + 1 := by omega
        go_wp2
        go_ret
        exact ⟨by simp [text], hb.out⟩

/-- an ending that answers so -/
def Ans (n : Nat) (f : Nat → Int) (e : Ending) : Prop := e = .returned (.tuple #[.string (ans n f), .bool (good n f)])

theorem spec_any {v : Value} {n : Nat} {f : Nat → Int} {w : World} (h : Ils w v n f) :
    Calls Tryd.prog 21 #[v] w fun e w' => Ans n f e ∧ Below w.heap.size w w' := by
  have hl := list_any h
  cases hg : good n f with
  | false =>
    rw [hg] at hl
    have HA : Hid (Ans n f (.returned (.tuple #[.string ⟨#[]⟩, .bool false]))) := by show _ = _; unfold ans; rw [hg]; rfl
    clear h hg
    go_enter Tryd.func21, Tryd.ntmps21
    go_wp2_with fail
    refine hl.mono ?_
    rintro e w' ⟨rfl, rfl⟩
    go_wp2_with fail
    go_ret2
    exact ⟨HA.out, Below.refl _ _⟩
  | true =>
    rw [hg] at hl
    obtain ⟨h64, hr⟩ := good_in hg
    have ht := text_any h h64 hr
    have HA : Hid (Ans n f (.returned (.tuple #[.string (text n f), .bool true]))) := by show _ = _; unfold ans; rw [hg]; rfl
    clear h hg hr
    generalize text n f = t at *
    go_enter Tryd.func21, Tryd.ntmps21
    go_wp2_with fail
    refine hl.mono ?_
    rintro e w0 ⟨rfl, hw0⟩
    rw [hw0]
    clear hw0 hl
    go_wp2_with fail
    refine ht.mono ?_
    rintro e w' ⟨rfl, hb⟩
    have HB : Hid (Below w.heap.size w w') := hb
    clear hb ht
    go_wp2_with fail
    go_ret2
    exact ⟨HA.out, HB.out⟩
end Go.Proofs.YtclogbnecgfndaaDoor.lt
