/- The model's text of a list of numbers. -/
import Derived.Test.YtdeoemeibbkdoaaDoorRdW
import Derived.Test.YtdeoemeibbkdoaaDoorIlsW
import Derived.Test.YtdeoemeibbkdoaaDoorLtP
namespace Go.Proofs.YtdeoemeibbkdoaaDoor.lt
open Go.RowKit Go.Lib Go.Rd Go.Lt Go.Proofs.YtdeoemeibbkdoaaDoor.dec Go.Proofs.YtdeoemeibbkdoaaDoor.ils

theorem cat (f : Nat → Int) (m : Nat) : ((⟨(tx f m).toArray⟩ : ByteArray) ++ ((⟨#[44]⟩ : ByteArray) ++ (⟨(itoa (f (m + 1))).toArray⟩ : ByteArray))) = ⟨(tx f (m + 1)).toArray⟩ := by
  apply ByteArray.ext
  simp [tx_succ, ByteArray.data_append]

theorem text_any {v : Value} {n : Nat} {f : Nat → Int} {w : World} (h : Ils w v n f) (hg : n ≤ 64) (hr : ∀ k, k < n → inR (f k)) :
    Calls Tryd.prog 30 #[v] w fun e w' => e = .returned (.string (text n f)) ∧ Below w.heap.size w w' := by
  obtain ⟨ao, cap, rfl, hn, hc⟩ := h
  have HR : Hid (∀ k, k < n → inR (f k)) := hr
  clear hr
  by_cases h0 : n = 0
  · subst h0
    go_enter Tryd.func30, Tryd.ntmps30
    go_wp2
    go_ret
    exact ⟨rfl, Below.refl _ _⟩
  · obtain ⟨b, off, rfl, hbw, hcell⟩ := hc h0
    have HC : Hid (∀ k, k < n → w.cell? ⟨b, off + k, none⟩ = some (.int .i64 (f k))) := hcell
    have HB : Hid (b < w.heap.size) := hbw
    have c0 : w.cell? ⟨b, off, none⟩ = some (.int .i64 (f 0)) := hcell 0 (by omega)
    have r0 := HR.out 0 (by omega)
    have hcall := l01_any (f 0) (by unfold inR at r0; omega) (by unfold inR at r0; omega) w
    clear hc hcell hbw r0
    have hn0 : 0 < n := by omega
    have hb0 : ((n : Int) == 0) = false := by rw [beq_eq_false_iff_ne]; omega
    clear h0
    have htx : Hid ((itoa (f 0)) = tx f 0) := (tx_zero f).symm
    generalize f 0 = z at c0 hcall htx
    go_enter Tryd.func30, Tryd.ntmps30
    go_wp2_with fail
    refine hcall.mono ?_
    rintro e w1 ⟨rfl, b1⟩
    have B1 : Hid (Below w.heap.size w w1) := b1
    clear b1 hcall c0
    rw [htx.out]
    go_wp2_with fail
    go_loopw [3, 4] (fun o i wr => ∃ (m : Nat), m < n ∧ i = .int .i64 ((m + 1 : Nat) : Int) ∧ o = .string ⟨(tx f m).toArray⟩ ∧ Hid (Below w.heap.size w wr)) (fun _ i _ => n - (intOf i).toNat)
    case atStart => exact ⟨0, hn0, rfl, rfl, B1⟩
    case round =>
      obtain ⟨m, hm, rfl, rfl, hb⟩ := hrel
      by_cases hlt : m + 1 < n
      · have e1 : wr.cell? ⟨b, off + (m + 1), none⟩ = some (.int .i64 (f (m + 1))) := (hb.out.cell HB.out).trans (HC.out (m + 1) hlt)
        have r1 := HR.out (m + 1) hlt
        have hcall := l01_any (f (m + 1)) (by unfold inR at r1; omega) (by unfold inR at r1; omega) wr
        have hct : Hid (∀ t, t = itoa (f (m + 1)) → Value.string ((⟨(tx f m).toArray⟩ : ByteArray) ++ ((⟨#[44]⟩ : ByteArray) ++ (⟨t.toArray⟩ : ByteArray))) = .string ⟨(tx f (m + 1)).toArray⟩) := fun t ht => by rw [ht, cat f m]
        replace hct : Hid (Value.string ((⟨(tx f m).toArray⟩ : ByteArray) ++ ((⟨#[44]⟩ : ByteArray) ++ (⟨(itoa (f (m + 1))).toArray⟩ : ByteArray))) = .string ⟨(tx f (m + 1)).toArray⟩) := hct.out _ rfl
        have hu : ∃ u', Hid (u' = tx f (m + 1)) := ⟨_, rfl⟩
        obtain ⟨u', hu⟩ := hu
        rw [← hu.out] at hct
        have hl1 := tx_len f n HR.out m hm
        have hl2 := itoa_in _ r1
        clear r1
        generalize f (m + 1) = z at *
        generalize itoa z = t at *
        generalize tx f m = u at *
        go_wp2_with fail
        refine hcall.mono ?_
        rintro e w2 ⟨rfl, b2⟩
        have B2 : Hid (Below w.heap.size w w2) := hb.out.trans (b2.mono hb.out.size)
        clear b2 hcall hb
        go_wp2_with fail
        go_roundw
        case rel => exact ⟨m + 1, hlt, by go_num, by rw [hct.out, hu.out], B2⟩
        case measure => simp [intOf]; omega
      · obtain rfl : n = m + 1 := by omega
        go_wp2
        go_ret
        exact ⟨by simp [text], hb.out⟩

/-- an ending that answers so -/
def Ans (n : Nat) (f : Nat → Int) (e : Ending) : Prop := e = .returned (.tuple #[.string (ans n f), .bool (good n f)])

end Go.Proofs.YtdeoemeibbkdoaaDoor.lt
