/- NumbersText and its model return the same of every list. -/
import Derived.Test.YtclogbnecgfndaaFlsEqW
import Derived.Test.YtclogbnecgfndaaSumNumbersW
import Derived.Test.YtclogbnecgfndaaHexW
import Derived.Test.YtclogbnecgfndaaNtP
import Derived.Test.YtclogbnecgfndaaJShelf
import Derived.Shelf.Strings.OnBuilder
import Derived.Test.YtclogbnecgfndaaPost
namespace Go.Proofs.Ytclogbnecgfndaa.nt
open Go.RowKit Go.Nt Go.Proofs.Ytclogbnecgfndaa.fls Go.Proofs.Ytclogbnecgfndaa.hex Go.Shelf

/-- the texts of the numbers -/
def gx (f : Nat → Nat) (k : Nat) : List UInt8 := hx (f k)
theorem gx_len (f : Nat → Nat) (k : Nat) : (gx f k).length ≤ 8 := by unfold gx hx; rw [Hex.hex_length]; omega
/-- an ending that answers so -/
def Ans (n : Nat) (f : Nat → Nat) (e : Ending) : Prop := e = .returned (.tuple #[.string (ans n (gx f)), .bool (decide (n ≤ 256))])

set_option maxHeartbeats 1600000 in
theorem text_any {v : Value} {n : Nat} {f : Nat → Nat} {w : World} (h : Fls w v n f) (hf : ∀ k, k < n → (f k : Int) ≤ 4294967295) (hg : n ≤ 256) :
    Calls Try.prog 105 #[v] w fun e w' => e = .returned (.string (text n (gx f))) ∧ Below w.heap.size w w' := by
  obtain ⟨ao, cap, rfl, hn, hc⟩ := h
  have HR : Hid (∀ k, k < n → (f k : Int) ≤ 4294967295) := hf
  clear hf
  by_cases h0 : n = 0
  · subst h0
    clear hc
    go_enter Try.func105, Try.ntmps105
    go_wp2
    go_ret
    exact ⟨rfl, Below.refl _ _⟩
  · obtain ⟨b, off, rfl, hbw, hcell⟩ := hc h0
    have HC : Hid (∀ k, k < n → w.cell? ⟨b, off + k, none⟩ = some (.float .f32 (f k))) := hcell
    have HB : Hid (b < w.heap.size) := hbw
    have c0 : w.cell? ⟨b, off, none⟩ = some (.float .f32 (f 0)) := hcell 0 (by omega)
    have hcall := hex.spec_any (f 0) (HR.out 0 (by omega)) w
    clear hc hcell hbw
    have hn0 : 0 < n := by omega
    have hb0 : ((n : Int) == 0) = false := by rw [beq_eq_false_iff_ne]; omega
    clear h0
    have htx : Hid (hx (f 0) = tx (gx f) 0) := (tx_zero (gx f)).symm
    generalize f 0 = z at c0 hcall htx
    go_enter Try.func105, Try.ntmps105
    go_wp2_with fail
    refine hcall.mono ?_
    rintro e w1 ⟨rfl, b1⟩
    have B1 : Hid (Below w.heap.size w w1) := b1
    clear b1 hcall c0
    rw [htx.out]
    go_wp2_with fail
    go_loopw [3, 4] (fun o i wr => ∃ (m : Nat), m < n ∧ i = .int .i64 ((m + 1 : Nat) : Int) ∧ o = .string ⟨(tx (gx f) m).toArray⟩ ∧ Hid (Below w.heap.size w wr)) (fun _ i _ => n - (intOf i).toNat)
    case atStart => exact ⟨0, hn0, rfl, rfl, B1⟩
    case round =>
      obtain ⟨m, hm, rfl, rfl, hb⟩ := hrel
      by_cases hlt : m + 1 < n
      · have e1 : wr.cell? ⟨b, off + (m + 1), none⟩ = some (.float .f32 (f (m + 1))) := (hb.out.cell HB.out).trans (HC.out (m + 1) hlt)
        have hcall := hex.spec_any (f (m + 1)) (HR.out (m + 1) hlt) wr
        have hct : Hid (Value.string ((⟨(tx (gx f) m).toArray⟩ : ByteArray) ++ ((⟨#[44]⟩ : ByteArray) ++ (⟨(hx (f (m + 1))).toArray⟩ : ByteArray))) = .string ⟨(tx (gx f) (m + 1)).toArray⟩) := by show _ = _; rw [← cat (gx f) m]; rfl
        obtain ⟨u', hu⟩ : ∃ u', Hid (u' = tx (gx f) (m + 1)) := ⟨_, rfl⟩
        rw [← hu.out] at hct
        have hl1 := tx_len (gx f) (gx_len f) m
        have hl2 : (hx (f (m + 1))).length ≤ 8 := gx_len f (m + 1)
        generalize hx (f (m + 1)) = t at *
        generalize f (m + 1) = z at *
        generalize tx (gx f) m = u at *
        go_wp2_with fail
        refine hcall.mono ?_
        rintro e w2 ⟨rfl, b2⟩
        have B2 : Hid (Below w.heap.size w w2) := hb.out.trans (b2.mono hb.out.size)
        clear b2 hcall hb
        go_wp2_with fail
        go_roundw
        case rel => exact ⟨m + 1, hlt, by go_num, by rw [hct.out, hu.out], B2⟩
        case measure => simp [intOf]; omega
      · obtain rfl : n = m + 1 := by omega
        go_wp2
        go_ret
        exact ⟨by simp [text], hb.out⟩

theorem spec_any {v : Value} {n : Nat} {f : Nat → Nat} {w : World} (h : Fls w v n f) (hf : ∀ k, k < n → (f k : Int) ≤ 4294967295) :
    Calls Try.prog 55 #[v] w fun e w' => Ans n f e ∧ Below w.heap.size w w' := by
  obtain ⟨ao, cap, hv, hn, hc⟩ := id h
  by_cases h256 : n ≤ 256
  · have ht := text_any h hf h256
    have HA : Hid (Ans n f (.returned (.tuple #[.string (text n (gx f)), .bool true]))) := by show _ = _; unfold ans; rw [if_pos h256, decide_eq_true h256]
    subst hv
    clear hc h hf
    generalize text n (gx f) = t at *
    go_enter Try.func55, Try.ntmps55
    go_wp2_with (first | (go_at_call 101; refine (fnExactSumNumbersW.few_yes _ _ _ h256 _).mono ?_; rintro e w' ⟨rfl, hw0⟩; rw [← hw0]; clear hw0))
    refine ht.mono ?_
    rintro e w' ⟨rfl, hb⟩
    have HB : Hid (Below w.heap.size w w') := hb
    clear hb ht
    go_wp2_with fail
    go_ret2
    exact ⟨HA.out, HB.out⟩
  · have HA : Hid (Ans n f (.returned (.tuple #[.string ⟨#[]⟩, .bool false]))) := by show _ = _; unfold ans; rw [if_neg h256, decide_eq_false h256]
    subst hv
    clear hc h hf
    go_enter Try.func55, Try.ntmps55
    go_wp2_with (first | (go_at_call 101; refine (fnExactSumNumbersW.few_no _ _ _ h256 _).mono ?_; rintro e w' ⟨rfl, hw0⟩; rw [← hw0]; clear hw0))
    go_ret2
    exact ⟨HA.out, Below.refl _ _⟩
end Go.Proofs.Ytclogbnecgfndaa.nt
