/- The program's reading of one number. -/
import Derived.Test.YtnodnopolhdfhaaDoorRnW
import Derived.Test.YtnodnopolhdfhaaDoorBitsIW
import Derived.Laws.RangeString
import Derived.Laws.RangeAny
namespace Go.Proofs.YtnodnopolhdfhaaDoor.rn
open Go.RowKit Go.Lib Go.Fl Go.Rl Go.Rg Go.Proofs.YtnodnopolhdfhaaDoor.bits

theorem digit_yes (c : Nat) (h : dv c < 16) (w : World) : Calls Tryd.prog 104 #[.int .i32 c] w fun e w' => e = .returned (.tuple #[.int .i64 (dv c), .bool true]) ∧ w' = w := by
  rcases kinds c with ⟨c0, c1⟩ | ⟨c0, c1⟩ | c0 | ⟨c0, c1⟩ | c0
  · have e : Hid ((dv c : Int) = (c : Int) - 48) := by show _ = _; rw [dv_dig c0 c1]; omega
    clear h
    go_enter Tryd.func104, Tryd.ntmps104
    go_wp2
    go_ret2
    exact ⟨by rw [e.out]; try rfl, rfl⟩
  · have e : Hid ((dv c : Int) = (c : Int) - 87) := by show _ = _; rw [dv_let c0 c1]; omega
    clear h
    go_enter Tryd.func104, Tryd.ntmps104
    go_wp2
    go_ret2
    have e2 : (c : Int) - 97 + 10 = (c : Int) - 87 := by omega
    exact ⟨by rw [e.out, ← e2]; try rfl, rfl⟩
  · exact absurd (dv_not (c := c) (by omega)) (by omega)
  · exact absurd (dv_not (c := c) (by omega)) (by omega)
  · exact absurd (dv_not (c := c) (by omega)) (by omega)
theorem digit_no (c : Nat) (h : dv c = 16) (w : World) : Calls Tryd.prog 104 #[.int .i32 c] w fun e w' => e = .returned (.tuple #[.int .i64 0, .bool false]) ∧ w' = w := by
  rcases kinds c with ⟨c0, c1⟩ | ⟨c0, c1⟩ | c0 | ⟨c0, c1⟩ | c0
  · have := dv_dig c0 c1; omega
  · have := dv_let c0 c1; omega
  · clear h
    go_enter Tryd.func104, Tryd.ntmps104
    go_wp2
    go_ret2
    exact ⟨rfl, rfl⟩
  · clear h
    go_enter Tryd.func104, Tryd.ntmps104
    go_wp2
    go_ret2
    exact ⟨rfl, rfl⟩
  · clear h
    go_enter Tryd.func104, Tryd.ntmps104
    go_wp2
    go_ret2
    exact ⟨rfl, rfl⟩

/-- the rune at a byte that is no digit is no digit -/
theorem rune_no (s : ByteArray) (pos : Nat) (h : pos < s.size) (hl : dv s[pos].toNat = 16) : dv (Utf8.decode s pos).1 = 16 := by
  by_cases ha : s[pos].toNat < 128
  · rw [decode_ascii s pos h ha]
    exact hl
  · have hr : 102 < (Utf8.decode s pos).1 := by
      have e : s.get! (pos + 0) = s[pos]'h := by
        show s.get! pos = _
        simp [ByteArray.get!, getElem!_pos, h]
        rfl
      simp only [Utf8.decode, e, ha, if_false]
      repeat' split
      all_goals simp_all [Utf8.runeError]
      all_goals omega
    exact dv_not (by omega)

theorem fromI_any (b : Nat) (hb : b ≤ 4294967295) (w : World) : Calls Tryd.prog 10 #[.int .i64 b] w fun e w' => e = .returned (.tuple #[.float .f32 b, .bool true]) ∧ w' = w := by
  have h := call_from b
  go_enter Tryd.func10, Tryd.ntmps10
  go_wp2
  go_ret2
  exact ⟨rfl, rfl⟩

/-- what reading one number answers -/
def NAns (s : ByteArray) (e : Ending) : Prop := e = .returned (.tuple #[if okn s.data.toList then fv s.data.toList else .float .f32 0, .bool (okn s.data.toList)])
theorem NAns.no {s : ByteArray} (h : okn s.data.toList = false) : NAns s (.returned (.tuple #[.float .f32 0, .bool false])) := by
  unfold NAns; rw [h]; rfl
theorem NAns.yes {s : ByteArray} (h : okn s.data.toList = true) : NAns s (.returned (.tuple #[fv s.data.toList, .bool true])) := by
  unfold NAns; rw [h]; rfl

set_option maxHeartbeats 800000 in
theorem number_any (s : ByteArray) (w : World) :
    Calls Tryd.prog 66 #[.string s] w fun e w' => NAns s e ∧ Below w.heap.size w w' := by
  by_cases h8 : s.size = 8
  · have hp8 : Hid (s.data.toList.length = 8) := by show _ = _; simpa using h8
    go_enter Tryd.func66, Tryd.ntmps66
    go_wp2
    go_loopw [4] (fun n w' => ∃ m : Nat, w' = w.iter s m ∧ m ≤ s.size ∧ n = .int .i64 (hval (s.data.toList.take m)) ∧ Hid (∀ c ∈ s.data.toList.take m, isd c = true)) (fun _ w' => s.size - w'.iterPos w.heap.size)
    case atStart => exact ⟨0, rfl, Nat.zero_le _, rfl, by show ∀ c ∈ _, _; simp⟩
    case round =>
      obtain ⟨m, rfl, hm, rfl, hd⟩ := hrel
      have hbd : Hid (hval (s.data.toList.take m) < 4294967296) := by
        have := hval_lt _ hd.out
        rw [List.length_take] at this
        have h16 : 16 ^ min m s.data.toList.length ≤ 16 ^ 8 := Nat.pow_le_pow_right (by decide) (by have := hp8.out; omega)
        show _ < _
        have e16 : (16 : Nat) ^ 8 = 4294967296 := by decide
        omega
      by_cases hms : m < s.size
      · have hsn : Hid (s.data.toList.take (m + 1) = s.data.toList.take m ++ [s[m]]) := rd.take_snoc s m hms
        have hmem : Hid (s[m] ∈ s.data.toList) := by
          have : s[m] = s.data.toList[m]'(by simpa using hms) := rfl
          show _ ∈ _
          rw [this]; exact List.getElem_mem _
        by_cases hdg : dv s[m].toNat < 16
        · have hnx : ∀ ty, (Instr.next (.pointer (some ⟨w.heap.size, 0, none⟩)) true ty).run Tryd.prog (w.iter s m) = _ := fun ty => run_next_ascii w s m ty hms (by have := dv_not (c := s[m].toNat); omega)
          have HN1 : Hid (Value.int .i64 (16 * (hval (s.data.toList.take m) : Int) + dv s[m].toNat) = .int .i64 (hval (s.data.toList.take (m + 1)))) := by show _ = _; rw [hsn.out, hval_snoc]; simp
          have HN2 : Hid (∀ c ∈ s.data.toList.take (m + 1), isd c = true) := fun c hc => by
            rw [hsn.out] at hc
            rcases List.mem_append.1 hc with hc | hc
            · exact hd.out c hc
            · rw [List.mem_singleton.1 hc]
              exact decide_eq_true hdg
          have hcall := digit_yes s[m].toNat hdg (w.iter s (m + 1))
          have hV2 := hbd.out
          clear hsn hmem hd hbd
          generalize hval (s.data.toList.take m) = V at *
          generalize dv s[m].toNat = d at *
          generalize s[m].toNat = c at *
          go_wp2_with fail
          refine hcall.mono ?_
          rintro e w2 ⟨rfl, hw2⟩
          rw [hw2]
          clear hw2 hcall
          go_wp2_with fail
          go_roundw
          case rel => exact ⟨m + 1, rfl, by omega, (congrArg (Value.int .i64) (by omega)).trans HN1.out, HN2⟩
          case measure => simp; omega
        · have hd16 : dv s[m].toNat = 16 := dv_16 hdg
          have hr := rune_no s m hms hd16
          have hle := decode_le s m
          have hnx : ∀ ty, (Instr.next (.pointer (some ⟨w.heap.size, 0, none⟩)) true ty).run Tryd.prog (w.iter s m) = _ := fun ty => run_next_any w s m ty hms
          have HA : Hid (NAns s (.returned (.tuple #[.float .f32 0, .bool false]))) := .no (okn_dig hmem.out (decide_eq_false hdg))
          have hcall := fun w => digit_no (Utf8.decode s m).1 hr w
          clear hsn hmem hd hbd hd16 hdg
          generalize (Utf8.decode s m).1 = c at *
          go_wp2_with fail
          refine (hcall _).mono ?_
          rintro e w2 ⟨rfl, hw2⟩
          rw [hw2]
          clear hw2 hcall
          go_wp2_with fail
          go_ret2
          exact ⟨HA.out, (Below.refl _ _).alloc (Nat.le_refl _) _⟩
      · obtain rfl : m = 8 := by omega
        have hnx : ∀ ty, (Instr.next (.pointer (some ⟨w.heap.size, 0, none⟩)) true ty).run Tryd.prog (w.iter s 8) = _ := fun ty => run_next_end w s 8 ty hms
        have htk8 : s.data.toList.take 8 = s.data.toList := List.take_of_length_le (by rw [hp8.out]; omega)
        rw [htk8] at hd hbd ⊢
        have yes : Hid (can (hval s.data.toList) = hval s.data.toList → NAns s (.returned (.tuple #[fv s.data.toList, .bool true]))) := fun h => .yes (okn_yes hp8.out hd.out h)
        have bad : Hid (can (hval s.data.toList) ≠ hval s.data.toList → NAns s (.returned (.tuple #[.float .f32 0, .bool false]))) := fun h => .no (okn_can h)
        unfold fv at yes
        clear htk8 hd
        have hV2 := hbd.out
        clear hbd
        generalize hval s.data.toList = V at *
        have hF := fun w => fromI_any V (by omega) w
        have hBb := fun w => bits_impl V (by omega) w
        rw [can_bits] at hBb
        by_cases hcan : can V = V
        · have HA := yes.out hcan
          rw [hcan] at hBb
          have HA' : Hid (NAns s (.returned (.tuple #[.float .f32 V, .bool true]))) := HA
          clear yes bad hcan HA
          go_wp2_with fail
          refine (hF _).mono ?_
          rintro e w2 ⟨rfl, hw2⟩
          rw [hw2]
          clear hw2 hF
          go_wp2_with fail
          refine (hBb _).mono ?_
          rintro e w2 ⟨rfl, hw2⟩
          rw [← hw2]
          clear hw2 hBb
          go_wp2_with fail
          go_ret2
          exact ⟨HA'.out, (Below.refl _ _).alloc (Nat.le_refl _) _⟩
        · have HA' : Hid (NAns s (.returned (.tuple #[.float .f32 0, .bool false]))) := bad.out hcan
          have hne : ((can V : Int) == (V : Int)) = false := by rw [beq_eq_false_iff_ne]; omega
          clear yes bad hcan
          go_wp2_with fail
          refine (hF _).mono ?_
          rintro e w2 ⟨rfl, hw2⟩
          rw [hw2]
          clear hw2 hF
          go_wp2_with fail
          refine (hBb _).mono ?_
          rintro e w2 ⟨rfl, hw2⟩
          rw [← hw2]
          clear hw2 hBb
          go_wp2_with fail
          go_ret2
          exact ⟨HA'.out, (Below.refl _ _).alloc (Nat.le_refl _) _⟩
  · have HA : Hid (NAns s (.returned (.tuple #[.float .f32 0, .bool false]))) := .no (okn_len (by simpa using h8))
    have h8' : ((s.size : Int) == 8) = false := by rw [beq_eq_false_iff_ne]; omega
    go_enter Tryd.func66, Tryd.ntmps66
    go_wp2
    go_ret2
    exact ⟨HA.out, Below.refl _ _⟩
end Go.Proofs.YtnodnopolhdfhaaDoor.rn
