/- The program's and the model's reading of one complex number. -/
import Derived.Test.YtnodnopolhdfhaaDoorRnR
namespace Go.Proofs.YtnodnopolhdfhaaDoor.rc
open Go.RowKit Go.Lib Go.Fl Go.Rl Go.Rg Go.Proofs.YtnodnopolhdfhaaDoor.bits Go.Proofs.YtnodnopolhdfhaaDoor.rn

def okc (l : List UInt8) : Bool := decide (l.length = 16) && (okn (l.take 8) && okn (l.drop 8))
theorem okc_len {l : List UInt8} (h : l.length ≠ 16) : okc l = false := by unfold okc; rw [decide_eq_false h]; rfl
theorem okc_re {l : List UInt8} (h : okn (l.take 8) = false) : okc l = false := by unfold okc; rw [h]; simp
theorem okc_im {l : List UInt8} (h : okn (l.drop 8) = false) : okc l = false := by unfold okc; rw [h]; simp
theorem okc_yes {l : List UInt8} (h0 : l.length = 16) (h1 : okn (l.take 8) = true) (h2 : okn (l.drop 8) = true) : okc l = true := by unfold okc; rw [decide_eq_true h0, h1, h2]; rfl
/-- a complex number by its bits -/
def cv2 (l : List UInt8) : Value := .complex .f32 (hval (l.take 8)) (hval (l.drop 8))
/-- what reading one complex number answers -/
def NAns (s : ByteArray) (e : Ending) : Prop := e = .returned (.tuple #[if okc s.data.toList then cv2 s.data.toList else .complex .f32 0 0, .bool (okc s.data.toList)])
theorem NAns.no {s : ByteArray} (h : okc s.data.toList = false) : NAns s (.returned (.tuple #[.complex .f32 0 0, .bool false])) := by
  unfold NAns; rw [h]; rfl
theorem NAns.yes {s : ByteArray} (h : okc s.data.toList = true) : NAns s (.returned (.tuple #[cv2 s.data.toList, .bool true])) := by
  unfold NAns; rw [h]; rfl
theorem lo_list (s : ByteArray) : (s.extract 0 8).data.toList = s.data.toList.take 8 := by
  rw [rl.ext_toList]; simp
theorem hi_list (s : ByteArray) (h : s.size = 16) : (s.extract 8 16).data.toList = s.data.toList.drop 8 := by
  rw [rl.ext_toList, List.take_of_length_le (by simp; omega)]

theorem parts_any (s : ByteArray) (w : World) :
    Calls Tryd.prog 83 #[.string s] w fun e w' => NAns s e ∧ Below w.heap.size w w' := by
  by_cases h16 : s.size = 16
  · have hl : Hid (s.data.toList.length = 16) := by show _ = _; simpa using h16
    have hre := number_any (s.extract 0 8) w
    have him := fun w => number_any (s.extract 8 16) w
    unfold rn.NAns at hre him
    rw [lo_list] at hre
    rw [hi_list s h16] at him
    cases h1 : okn (s.data.toList.take 8) with
    | false =>
      rw [h1] at hre
      simp only [Bool.false_eq_true, if_false] at hre
      have HA : Hid (NAns s (.returned (.tuple #[.complex .f32 0 0, .bool false]))) := .no (okc_re h1)
      clear h1 him
      go_enter Tryd.func83, Tryd.ntmps83
      go_wp2_with fail
      refine hre.mono ?_
      rintro e w1 ⟨rfl, b1⟩
      have B1 : Hid (Below w.heap.size w w1) := b1
      clear b1 hre
      go_wp2_with fail
      go_ret2
      exact ⟨HA.out, B1.out⟩
    | true =>
      rw [h1] at hre
      simp only [if_true] at hre
      unfold fv at hre
      cases h2 : okn (s.data.toList.drop 8) with
      | false =>
        rw [h2] at him
        simp only [Bool.false_eq_true, if_false] at him
        have HA : Hid (NAns s (.returned (.tuple #[.complex .f32 0 0, .bool false]))) := .no (okc_im h2)
        clear h1 h2
        go_enter Tryd.func83, Tryd.ntmps83
        go_wp2_with fail
        refine hre.mono ?_
        rintro e w1 ⟨rfl, b1⟩
        have B1 : Hid (Below w.heap.size w w1) := b1
        clear b1 hre
        go_wp2_with fail
        refine (him _).mono ?_
        rintro e w2 ⟨rfl, b2⟩
        have B2 : Hid (Below w.heap.size w w2) := B1.out.trans (b2.mono B1.out.size)
        clear b2 him
        go_wp2_with fail
        go_ret2
        exact ⟨HA.out, B2.out⟩
      | true =>
        rw [h2] at him
        simp only [if_true] at him
        unfold fv at him
        have HA : Hid (NAns s (.returned (.tuple #[.complex .f32 (hval (s.data.toList.take 8)) (hval (s.data.toList.drop 8)), .bool true]))) := .yes (okc_yes hl.out h1 h2)
        clear h1 h2
        generalize hval (s.data.toList.take 8) = A at *
        generalize hval (s.data.toList.drop 8) = B at *
        go_enter Tryd.func83, Tryd.ntmps83
        go_wp2_with fail
        refine hre.mono ?_
        rintro e w1 ⟨rfl, b1⟩
        have B1 : Hid (Below w.heap.size w w1) := b1
        clear b1 hre
        go_wp2_with fail
        refine (him _).mono ?_
        rintro e w2 ⟨rfl, b2⟩
        have B2 : Hid (Below w.heap.size w w2) := B1.out.trans (b2.mono B1.out.size)
        clear b2 him
        go_wp2_with fail
        go_ret2
        exact ⟨HA.out, B2.out⟩
  · have HA : Hid (NAns s (.returned (.tuple #[.complex .f32 0 0, .bool false]))) := .no (okc_len (by simpa using h16))
    have h16' : ((s.size : Int) == 16) = false := by rw [beq_eq_false_iff_ne]; omega
    go_enter Tryd.func83, Tryd.ntmps83
    go_wp2
    go_ret2
    exact ⟨HA.out, Below.refl _ _⟩

set_option maxHeartbeats 800000 in
theorem digits_any (p : ByteArray) (h8 : p.size = 8) (w : World) :
    Calls Tryd.prog 114 #[.string p] w fun e w' => rn.NAns p e ∧ w' = w := by
  have hp8 : Hid (p.data.toList.length = 8) := by show _ = _; simpa using h8
  go_enter Tryd.func114, Tryd.ntmps114
  go_wp2
  go_loop [4, 5] (fun n j => ∃ (m : Nat), m ≤ 8 ∧ n = .int .i64 (hval (p.data.toList.take m)) ∧ j = .int .i64 m ∧ Hid (∀ c ∈ p.data.toList.take m, isd c = true)) (fun _ j => 8 - (RowKit.intOf j).toNat)
  case atStart => exact ⟨0, by omega, rfl, rfl, by show ∀ c ∈ _, _; simp⟩
  case round =>
    obtain ⟨m, hm, rfl, rfl, hd⟩ := hrel
    have hbd : Hid (hval (p.data.toList.take m) < 4294967296) := by
      have := hval_lt _ hd.out
      rw [List.length_take] at this
      have h16 : 16 ^ min m p.data.toList.length ≤ 16 ^ 8 := Nat.pow_le_pow_right (by decide) (by omega)
      show _ < _
      have e16 : (16 : Nat) ^ 8 = 4294967296 := by decide
      omega
    by_cases hlm : m < 8
    · have hms : m < p.size := by omega
      have hsn : Hid (p.data.toList.take (m + 1) = p.data.toList.take m ++ [p[m]]) := rd.take_snoc p m hms
      have hmem : Hid (p[m] ∈ p.data.toList) := by
        have : p[m] = p.data.toList[m]'(by simpa using hms) := rfl
        show _ ∈ _
        rw [this]; exact List.getElem_mem _
      have next : Hid (∀ d : Nat, dv p[m].toNat = d → d < 16 → (Value.int .i64 (16 * (hval (p.data.toList.take m) : Int) + d) = .int .i64 (hval (p.data.toList.take (m + 1)))) ∧ ∀ c ∈ p.data.toList.take (m + 1), isd c = true) := fun d h1 h2 => by
        rw [hsn.out, hval_snoc, h1]
        refine ⟨by simp, fun c hc => ?_⟩
        rcases List.mem_append.1 hc with hc | hc
        · exact hd.out c hc
        · rw [List.mem_singleton.1 hc]
          exact decide_eq_true (by rw [h1]; exact h2)
      have bad : Hid (dv p[m].toNat = 16 → okn p.data.toList = false) := fun h => okn_dig hmem.out (decide_eq_false (by rw [h]; omega))
      clear hsn hmem hd
      have HV : ∃ V : Nat, V = hval (p.data.toList.take m) := ⟨_, rfl⟩
      obtain ⟨V, hV⟩ := HV
      rw [← hV] at hbd next ⊢
      have hV2 := hbd.out
      clear hV hbd
      generalize hcc : p[m].toNat = c at *
      rcases kinds c with ⟨c0, c1⟩ | ⟨c0, c1⟩ | c0 | ⟨c0, c1⟩ | c0
      · have HD := next.out (c - 48) (dv_dig c0 c1) (by omega)
        have e48 : Hid (((c - 48 : Nat) : Int) = (c : Int) - 48) := by show _ = _; omega
        have HN1 : Hid (Value.int .i64 (16 * (V : Int) + ((c - 48 : Nat) : Int)) = .int .i64 (hval (p.data.toList.take (m + 1)))) := HD.1
        have HN2 : Hid (∀ c ∈ p.data.toList.take (m + 1), isd c = true) := HD.2
        clear HD next bad
        go_wp2
        go_round
        case rel => exact ⟨m + 1, by omega, (congrArg (Value.int .i64) (by have := e48.out; omega)).trans HN1.out, by go_num, HN2⟩
        case measure => simp [RowKit.intOf]; omega
      · have HD := next.out (c - 87) (dv_let c0 c1) (by omega)
        have e48 : Hid (((c - 87 : Nat) : Int) = (c : Int) - 87) := by show _ = _; omega
        have HN1 : Hid (Value.int .i64 (16 * (V : Int) + ((c - 87 : Nat) : Int)) = .int .i64 (hval (p.data.toList.take (m + 1)))) := HD.1
        have HN2 : Hid (∀ c ∈ p.data.toList.take (m + 1), isd c = true) := HD.2
        clear HD next bad
        go_wp2
        go_round
        case rel => exact ⟨m + 1, by omega, (congrArg (Value.int .i64) (by have := e48.out; omega)).trans HN1.out, by go_num, HN2⟩
        case measure => simp [RowKit.intOf]; omega
      · have HA : Hid (rn.NAns p (.returned (.tuple #[.float .f32 0, .bool false]))) := .no (bad.out (dv_not (by omega)))
        clear next bad
        go_wp2
        go_ret2
        exact ⟨HA.out, rfl⟩
      · have HA : Hid (rn.NAns p (.returned (.tuple #[.float .f32 0, .bool false]))) := .no (bad.out (dv_not (by omega)))
        clear next bad
        go_wp2
        go_ret2
        exact ⟨HA.out, rfl⟩
      · have HA : Hid (rn.NAns p (.returned (.tuple #[.float .f32 0, .bool false]))) := .no (bad.out (dv_not (by omega)))
        clear next bad
        go_wp2
        go_ret2
        exact ⟨HA.out, rfl⟩
    · obtain rfl : m = 8 := by omega
      have htk8 : p.data.toList.take 8 = p.data.toList := List.take_of_length_le (by rw [hp8.out]; omega)
      rw [htk8] at hd hbd ⊢
      have yes : Hid (can (hval p.data.toList) = hval p.data.toList → rn.NAns p (.returned (.tuple #[fv p.data.toList, .bool true]))) := fun h => .yes (okn_yes hp8.out hd.out h)
      have bad : Hid (can (hval p.data.toList) ≠ hval p.data.toList → rn.NAns p (.returned (.tuple #[.float .f32 0, .bool false]))) := fun h => .no (okn_can h)
      unfold fv at yes
      clear htk8 hd
      have hV2 := hbd.out
      clear hbd
      generalize hval p.data.toList = V at *
      have hF := fun w => from_any V (by omega) w
      have hBb := fun w => bits_spec V (by omega) w
      rw [can_bits] at hBb
      by_cases hcan : can V = V
      · have HA := yes.out hcan
        rw [hcan] at hBb
        have HA' : Hid (rn.NAns p (.returned (.tuple #[.float .f32 V, .bool true]))) := HA
        clear yes bad hcan HA
        go_wp2_with fail
        refine (hF _).mono ?_
        rintro e w2 ⟨rfl, hw2⟩
        rw [hw2]
        clear hw2 hF
        go_wp2_with fail
        refine (hBb _).mono ?_
        rintro e w2 ⟨rfl, hw2⟩
        rw [← hw2]
        clear hw2 hBb
        go_wp2_with fail
        go_ret2
        exact ⟨HA'.out, rfl⟩
      · have HA' : Hid (rn.NAns p (.returned (.tuple #[.float .f32 0, .bool false]))) := bad.out hcan
        have hne : ((can V : Int) == (V : Int)) = false := by rw [beq_eq_false_iff_ne]; omega
        clear yes bad hcan
        go_wp2_with fail
        refine (hF _).mono ?_
        rintro e w2 ⟨rfl, hw2⟩
        rw [hw2]
        clear hw2 hF
        go_wp2_with fail
        refine (hBb _).mono ?_
        rintro e w2 ⟨rfl, hw2⟩
        rw [← hw2]
        clear hw2 hBb
        go_wp2_with fail
        go_ret2
        exact ⟨HA'.out, rfl⟩
end Go.Proofs.YtnodnopolhdfhaaDoor.rc
