/- JournalOf: what the model answers. -/
import Derived.Test.YtdeoemeibbkdoaaDoorJnP
import Derived.Test.YtdeoemeibbkdoaaDoorDecW
import Derived.Deep.RegionHeld
namespace Go.Proofs.YtdeoemeibbkdoaaDoor.jn
open Go.RowKit Go.Lib Go.Proofs.YtdeoemeibbkdoaaDoor.fnExactCheckOfW Go.Proofs.YtdeoemeibbkdoaaDoor.sls Go.Proofs.YtdeoemeibbkdoaaDoor.dec

set_option maxRecDepth 100000 in
set_option maxHeartbeats 1600000 in
theorem sj_any {v : Value} {n : Nat} {f : Nat → ByteArray} {w : World} (h : Sls w v n f) (hlow : low f n ≤ 16000) :
    Calls Tryd.prog 42 #[v] w fun e w' => e = .returned (.string ⟨(jr f n).toArray⟩) ∧ Below w.heap.size w w' := by
  obtain ⟨ao, cap, rfl, hn, hc⟩ := h
  have HC : Hid (n ≠ 0 → ∃ b off, ao = some ⟨b, off, none⟩ ∧ b < w.heap.size ∧ ∀ k, k < n → w.cell? ⟨b, off + k, none⟩ = some (.string (f k))) := hc
  have HL : Hid (low f n ≤ 16000) := hlow
  clear hc hlow
  go_enter Tryd.func42, Tryd.ntmps42
  go_wp2_with fail
  go_loopw [3, 4, 5] (fun o c i wr => ∃ k : Nat, k ≤ n ∧ o = .string ⟨(jr f k).toArray⟩ ∧ c = .int .i64 (cks f k) ∧ i = .int .i64 k ∧ Hid (Below w.heap.size w wr)) (fun _ _ i _ => n - (intOf i).toNat)
  case atStart => exact ⟨0, by omega, rfl, rfl, rfl, Below.refl _ _⟩
  case round =>
    obtain ⟨k, hk, rfl, rfl, rfl, hb⟩ := hrel
    by_cases hlt : k < n
    · obtain ⟨b, off, rfl, hbw, hcell⟩ := HC.out (by omega)
      have e1 : wr.cell? ⟨b, off + k, none⟩ = some (.string (f k)) := (hb.out.cell hbw).trans (hcell k hlt)
      have HBw : Hid (b < wr.heap.size) := by have := hb.out.size; show b < _; omega
      have hlo : (f k).size ≤ 16000 := by
        have h1 := low_up f (k + 1) (n - (k + 1))
        rw [show k + 1 + (n - (k + 1)) = n by omega] at h1
        have h2 : low f (k + 1) = low f k + (f k).size + 3 := rfl
        have h3 := HL.out
        omega
      have hj1 := jr_le f k
      have hl0 : low f k ≤ 16000 := by
        have h1 := low_up f k (n - k)
        rw [show k + (n - k) = n by omega] at h1
        have h3 := HL.out
        omega
      have hjl : (jr f k).length ≤ 304000 := by omega
      have hbd := cks_bd f k
      have hcat := cat f k
      have hb1 := cks_bd f (k + 1)
      have hil := (Go.Rd.itoa_len (cks f (k + 1)) (by omega) (by omega)).2
      have hck : Hid (cks f (k + 1) = chk (cks f k) (f k).data.toList) := rfl
      have hcall := fun w => l01_in (cks f k) (f k) hbd.1 hbd.2 (by omega) w
      rw [← hck.out] at hcall
      have hdec := fun w => l01_any (cks f (k + 1)) (by omega) (by omega) w
      obtain ⟨J, hJ⟩ : ∃ J, J = jr f (k + 1) := ⟨_, rfl⟩
      rw [← hJ] at hcat
      have HJ : Hid (J = jr f (k + 1)) := hJ
      obtain ⟨C, hC⟩ : ∃ C, C = cks f (k + 1) := ⟨_, rfl⟩
      rw [← hC] at hcat hcall hdec hil
      have HCC : Hid (C = cks f (k + 1)) := hC
      have HBB : Hid (Below w.heap.size w wr) := hb.out
      clear hcell hj1 hl0 hJ hC hck hb1 hbd hb
      generalize f k = z at *
      generalize cks f k = c at *
      generalize jr f k = u at *
      generalize itoa C = t at *
      go_wp2_with fail
      refine (hcall _).mono ?_
      rintro e w0 ⟨rfl, hw0⟩
      rw [← hw0]
      clear hw0 hcall
      go_wp2_with fail
      have bd : Hid (Below wr.heap.size wr wr.drew) := (Below.refl _ _).drew
      go_region_held (fun w' => w'.cell? ⟨b, off + k, none⟩ = some (.string z) ∧ Hid (Below wr.heap.size wr w'))
        (first | exact ⟨(bd.out.cell (p := ⟨b, off + k, none⟩) HBw.out).trans e1, bd⟩ | exact ⟨(by1.out.cell (p := ⟨b, off + k, none⟩) HBw.out).trans e1, by1⟩)
        (first | (go_at_call 55; refine (hdec _).mono ?_; rintro e w8 ⟨rfl, b8⟩; have by1 : Hid (Below wr.heap.size wr w8) := bd.out.trans (b8.mono bd.out.size)))
      have HB2 : Hid (Below w.heap.size w w8) := HBB.out.trans (by1.out.mono HBB.out.size)
      clear hdec hcat b8 by1 bd e1
      go_wp2
      go_roundw
      case rel => exact ⟨k + 1, by omega, by rw [HJ.out], by rw [HCC.out], by go_num, HB2⟩
      case measure => simp [intOf]; omega
    · obtain rfl : k = n := by omega
      go_wp2
      go_ret
      exact ⟨rfl, hb.out⟩
set_option maxRecDepth 100000 in
set_option maxHeartbeats 1600000 in
theorem spec_any {v : Value} {n : Nat} {f : Nat → ByteArray} {w : World} (h : Sls w v n f) (hz : ∀ k, k < n → (f k).size ≤ 1048576) :
    Calls Tryd.prog 20 #[v] w fun e w' => e = .returned (.tuple #[.string (z n f), .bool (okb n f)]) ∧ Below w.heap.size w w' := by
  have H0 : Hid (Sls w v n f) := h
  obtain ⟨ao, cap, rfl, hn, hc⟩ := h
  have HC : Hid (n ≠ 0 → ∃ b off, ao = some ⟨b, off, none⟩ ∧ b < w.heap.size ∧ ∀ k, k < n → w.cell? ⟨b, off + k, none⟩ = some (.string (f k))) := hc
  have HZ : Hid (∀ k, k < n → (f k).size ≤ 1048576) := hz
  clear hc hz
  go_enter Tryd.func20, Tryd.ntmps20
  go_wp2_with fail
  go_loopw [4, 5] (fun t i wr => ∃ k : Nat, k ≤ n ∧ t = .int .i64 (low f k : Int) ∧ i = .int .i64 k ∧ Hid (low f k ≤ 16000) ∧ Hid (∀ j, j < k → one (f j) = true) ∧ Hid (Below w.heap.size w wr)) (fun _ i _ => n - (intOf i).toNat)
  case atStart => exact ⟨0, by omega, rfl, rfl, by show _ ≤ _; simp [low], fun j hj => by omega, Below.refl _ _⟩
  case round =>
    obtain ⟨k, hk, rfl, rfl, hlo, hone, hb⟩ := hrel
    by_cases hlt : k < n
    · obtain ⟨b, off, rfl, hbw, hcell⟩ := HC.out (by omega)
      have e1 : wr.cell? ⟨b, off + k, none⟩ = some (.string (f k)) := (hb.out.cell hbw).trans (hcell k hlt)
      have HCL : Hid (∀ W, Below wr.heap.size wr W → W.cell? ⟨b, off + k, none⟩ = some (.string (f k))) := fun W hW => (hW.cell (p := ⟨b, off + k, none⟩) (by have := hb.out.size; show b < _; omega)).trans e1
      have hlo' := hlo.out
      have hsz := HZ.out k hlt
      have hls : Hid (low f (k + 1) = low f k + (f k).size + 3) := rfl
      have HNO : Hid (16000 < low f k + ((f k).size + 3) → z n f = ⟨#[]⟩ ∧ okb n f = false) := fun h => no_low (k := k + 1) (by omega) (by rw [hls.out]; omega)
      have HNL : Hid (one (f k) = false → z n f = ⟨#[]⟩ ∧ okb n f = false) := no_line hlt
      clear hcell
      generalize hfk : f k = s at *
      generalize low f k = l at *
      have p1 : IntKind.i64.wrap ((s.size : Int) + 3) = (s.size : Int) + 3 := IntWalk.i64_in _ (by omega)
      have p2 : wrap64 ((s.size : Int) + 3) = (s.size : Int) + 3 := IntWalk.wrap64_in _ (by omega)
      have p3 : IntKind.i64.wrap ((l : Int) + ((s.size : Int) + 3)) = (l : Int) + ((s.size : Int) + 3) := IntWalk.i64_in _ (by omega)
      have p4 : wrap64 ((l : Int) + ((s.size : Int) + 3)) = (l : Int) + ((s.size : Int) + 3) := IntWalk.wrap64_in _ (by omega)
      by_cases hbig : 16000 < l + (s.size + 3)
      · have HA := HNO.out hbig
        have hbig' : (16000 : Int) < (l : Int) + ((s.size : Int) + 3) := by omega
        have HAA : Hid (z n f = ⟨#[]⟩ ∧ okb n f = false) := HA
        clear HA HNO
        go_wp2_with fail
        go_ret2
        exact ⟨by rw [HAA.out.1, HAA.out.2]; rfl, hb.out⟩
      · have hbig' : ¬ (16000 : Int) < (l : Int) + ((s.size : Int) + 3) := by omega
        go_wp2_with fail
        clear HNO
        go_loopw [6] (fun q wq => ∃ j : Nat, j ≤ s.size ∧ q = .int .i64 j ∧ Hid (∀ i (h : i < s.size), i < j → s[i].toNat ≠ 10) ∧ Hid (Below wr.heap.size wr wq)) (fun q _ => s.size - (intOf q).toNat)
        case atStart => exact ⟨0, by omega, rfl, fun i _ h => by omega, Below.refl _ _⟩
        case round =>
          obtain ⟨j, hj, rfl, hne, hq⟩ := hrel
          have e2 := HCL.out _ hq.out
          by_cases hjl : j < s.size
          · by_cases hc : s[j].toNat = 10
            · have HAA : Hid (z n f = ⟨#[]⟩ ∧ okb n f = false) := HNL.out (one_no hjl hc)
              have HB : Hid (Below w.heap.size w wr) := hb.out.trans (hq.out.mono hb.out.size)
              clear hne hq hb
              go_wp2_with fail
              go_ret2
              exact ⟨by rw [HAA.out.1, HAA.out.2]; rfl, HB.out⟩
            · have hc' : ((s[j].toNat : Int) == 10) = false := by rw [beq_eq_false_iff_ne]; omega
              have HNE : Hid (∀ i (h : i < s.size), i < j + 1 → s[i].toNat ≠ 10) := fun i h hi => by
                by_cases e : i = j
                · subst e; exact hc
                · exact hne.out i h (by omega)
              have HQ : Hid (Below _ _ wr) := hq.out
              clear hne hq
              go_wp2_with fail
              go_roundw
              case rel => exact ⟨j + 1, by omega, by go_num, HNE, HQ⟩
              case measure => simp [intOf]; omega
          · have hjs : j = s.size := by omega
            have HONE : Hid (∀ i, i < k + 1 → one (f i) = true) := fun i hi => by
              by_cases e : i = k
              · subst e; rw [hfk]; exact one_yes fun i h => hne.out i h (by omega)
              · exact hone.out i (by omega)
            have HB : Hid (Below w.heap.size w wr) := hb.out.trans (hq.out.mono hb.out.size)
            have HL2 : Hid (low f (k + 1) ≤ 16000) := by show _ ≤ _; rw [hls.out]; omega
            have HLV : Hid ((l : Int) + ((s.size : Int) + 3) = (low f (k + 1) : Int)) := by show _ = _; rw [hls.out]; omega
            clear hne hq hb
            go_wp2_with fail
            refine ⟨⟨k + 1, by omega, by rw [HLV.out], by go_num, HL2, HONE, HB⟩, ?_⟩
            simp [intOf]
            omega
    · obtain rfl : k = n := by omega
      have HONE : Hid (∀ i, i < k → one (f i) = true) := hone
      have hlo' := hlo.out
      have hjl := jr_le f k
      have hcall := fun w h => sj_any (f := f) (n := k) (v := .slice ao k cap) (w := w) h hlo'
      have HS : Hid (Sls wr (.slice ao k cap) k f) := H0.out.below hb.out
      have hc2 := hcall _ HS.out
      have HY : Hid ((jr f k).length ≤ 16000 → z k f = ⟨(jr f k).toArray⟩ ∧ okb k f = true) := yes HONE.out
      have HN : Hid (16000 < (jr f k).length → z k f = ⟨#[]⟩ ∧ okb k f = false) := no_long (Nat.le_refl _)
      clear hcall HS hone
      generalize jr f k = J at *
      go_wp2_with fail
      refine hc2.mono ?_
      rintro e w2 ⟨rfl, b2⟩
      have HB : Hid (Below w.heap.size w w2) := hb.out.trans (b2.mono hb.out.size)
      have hJ : (⟨J.toArray⟩ : ByteArray).size = J.length := by simp [ByteArray.size]
      clear b2 hb hc2
      by_cases h16 : J.length ≤ 16000
      · have HA : Hid (z k f = ⟨J.toArray⟩ ∧ okb k f = true) := HY.out h16
        clear HY HN
        go_wp2_with fail
        go_ret2
        exact ⟨by rw [HA.out.1, HA.out.2]; rfl, HB.out⟩
      · have HA : Hid (z k f = ⟨#[]⟩ ∧ okb k f = false) := HN.out (by omega)
        have h16' : 16000 < J.length := by omega
        clear HY HN h16
        go_wp2_with fail
        go_ret2
        exact ⟨by rw [HA.out.1, HA.out.2]; rfl, HB.out⟩
end Go.Proofs.YtdeoemeibbkdoaaDoor.jn
