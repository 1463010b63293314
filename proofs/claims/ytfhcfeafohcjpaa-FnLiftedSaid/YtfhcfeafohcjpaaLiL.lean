/- Lifting two factors: the program's lifted whole. -/
import Derived.Test.YtfhcfeafohcjpaaLiK
import Derived.Test.YtfhcfeafohcjpaaLiI
import Derived.Test.YtfhcfeafohcjpaaW2
import Derived.Deep.RegionHeld3
import Derived.Deep.DeepCutAuto
namespace Go.Proofs.Ytfhcfeafohcjpaa.wh
open Go.RowKit Go.Pl

set_option maxRecDepth 100000 in
set_option maxHeartbeats 1600000 in
theorem lifted_any {go ho : Option Addr} {gc hc : Nat} {vm : Value} {G H M T : List Int} {p c : Int} {w : World} (hp : isP p = true)
    (hG : Ls w (.slice go G.length gc) G) (hH : Ls w (.slice ho H.length hc) H) (hM : Ls w vm M) (gG : Gd G p) (gH : Gd H p) (hl : at' G (G.length - 1) ≠ 0) (hMl : 1 ≤ M.length ∧ M.length ≤ 9) (hMb : ∀ k, -10000000 ≤ at' M k ∧ at' M k ≤ 10000000)
    (hR : ivm p (mu H) G [0] H [1] = ([c], T)) (hcr : 0 < c ∧ c < p) (hT : Ov T p ∧ T.length ≤ 20) :
    Calls Try.prog 38 #[.agg #[.slice go G.length gc], .agg #[.slice ho H.length hc], vm, .int .i64 p] w
      fun e w' => ∃ v, e = .returned v ∧ OwW w' w.heap.size w'.heap.size v (weigh G (dr (om M (om T [inv c p] p) p) G p) 1 p) ∧ Below w.heap.size w w' := by
  have hp2 := isP_le hp
  obtain ⟨J, hJ⟩ : ∃ J, J = om T [inv c p] p := ⟨_, rfl⟩
  have oJ := om_ov (A := T) (B := [inv c p]) (p := p) (by omega) hT.1.1 (by simp)
  rw [← hJ] at oJ ⊢
  have oJl : J.length ≤ 20 := by have := oJ.2; simp at this; have := hT.2; omega
  have oM := om_ov (A := M) (B := J) (p := p) (by omega) hMl.1 oJ.1.1
  obtain ⟨K, hK⟩ : ∃ K, K = om M J p := ⟨_, rfl⟩
  have HKe : Hid (trim (mods (prod M J) p) = K) := hK.symm
  rw [← hK] at oM ⊢
  have oKl : K.length ≤ 40 := by omega
  have dk := dv_ok hp oM.1 gG.1 hl
  obtain ⟨U, hU⟩ : ∃ U, U = dr K G p := ⟨_, rfl⟩
  have HUe : Hid (dr K G p = U) := hU.symm
  rw [← hU] at dk ⊢
  have oUl : U.length ≤ 40 := by omega
  obtain ⟨w1, hw⟩ : ∃ x, x = ((w.alloc (.cells #[.slice go G.length gc] 26)).alloc (.cells #[.slice ho H.length hc] 26)).alloc (.cells #[.slice none 0 0] 26) := ⟨_, rfl⟩
  have XG : Hid (Bx w1 w.heap.size (.slice go G.length gc)) := by rw [hw]; exact ((Bx.new _ _ _).alloc _).alloc _
  have XH : Hid (Bx w1 (w.heap.size + 1) (.slice ho H.length hc)) := by rw [hw]; exact (Bx.new2 _ _ _ _).alloc _
  have XR : Hid (Bx w1 (w.heap.size + 1 + 1) (.slice none 0 0)) := by rw [hw]; exact Bx.new3 _ _ _ _ _
  have B1 : Hid (Below w.heap.size w w1) := by rw [hw]; exact new3 _ _ _ _
  have LG : Hid (Ls w1 (.slice go G.length gc) G) := hG.below B1.out
  have LH : Hid (Ls w1 (.slice ho H.length hc) H) := hH.below B1.out
  have LM : Hid (Ls w1 vm M) := hM.below B1.out
  have cG := XG.out.cell
  have cH := XH.out.cell
  have hT0 := (tk_start hp gG gH).1
  go_enter Try.func38, Try.ntmps38
  go_wp2_with fail
  rw [← hw]
  clear hw
  have bd : Hid (Below w1.heap.size w1 w1.drew) := (Below.refl _ _).drew
  have HJ : Hid (om T [inv c p] p = J) := hJ.symm
  have HP : Hid (isP p = true) := hp
  have HMJ : Hid (∀ i k, -1000000000000 ≤ at' M i * at' J k ∧ at' M i * at' J k ≤ 1000000000000) := fun i k => by
    have h1 := hMb i
    have h2 := oJ.1.2.at (by omega) (by omega) k
    have := mul_le (A := 10000000) (B := 100) h1 (show -100 ≤ at' J k ∧ at' J k ≤ 100 by omega)
    omega
  have HL1 : Hid (1 ≤ M.length ∧ M.length ≤ 40) := ⟨hMl.1, by omega⟩
  have HL2 : Hid (1 ≤ J.length ∧ J.length ≤ 40) := ⟨oJ.1.1, by omega⟩
  have HOK : Hid (Ov K p ∧ K.length ≤ 40) := ⟨oM.1, oKl⟩
  have HGG : Hid (Gd G p ∧ Gd H p) := ⟨gG, gH⟩
  have HLG : Hid (at' G (G.length - 1) ≠ 0) := hl
  have HTK : Hid (Tk p 20 G [0] H [1] ∧ ivm p (mu H) G [0] H [1] = ([c], T) ∧ (0 < c ∧ c < p) ∧ Ov T p ∧ T.length ≤ 20) := ⟨hT0, hR, hcr, hT⟩
  have HU : Hid (Ov U p ∧ U.length ≤ 40) := ⟨dk.2.1, oUl⟩
  have HPP : Hid (1 ≤ p ∧ p ≤ 1000000) := ⟨by omega, by omega⟩
  clear hJ hK hU oM dk oJ hT0 hT hR hcr hMb hMl hl gG gH hG hH hM hp
  go_region_held3 (fun w' => w'.cell? ⟨w.heap.size, 0, none⟩ = some (.slice go G.length gc) ∧ w'.cell? ⟨w.heap.size + 1, 0, none⟩ = some (.slice ho H.length hc) ∧ Hid (Below w1.heap.size w1 w'))
    (first | exact ⟨(XG.out.kept bd.out).cell, (XH.out.kept bd.out).cell, bd⟩ | exact ⟨(XG.out.kept by1.out).cell, (XH.out.kept by1.out).cell, by1⟩ | exact ⟨(XG.out.kept by2.out).cell, (XH.out.kept by2.out).cell, by2⟩ | exact ⟨(XG.out.kept by3.out).cell, (XH.out.kept by3.out).cell, by3⟩)
    (first
      | (go_at_call 66; go_loud (refine (iim_any HP.out (LH.out.below bd.out) (LG.out.below bd.out) HTK.out.1 HTK.out.2.1 HTK.out.2.2.1 HTK.out.2.2.2).mono ?_; rintro e w2 ⟨vJ, rfl, oj, b2⟩; have by1 : Hid (Below w1.heap.size w1 w2) := bd.out.trans (b2.mono bd.out.size); have OJ : Hid (Ls w2 vJ J) := (by have := oj.ls (Nat.le_refl _); rw [HJ.out] at this; exact this); clear oj b2))
      | (go_at_call 65; refine (pover_any (LM.out.below by1.out) OJ.out HL1.out HL2.out HMJ.out p HPP.out).mono ?_; rintro e w3 ⟨vK, rfl, ok, b3⟩; have by2 : Hid (Below w1.heap.size w1 w3) := by1.out.trans (b3.mono by1.out.size); have OK : Hid (Ls w3 vK K) := (by have := ok.ls (Nat.le_refl _); rw [HKe.out] at this; exact this); clear ok b3)
      | (go_at_call 64; refine (irest_any OK.out (LG.out.below by2.out) HP.out HOK.out.1 HOK.out.2 HGG.out.1.1 HGG.out.1.2.1 HLG.out).mono ?_; rintro e w4 ⟨vU, rfl, ou, b4⟩; have by3 : Hid (Below w1.heap.size w1 w4) := by2.out.trans (b4.mono by2.out.size); have OU : Hid (Ls w4 vU U) := (by have := ou.ls (Nat.le_refl _); rw [HUe.out] at this; exact this); clear ou b4))
  have cG4 := (XG.out.kept by3.out).cell
  have LG4 : Hid (Ls w4 (.slice go G.length gc) G) := LG.out.below by3.out
  have XR4 : Hid (Bx w4 (w.heap.size + 1 + 1) (.slice none 0 0)) := XR.out.kept by3.out
  have LR : Hid (w.heap.size + 1 + 1 < w1.heap.size) := XR.out.lt
  have HX : Hid (∀ k, -1000000000000 ≤ 1 * at' G k ∧ 1 * at' G k ≤ 1000000000000) := fun k => by
    have := HGG.out.1.1.2.at (by omega) (by omega) k
    omega
  have HY : Hid (∀ k, -1000000000000 ≤ p * at' U k ∧ p * at' U k ≤ 1000000000000) := fun k => by
    have h1 := HU.out.1.2.at (by omega) (by omega) k
    have := mul_le (A := 13) (B := 13) (show -13 ≤ p ∧ p ≤ 13 by omega) (show -13 ≤ at' U k ∧ at' U k ≤ 13 by omega)
    omega
  have HC := weighed_any LG4.out OU.out ⟨HGG.out.1.1.1, by have := HGG.out.1.2.1; omega⟩ ⟨HU.out.1.1, HU.out.2⟩ 1 p HX.out HY.out
  clear cG cH
  go_wp2_with fail
  refine HC.mono ?_
  rintro e w5 ⟨v5, rfl, o5, b5⟩
  obtain ⟨a5, c5, rfl⟩ := o5.shape
  have B5 : Hid (Below w1.heap.size w1 w5) := by3.out.trans (b5.mono by3.out.size)
  have X5 : Hid (Bx w5 (w.heap.size + 1 + 1) (.slice none 0 0)) := XR4.out.kept b5
  have f5 := X5.out.free
  have c5' := X5.out.cell
  have y := (X5.out.set (.slice a5 (weigh G U 1 p).length c5)).cell
  have HZ4 : Hid (w1.heap.size ≤ w4.heap.size) := by3.out.size
  have HA : Hid (∃ v, Ending.returned (.agg #[.slice a5 (weigh G U 1 p).length c5]) = .returned v ∧ OwW (w5.setCell ⟨w.heap.size + 1 + 1, 0, none⟩ (.slice a5 (weigh G U 1 p).length c5)) w.heap.size (w5.setCell ⟨w.heap.size + 1 + 1, 0, none⟩ (.slice a5 (weigh G U 1 p).length c5)).heap.size v (weigh G U 1 p) ∧ Below w.heap.size w (w5.setCell ⟨w.heap.size + 1 + 1, 0, none⟩ (.slice a5 (weigh G U 1 p).length c5))) :=
    ⟨_, rfl, ⟨_, rfl, (o5.setBelow (by have := LR.out; have := HZ4.out; omega) _).wide (by have := B1.out.size; have := HZ4.out; omega) (by simp)⟩, (B1.out.trans (B5.out.mono B1.out.size)).setCell (by show w.heap.size ≤ w.heap.size + 1 + 1; omega) _⟩
  clear o5 b5 HC cG4
  generalize (weigh G U 1 p).length = gl at *
  go_wp2_with fail
  refine bodyPost_ret (v := .agg #[.slice a5 gl c5]) (by simp [results, Try.results38, y, go_sem]) rfl HA.out
end Go.Proofs.Ytfhcfeafohcjpaa.wh
