/- Lifting two factors: the program's inverse modulo a whole. -/
import Derived.Test.YtfhcfeafohcjpaaLiG
namespace Go.Proofs.Ytfhcfeafohcjpaa.wh
open Go.RowKit Go.Pl

set_option maxRecDepth 100000 in
set_option maxHeartbeats 8000000 in
theorem iim_any {ho go : Option Addr} {hc gc : Nat} {H G T : List Int} {p c : Int} {w : World} (hp : isP p = true)
    (hh : Ls w (.slice ho H.length hc) H) (hg : Ls w (.slice go G.length gc) G) (ht : Tk p 20 G [0] H [1]) (hR : ivm p (mu H) G [0] H [1] = ([c], T)) (hcr : 0 < c ∧ c < p) (hT : Ov T p ∧ T.length ≤ 20) :
    Calls Try.prog 66 #[.slice ho H.length hc, .slice go G.length gc, .int .i64 p] w
      fun e w' => ∃ v, e = .returned v ∧ Own w' w.heap.size w'.heap.size v (om T [inv c p] p) ∧ Below w.heap.size w w' := by
  obtain ⟨w3, hw3⟩ : ∃ x, x = ((w.alloc (.cells #[.int .i64 p] 2)).alloc (.cells #[.int .i64 0] 2)).alloc (.cells #[.int .i64 1] 2) := ⟨_, rfl⟩
  have HW3 : Hid (w3 = ((w.alloc (.cells #[.int .i64 p] 2)).alloc (.cells #[.int .i64 0] 2)).alloc (.cells #[.int .i64 1] 2)) := hw3
  have B3 : Hid (Below w.heap.size w w3) := by
    show Below _ _ _
    rw [hw3]
    exact (((Below.refl _ _).alloc (Nat.le_refl _) _).alloc (by simp only [World.size_alloc]; omega) _).alloc (by simp only [World.size_alloc]; omega) _
  have XP : Hid (Bx w3 w.heap.size (.int .i64 p)) := by
    show Bx _ _ _
    rw [hw3]
    exact ((Bx.new _ _ _).alloc _).alloc _
  have L0 : Ls w3 (.slice (some ⟨w.heap.size + 1, 0, none⟩) 1 1) [0] := by
    have := lit_ls (w.alloc (.cells #[.int .i64 p] 2)) 0
    rw [World.size_alloc] at this
    rw [hw3]
    exact this.below (new1 _ _)
  have L1 : Ls w3 (.slice (some ⟨w.heap.size + 1 + 1, 0, none⟩) 1 1) [1] := by
    have := lit_ls ((w.alloc (.cells #[.int .i64 p] 2)).alloc (.cells #[.int .i64 0] 2)) 1
    simp only [World.size_alloc] at this
    rw [hw3]
    exact this
  have HGM := gm_any XP.out.cell XP.out.lt hp (hg.below B3.out) L0 (hh.below B3.out) L1 ht hR
  have HC : Hid (isP p = true ∧ 0 < c ∧ c < p) := ⟨hp, hcr⟩
  obtain ⟨iv, hiv⟩ : ∃ i, i = inv c p := ⟨_, rfl⟩
  have HII : Hid (iv = inv c p) := hiv
  have hib := inv_ok hp hcr
  have hp2 := isP_le hp
  have hl : Ov [iv] p := ⟨by simp, fun z hz => by rw [List.mem_singleton] at hz; rw [hiv] at hz; omega⟩
  have HTB : Hid ((1 ≤ T.length ∧ T.length ≤ 40) ∧ (1 ≤ [iv].length ∧ [iv].length ≤ 40)) := ⟨⟨hT.1.1, by omega⟩, by simp⟩
  have HOB : Hid (∀ i k, -1000000000000 ≤ at' T i * at' [iv] k ∧ at' T i * at' [iv] k ≤ 1000000000000) := over_bd hT.1.2 hl.2 hp2
  have HPQ : Hid (1 ≤ p ∧ p ≤ 1000000) := ⟨by omega, by omega⟩
  rw [← hiv]
  clear hiv hib hl hp2 hT hcr hR ht hh hg hp L0 L1 hw3
  go_enter Try.func66, Try.ntmps66
  go_wp2_with fail
  rw [← HW3.out]
  refine HGM.mono ?_
  rintro e w4 ⟨ra, rc, ta, tc, rfl, lr, lt, b⟩
  obtain ⟨w5, hw5⟩ : ∃ x, x = w4.alloc (.cells #[.slice ra 1 rc, .slice ta T.length tc] 97) := ⟨_, rfl⟩
  have b5 : Below w4.heap.size w4 w5 := by rw [hw5]; exact new1 _ _
  have N5 : Hid (Bx2 w5 w4.heap.size (.slice ra 1 rc) (.slice ta T.length tc)) := by show Bx2 _ _ _ _; rw [hw5]; exact Bx2.new _ _ _ _
  have B35 : Hid (Below w3.heap.size w3 w5) := b.trans (b5.mono b.size)
  have XP5 : Hid (Bx w5 w.heap.size (.int .i64 p)) := XP.out.kept B35.out
  have LR : Hid (Ls w5 (.slice ra 1 rc) [c]) := lr.below b5
  have LT : Hid (Ls w5 (.slice ta T.length tc) T) := lt.below b5
  have BW : Hid (Below w.heap.size w w5) := B3.out.trans (B35.out.mono B3.out.size)
  have bd : Hid (Below w5.heap.size w5 w5.drew) := (Below.refl _ _).drew
  have HLast : Hid ([c][[c].length - 1]? = some c) := rfl
  have c0 := N5.out.c0
  have c1 := N5.out.c1
  have cp := XP5.out.cell
  clear lr lt b b5 HGM HW3
  go_wp2_with fail
  rw [← hw5]
  clear hw5
  go_region_held3 (fun w' => w'.cell? ⟨w4.heap.size, 0, none⟩ = some (.slice ra 1 rc) ∧ w'.cell? ⟨w4.heap.size, 1, none⟩ = some (.slice ta T.length tc) ∧ w'.cell? ⟨w.heap.size, 0, none⟩ = some (.int .i64 p) ∧ Hid (Below w5.heap.size w5 w'))
    (first | exact ⟨(N5.out.kept bs.out).c0, (N5.out.kept bs.out).c1, (XP5.out.kept bs.out).cell, bs⟩ | exact ⟨(N5.out.kept bd.out).c0, (N5.out.kept bd.out).c1, (XP5.out.kept bd.out).cell, bd⟩ | exact ⟨((N5.out.kept bd.out).alloc _).c0, ((N5.out.kept bd.out).alloc _).c1, ((XP5.out.kept bd.out).alloc _).cell, bd.out.alloc bd.out.size _⟩)
    (first
      | (go_at_call 59; have hC := last_any (LR.out.below bd.out) HLast.out; (with_reducible refine hC.mono ?_); clear hC; rintro e wl ⟨rfl, rfl⟩)
      | (go_at_call 79; have hC := iinv_any c p HC.out.1 HC.out.2 w5.drew; (with_reducible refine hC.mono ?_); clear hC; rintro e wl ⟨rfl, rfl⟩; rw [← HII.out])
      | (go_at_call 65; have hC := pover_any (LT.out.below (bd.out.alloc bd.out.size _)) (lit_ls w5.drew iv) HTB.out.1 HTB.out.2 HOB.out p HPQ.out; (refine hC.mono ?_); clear hC; rintro e w7 ⟨v7, rfl, o', b⟩; have o : Own w7 w5.heap.size w7.heap.size v7 (om T [iv] p) := Own.wide o' (by simp only [World.size_alloc]; exact Nat.le_succ _) (Nat.le_refl _); clear o'; obtain ⟨ua, ue, rfl⟩ := o.shape; have bs : Hid (Below w5.heap.size w5 w7) := viaA bd.out b; have HO : Hid (Own w7 w5.heap.size w7.heap.size (.slice ua (om T [iv] p).length ue) (om T [iv] p)) := o; clear o b))
  have HF : Hid (Own w7 w.heap.size w7.heap.size (.slice ua (om T [iv] p).length ue) (om T [iv] p)) := HO.out.wide BW.out.size (Nat.le_refl _)
  have HB : Hid (Below w.heap.size w w7) := BW.out.trans (bs.out.mono BW.out.size)
  go_wp2_with fail
  go_ret
  exact ⟨_, rfl, HF.out, HB.out⟩
end Go.Proofs.Ytfhcfeafohcjpaa.wh
