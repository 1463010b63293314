/- The program makes the terms of a family's polynomial: rows in a map. -/
import Derived.Test.YtfmdbgpalldjoabFpN
import Derived.Maps.OwnSet
import Derived.Maps.OwnOps
import Derived.Maps.Views
namespace Go.Proofs.Ytfmdbgpalldjoab.fp
open Go.RowKit Go.Fl Go.Fa Go.Fp Go.Maps Go.Proofs.Ytfmdbgpalldjoab.fls Go.Proofs.Ytfmdbgpalldjoab.fa Go.Proofs.Ytfmdbgpalldjoab.fin

/-- each value as it is -/
def RS (v : Value) : Option (DataW Value × List MemPlace) := some (.held v, [])
/-- what a row that is missing reads as -/
def Z0 : DataW Value := .held (.slice none 0 0)
theorem zero_row (w : World) : (zeroValue 30).run Try.prog w = .ok (.slice none 0 0) w := by kernel_rfl
theorem key_wf {k : Int} (h : -1000 ≤ k ∧ k ≤ 1000) : (Lit.int .i64 k).wf = true := WalkArith.wf_i64 (by omega)
theorem look_row {w : World} {b n : Nat} {D : DataW Value} {v : Value} (h : w.ownsMap Try.prog 2 RS b n D) {k : Int} (hk : -1000 ≤ k ∧ k ≤ 1000) (hv : D.atKey (.int .i64 k) Z0 = .held v) :
    (Instr.lookup 72 (.map (some b)) (.int .i64 k) false).run Try.prog w = .ok v w := by
  obtain ⟨u, ps, hrun, hat⟩ := h.lookup (int_keyed Try.underlying2) Try.underlying72 (zero_row w) (zd := Z0) (zp := []) rfl (keyOf_int_mk Try.underlying2 (key_wf hk))
  rw [hv] at hat
  have : u = v := by
    unfold RS at hat
    simp only [Option.some.injEq, Prod.mk.injEq, DataW.held.injEq] at hat
    exact hat.1
  rw [← this]
  exact hrun
theorem put_row {w : World} {b n : Nat} {D : DataW Value} (h : w.ownsMap Try.prog 2 RS b n D) (hn : n ≤ 1000) {k : Int} (hk : -1000 ≤ k ∧ k ≤ 1000) (v : Value) :
    ∃ w', (Instr.mapUpdate 72 (.map (some b)) (.int .i64 k) v).run Try.prog w = .ok () w' ∧ w'.ownsMap Try.prog 2 RS b (n + 1) (D.put (.int .i64 k) (.held v)) ∧ w.grownBy w' (some b) :=
  h.update (int_keyed Try.underlying2) Try.underlying72 (by unfold maxLen; omega) (keyOf_int_mk Try.underlying2 (key_wf hk)) rfl
theorem fls_row {w : World} {B n : Nat} {v : Value} {f : Nat → Nat} (h : w.ownsRow B 31 1 v n (fl f n)) (hn : n ≤ 1000) : Fls w v n f := by
  rcases h.2 with ⟨rfl, h0⟩ | ⟨g, cap, cur, rfl, hB, hg, _, _, hs, ht⟩
  · subst h0
    exact ⟨none, 0, rfl, by simp, fun e => absurd rfl e⟩
  · refine ⟨_, _, rfl, by omega, fun _ => ⟨g, 0, rfl, (Array.getElem?_eq_some_iff.1 hg).1, fun k hk => ?_⟩⟩
    rw [Nat.zero_add, cell_of_row _ _ _ _ _ _ hg]
    have h1 : (fl f n)[k]? = some (.float .f32 (f k)) := by
      unfold fl
      rw [List.getElem?_map, List.getElem?_range hk]; rfl
    rw [← ht, List.getElem?_take, if_pos (by omega)] at h1
    simpa using h1

theorem map_kept {w w' : World} {b n : Nat} {D : DataW Value} (h : w.ownsMap Try.prog 2 RS b n D) (hb : Below w.heap.size w w') : w'.ownsMap Try.prog 2 RS b n D := by
  have hl := h.lt
  obtain ⟨es, clock, he, F, hs, hD⟩ := h
  exact ⟨es, clock, (hb.block b hl).trans he, F, hs, hD⟩
theorem row_below {w w' : World} {base e size n : Nat} {v : Value} {xs : List Value} (h : w.ownsRow base e size v n xs) (hb : Below w.heap.size w w') : w'.ownsRow base e size v n xs := by
  rcases h with ⟨h1, h2 | ⟨g, cap, cur, hv, hB, hg, h3⟩⟩
  · exact ⟨h1, .inl h2⟩
  · exact ⟨h1, .inr ⟨g, cap, cur, hv, hB, by rw [hb.block g (Array.getElem?_eq_some_iff.1 hg).1]; exact hg, h3⟩⟩
theorem row_grown {w w' : World} {b e n : Nat} {v : Value} {xs : List Value} (h : w.ownsRow (b + 1) e 1 v n xs) (hg : w.grownBy w' (some b)) : w'.ownsRow (b + 1) e 1 v n xs := by
  refine h.kept hg ?_
  cases e : v.ownBlock with
  | none => exact .inl rfl
  | some g =>
    refine .inr (fun e2 => ?_)
    have := (h.lt g e).1
    injection e2 with e2
    omega
theorem key_ne {a b : Int} (h : a ≠ b) : (Lit.int .i64 a) ≠ Lit.int .i64 b := fun e => by injection e with _ e; exact h e

set_option maxRecDepth 100000 in
set_option maxHeartbeats 6400000 in
theorem iterms_any (kd n : Nat) (hkd : kd ≤ 4) (hn : n ≤ 16) (w : World) : Calls Try.prog 42 #[.int .i64 kd, .int .i64 n] w fun e w' => ∃ v, e = .returned v ∧ Fls w' v (n + 1) (at0 (tl kd n).1) ∧ Below w.heap.size w w' := by
  have hmm := @run_makeMap Try.prog
  obtain ⟨W2, hW2⟩ : ∃ x, x = (w.alloc (.map #[] 0)).alloc (.cells #[.float .f32 1065353216] 31) := ⟨_, rfl⟩
  have M0 : W2.ownsMap Try.prog 2 RS w.heap.size 0 (.map []) := by rw [hW2]; exact (World.ownsMap_made w _ _ _).alloc _
  have O0 : W2.ownsRow (w.heap.size + 1) 31 1 (.slice (some ⟨w.heap.size + 1, 0, none⟩) 1 1) 1 (fl (at0 (tl kd 0).1) 1) := by
    rw [hW2]
    refine ⟨rfl, .inr ⟨w.heap.size + 1, 1, #[.float .f32 1065353216], rfl, Nat.le_refl _, ?_, Nat.le_refl _, by decide, rfl, rfl⟩⟩
    have := heap_alloc_new (w.alloc (.map #[] 0)) (.cells #[.float .f32 1065353216] 31)
    rw [World.size_alloc] at this
    exact this
  have B0 : Below w.heap.size w W2 := by rw [hW2]; exact ((Below.refl _ _).alloc (Nat.le_refl _) _).alloc (by simp) _
  obtain ⟨W3, hmu, M1, g1⟩ := put_row M0 (by omega) (k := 0) (by omega) (.slice (some ⟨w.heap.size + 1, 0, none⟩) 1 1)
  have HM1 : Hid (W3.ownsMap Try.prog 2 RS w.heap.size (0 + 1) ((DataW.map []).put (.int .i64 0) (.held (.slice (some ⟨w.heap.size + 1, 0, none⟩) 1 1)))) := M1
  have HO1 : Hid (W3.ownsRow (w.heap.size + 1) 31 1 (.slice (some ⟨w.heap.size + 1, 0, none⟩) 1 1) 1 (fl (at0 (tl kd 0).1) 1)) := O0.kept g1 (.inr (by simp [Value.ownBlock]))
  have HB1 : Hid (Below w.heap.size w W3) := B0.grown g1 B0.size (by intro j hj; injection hj with hj; omega)
  have HZ1 : Hid (W3.ownsRow (w.heap.size + 1) 31 1 (.slice none 0 0) 0 (fl (at0 (tl kd 0).2) 0)) := World.ownsRow_nil _ _ _ _
  clear M0 O0 B0 M1 g1
  rw [hW2] at hmu
  clear hW2
  go_enter Try.func42, Try.ntmps42
  go_wp2_with fail
  clear hmu hmm
  have D1 : Hid (((DataW.map [] : DataW Value).put (.int .i64 0) (.held (.slice (some ⟨w.heap.size + 1, 0, none⟩) 1 1))).atKey (.int .i64 0) Z0 = .held (.slice (some ⟨w.heap.size + 1, 0, none⟩) 1 1)) := atKey_put_same isMap_empty (show WideAt.IsKeyLit (.int .i64 0) from trivial) _ _
  have D2 : Hid (((DataW.map [] : DataW Value).put (.int .i64 0) (.held (.slice (some ⟨w.heap.size + 1, 0, none⟩) 1 1))).atKey (.int .i64 (0 - 1)) Z0 = .held (.slice none 0 0)) := (atKey_put_other (key_ne (by omega)) _ _).trans rfl
  go_loopw [11] (fun t wr => ∃ (k : Nat) (D : DataW Value) (v1 v0 : Value), k ≤ n ∧ t = .int .i64 k ∧ Hid (wr.ownsMap Try.prog 2 RS w.heap.size (k + 1) D) ∧ Hid (D.atKey (.int .i64 (k : Int)) Z0 = .held v1) ∧ Hid (D.atKey (.int .i64 ((k : Int) - 1)) Z0 = .held v0) ∧ Hid (wr.ownsRow (w.heap.size + 1) 31 1 v1 (k + 1) (fl (at0 (tl kd k).1) (k + 1))) ∧ Hid (wr.ownsRow (w.heap.size + 1) 31 1 v0 k (fl (at0 (tl kd k).2) k)) ∧ Hid (Below w.heap.size w wr)) (fun t _ => n - (RowKit.intOf t).toNat)
  case atStart => exact ⟨0, _, _, _, by omega, rfl, HM1, D1, D2, HO1, HZ1, HB1⟩
  case round =>
    obtain ⟨k, D, v1, v0, hk, rfl, hm, hd1, hd0, ho1, ho0, hb⟩ := hrel
    clear HM1 D1 D2 HO1 HZ1 HB1
    have LK : Hid (∀ W, Below wr.heap.size wr W → (Instr.lookup 72 (.map (some w.heap.size)) (.int .i64 (k : Int)) false).run Try.prog W = .ok v1 W ∧ (Instr.lookup 72 (.map (some w.heap.size)) (.int .i64 ((k : Int) - 1)) false).run Try.prog W = .ok v0 W) := fun W hW => ⟨look_row (map_kept hm.out hW) (by omega) hd1.out, look_row (map_kept hm.out hW) (by omega) hd0.out⟩
    by_cases hlt : k < n
    · have NT : Hid (∀ W, Below wr.heap.size wr W → Calls Try.prog 48 #[.agg #[.float .f32 (ra kd k), .float .f32 (rb kd k), .float .f32 (rc kd k)], v1, v0] W fun e w' => ∃ g, e = .returned (.slice (some ⟨g, 0, none⟩) (k + 2) (k + 2)) ∧ W.heap.size ≤ g ∧ w'.ownsRow W.heap.size 31 1 (.slice (some ⟨g, 0, none⟩) (k + 2) (k + 2)) (k + 2) (fl (at0 (tl kd (k + 1)).1) (k + 2)) ∧ Below W.heap.size W w') := fun W hW =>
        inext_any kd k hkd (by omega) (fls_row (row_below ho1.out hW) (by omega)) (fls_row (row_below ho0.out hW) (by omega))
      have RU : Hid (∀ W, Calls Try.prog 32 #[.int .i64 kd, .int .i64 k] W (RuleI kd k W)) := fun W => irule_any kd k hkd (by omega) W
      have HWS : Hid (w.heap.size + 1 ≤ wr.heap.size) := by show _ ≤ _; have := hm.out.lt; omega
      have LF : Hid (∀ W w6 w7 g, Below wr.heap.size wr W → w6.ownsRow W.heap.size 31 1 (.slice (some ⟨g, 0, none⟩) (k + 2) (k + 2)) (k + 2) (fl (at0 (tl kd (k + 1)).1) (k + 2)) → Below W.heap.size W w6 → w6.grownBy w7 (some w.heap.size) →
          w7.ownsRow (w.heap.size + 1) 31 1 (.slice (some ⟨g, 0, none⟩) (k + 2) (k + 2)) (k + 2) (fl (at0 (tl kd (k + 1)).1) (k + 2)) ∧ w7.ownsRow (w.heap.size + 1) 31 1 v1 (k + 1) (fl (at0 (tl kd (k + 1)).2) (k + 1)) ∧ Below w.heap.size w w7) := fun W w6 w7 g hW o6 b6 g7 => by
        have h1 := HWS.out
        have h2 := hW.size
        refine ⟨row_grown (own_widen o6 (by omega)) g7, ?_, ?_⟩
        · rw [tl_two]
          exact row_grown (row_below (row_below ho1.out hW) (b6.mono (Nat.le_refl _))) g7
        · have hb6 : Below w.heap.size w w6 := (hb.out.trans (hW.mono (by omega))).trans (b6.mono (by omega))
          exact hb6.grown g7 hb6.size (by intro j hj; injection hj with hj; omega)
      have UPD : Hid (∀ W g, Below wr.heap.size wr W → ∃ w7, (Instr.mapUpdate 72 (.map (some w.heap.size)) (.int .i64 ((k : Int) + 1)) (.slice (some ⟨g, 0, none⟩) (k + 2) (k + 2))).run Try.prog W = .ok () w7 ∧ w7.ownsMap Try.prog 2 RS w.heap.size (k + 1 + 1) (D.put (.int .i64 ((k : Int) + 1)) (.held (.slice (some ⟨g, 0, none⟩) (k + 2) (k + 2)))) ∧ W.grownBy w7 (some w.heap.size)) := fun W g hW => put_row (map_kept hm.out hW) (by omega) (by omega) _
      have bd : Hid (Below wr.heap.size wr wr.drew) := (Below.refl _ _).drew
      have HMP : Hid (IsMap D) := hm.out.isMap
      have l1 := (LK.out _ bd.out).1
      have l2 := (LK.out _ bd.out).2
      clear hm ho1 ho0 hb
      unfold RuleI at RU
      generalize ra kd k = qa at *
      generalize rb kd k = qb at *
      generalize rc kd k = qc at *
      have u1 : IntKind.i64.wrap ((k : Int) + 1) = (k : Int) + 1 := IntWalk.i64_in _ (by omega)
      have u2 : IntKind.i64.wrap ((k : Int) - 1) = (k : Int) - 1 := IntWalk.i64_in _ (by omega)
      go_upto_region 5 with fail
      go_cut [16] (fun s wx => s = .int .i64 ((k : Int) + 1) ∧ Hid (∃ g, wx.ownsMap Try.prog 2 RS w.heap.size (k + 1 + 1) (D.put (.int .i64 ((k : Int) + 1)) (.held (.slice (some ⟨g, 0, none⟩) (k + 2) (k + 2)))) ∧ wx.ownsRow (w.heap.size + 1) 31 1 (.slice (some ⟨g, 0, none⟩) (k + 2) (k + 2)) (k + 2) (fl (at0 (tl kd (k + 1)).1) (k + 2)) ∧ wx.ownsRow (w.heap.size + 1) 31 1 v1 (k + 1) (fl (at0 (tl kd (k + 1)).2) (k + 1)) ∧ Below w.heap.size w wx))
      case first =>
        go_region_law (first
          | (go_simp; go_at_call 32; refine (RU.out _).mono ?_; rintro e w1 ⟨rfl, b⟩; have b1 : Hid (Below wr.heap.size wr w1) := bd.out.trans (b.mono bd.out.size); have l1' := (LK.out _ b1.out).1; have l2' := (LK.out _ b1.out).2; clear b)
          | (go_simp; go_at_call 48; refine (NT.out _ b1.out).mono ?_; rintro e w6 ⟨g, rfl, hg, o6, b6⟩; obtain ⟨w7, hmu, hm7, hg7⟩ := UPD.out w6 g (b1.out.trans (b6.mono b1.out.size)); have L7 := Lib.hid (LF.out _ _ _ _ b1.out o6 b6 hg7); have M7 := Lib.hid hm7; clear o6 b6 hg7 hm7 hg))
        all_goals (go_wp2_with fail; go_meet; exact ⟨rfl, g, M7.out, L7.out⟩)
      case rest =>
        obtain ⟨rfl, hx⟩ := hcut
        obtain ⟨g, m7, o7, o1, b7⟩ := hx.out
        have M7 := Lib.hid m7
        have O7 := Lib.hid o7
        have O1 := Lib.hid o1
        have B7 := Lib.hid b7
        have A1 : Hid (((D.put (.int .i64 ((k : Int) + 1)) (.held (.slice (some ⟨g, 0, none⟩) (k + 2) (k + 2)))).del (.int .i64 ((k : Int) - 1))).atKey (.int .i64 (((k + 1 : Nat) : Int))) Z0 = .held (.slice (some ⟨g, 0, none⟩) (k + 2) (k + 2))) := by
          show _ = _
          rw [show (((k + 1 : Nat) : Int)) = (k : Int) + 1 by omega, atKey_del_other (key_ne (by omega)), atKey_put_same HMP.out (show WideAt.IsKeyLit (.int .i64 ((k : Int) + 1)) from trivial)]
        have A2 : Hid (((D.put (.int .i64 ((k : Int) + 1)) (.held (.slice (some ⟨g, 0, none⟩) (k + 2) (k + 2)))).del (.int .i64 ((k : Int) - 1))).atKey (.int .i64 (((k + 1 : Nat) : Int) - 1)) Z0 = .held v1) := by
          show _ = _
          rw [show (((k + 1 : Nat) : Int)) - 1 = (k : Int) by omega, atKey_del_other (key_ne (by omega)), atKey_put_other (key_ne (by omega)), hd1.out]
        have hwf := key_wf (k := (k : Int) - 1) (by omega)
        clear hx m7 o7 o1 b7 LK NT RU LF UPD bd l1 l2
        go_wp2_with (first | (at_delete; refine wpList_delete_own _ rfl (.tmp 28) (.tmp 30) 72 2 rfl 30 (int_keyed Try.underlying2) Try.underlying72 RS w.heap.size (k + 1 + 1) _ rfl M7.out (.int .i64 ((k : Int) - 1)) (.int .i64 ((k : Int) - 1)) rfl (keyOf_int_mk Try.underlying2 hwf) ?_; intro w8 hm8 ht8))
        have H8 := Lib.hid hm8
        have R2 := Lib.hid (row_grown O7.out ht8.grown)
        have R1 := Lib.hid (row_grown O1.out ht8.grown)
        have B8 : Hid (Below w.heap.size w w8) := B7.out.grown ht8.grown B7.out.size (by intro j hj; injection hj with hj; omega)
        clear hm8 ht8
        go_roundw
        case rel => exact ⟨k + 1, _, _, _, by omega, by go_num, H8, A1, A2, R2, R1, B8⟩
        case measure => simp [RowKit.intOf]; omega
    · obtain rfl : k = n := by omega
      have l1 := (LK.out _ (Below.refl _ _)).1
      have HF := Lib.hid (fls_row ho1.out (by omega))
      clear hm ho1 ho0 LK hd1 hd0
      go_wp2_with fail
      go_ret
      exact ⟨_, rfl, HF.out, hb.out⟩
end Go.Proofs.Ytfmdbgpalldjoab.fp
