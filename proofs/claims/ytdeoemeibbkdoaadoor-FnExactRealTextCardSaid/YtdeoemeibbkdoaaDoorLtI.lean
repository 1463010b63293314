/- ListText: by the library's contracts. -/
import Derived.Test.YtdeoemeibbkdoaaDoorLtW
import Derived.Test.YtdeoemeibbkdoaaDoorRdI
import Derived.Test.YtdeoemeibbkdoaaDoorJShelf
import Derived.Test.YtdeoemeibbkdoaaDoorPost
import Derived.Shelf.Strings.OnBuilder
namespace Go.Proofs.YtdeoemeibbkdoaaDoor.lt
open Go.RowKit Go.Lib Go.Rd Go.Lt Go.Proofs.YtdeoemeibbkdoaaDoor.dec Go.Proofs.YtdeoemeibbkdoaaDoor.ils Go.Shelf

theorem extra : Builder.Extra Tryd.prog Tryd.lays156_ren where
  sizeBuilder := by kernel_rfl
  liesBuilder := by kernel_rfl
  t5 := Tryd.underlying5
  a5 := Tryd.isAgg5
  z5 := Tryd.sizeOf5
  v5 := Tryd.zeroValue5
  infoByte := by kernel_rfl
  cellsByte := by kernel_rfl
  sizeByte := by kernel_rfl
  neB5 := by decide

theorem value_yes (z : Int) (h : inR z) (w : World) (ht : TabOk w) :
    Calls Tryd.prog 59 #[.int .i64 z] w fun e w' => e = .returned (.tuple #[.string ⟨(itoa z).toArray⟩, .bool true]) ∧ Below w.heap.size w w' := by
  unfold inR at h
  have hi := dec.impl_any z (by omega) (by omega) w ht
  clear ht
  generalize itoa z = s at *
  go_enter Tryd.func59, Tryd.ntmps59
  go_wp2_with (first | (go_at_call 77; refine (rd.val_yes z h.1 h.2 _).mono ?_; rintro e w0 ⟨rfl, hw0⟩; rw [hw0]; clear hw0))
  refine hi.mono ?_
  rintro e w' ⟨rfl, hb⟩
  have HB : Hid (Below w.heap.size w w') := hb
  clear hb hi
  go_wp2_with fail
  go_ret2
  exact ⟨rfl, HB.out⟩
theorem value_no (z : Int) (h : ¬ inR z) (w : World) :
    Calls Tryd.prog 59 #[.int .i64 z] w fun e w' => e = .returned (.tuple #[.string ⟨#[]⟩, .bool false]) ∧ w' = w := by
  have h' : z < -1000000000000000 ∨ 1000000000000000 < z := by unfold inR at h; omega
  clear h
  go_enter Tryd.func59, Tryd.ntmps59
  go_wp2_with (first | (go_at_call 77; refine (rd.val_no z h' _).mono ?_; rintro e w' ⟨rfl, rfl⟩))
  go_ret2
  exact ⟨rfl, rfl⟩

theorem info_s : (Tryd.prog.info? 9).map (fun i => (i.zero, i.size, i.bytes)) = some (some (.string ⟨#[]⟩), 1, 16) := by kernel_rfl
theorem one_new (w : World) (u : Value) : ∀ j v, [u][j]? = some v → (w.alloc (.cells #[u] 9)).cell? ((⟨w.heap.size, 0, none⟩ : Addr).add j) = some v := by
  have ho : (w.alloc (.cells #[u] 9)).ownsRow w.heap.size 9 1 (.slice (some ⟨w.heap.size, 0, none⟩) 1 1) 1 [u] :=
    ⟨rfl, .inr ⟨w.heap.size, 1, #[u], rfl, Nat.le_refl _, heap_alloc_new w _, by omega, by decide, rfl, rfl⟩⟩
  intro j v hj
  have hl : j < 1 := by
    have := (List.getElem?_eq_some_iff.1 hj).1
    simpa using this
  rw [Addr.add_lit, Nat.zero_add, ho.cellAt j (by omega)]
  exact hj
theorem own_below {w w' : World} {B e g n cap : Nat} {xs : List Value} (h : w.ownsRow B e 1 (.slice (some ⟨g, 0, none⟩) n cap) n xs) (hb : Below w.heap.size w w') : w'.ownsRow B e 1 (.slice (some ⟨g, 0, none⟩) n cap) n xs := by
  have hl := ils.own_lt h
  refine ⟨h.1, ?_⟩
  rcases h.2 with ⟨h', _⟩ | ⟨g', cap', cur, h', hB, hg, r⟩
  · simp at h'
  · have h2 := h'
    simp only [Value.slice.injEq, Option.some.injEq, Addr.mk.injEq, and_true] at h2
    obtain ⟨rfl, _⟩ := h2
    exact .inr ⟨g, cap', cur, h', hB, by rw [hb.block g hl]; exact hg, r⟩

set_option maxRecDepth 100000 in
set_option maxHeartbeats 1600000 in
theorem items_any {v : Value} {n : Nat} {f : Nat → Int} {w : World} (h : Ils w v n f) (ht : TabOk w) :
    Calls Tryd.prog 58 #[v, .int .i64 64, .func (.func 59) #[] #[]] w fun e w' => Ans n f e ∧ Below w.heap.size w w' := by
  obtain ⟨ao, cap, rfl, hn, hc⟩ := h
  obtain ⟨i0, hi, hz0, hz1, hz2⟩ := info_parts info_s
  have HT : Hid (TabOk w) := ht
  clear ht
  by_cases h64 : 64 < n
  · have HA : Hid (Ans n f (.returned (.tuple #[.string ⟨#[]⟩, .bool false]))) := by show _ = _; unfold ans; rw [good_many (by omega)]; rfl
    clear hc hi hz0 hz1 hz2
    go_enter Tryd.func58, Tryd.ntmps58
    go_wp2
    go_ret2
    exact ⟨HA.out, Below.refl _ _⟩
  by_cases h0 : n = 0
  · subst h0
    have HA : Hid (Ans 0 f (.returned (.tuple #[.string ⟨#[110, 111, 110, 101]⟩, .bool true]))) := rfl
    clear hc hi hz0 hz1 hz2
    go_enter Tryd.func58, Tryd.ntmps58
    go_wp2
    go_ret2
    exact ⟨HA.out, Below.refl _ _⟩
  obtain ⟨b, off, rfl, hbw, hcell⟩ := hc h0
  have HC : Hid (∀ k, k < n → w.cell? ⟨b, off + k, none⟩ = some (.int .i64 (f k))) := hcell
  have HBW : Hid (b < w.heap.size) := hbw
  have h64' : n ≤ 64 := by omega
  have hn0 : 0 < n := by omega
  have hb0 : ((n : Int) == 0) = false := by rw [beq_eq_false_iff_ne]; omega
  have hml : n ≤ maxLen := by unfold maxLen; omega
  clear hc hcell hbw h64 h0
  obtain ⟨B, hB⟩ : ∃ B, B = w.heap.size := ⟨_, rfl⟩
  go_enter Tryd.func58, Tryd.ntmps58
  go_wp2_with (first | (refine wpList_make_own _ rfl (.const (.int .i64 0)) (.tmp 21) 38 rfl w.heap.size 9 i0 (.string ⟨#[]⟩) 1 Tryd.underlying38 hi hz0 hz1 .i64 .i64 _ n rfl rfl rfl (by rw [hz2]; omega) hml (Nat.le_refl _) ?_; intro w1 hown hgrow))
  rw [← hB] at hown
  rw [← hB]
  have hbel : Below B w w1 := (Below.refl B w).grown hgrow (by omega) (by intro k hk; cases hk)
  have HE : Hid (B = w.heap.size) := hB
  clear hgrow hB
  go_loopw [8, 25] (fun v i wr => ∃ (k : Nat), k ≤ n ∧ v = .slice (some ⟨B, 0, none⟩) k n ∧ i = .int .i64 k ∧ Hid (wr.ownsRow B 9 1 (.slice (some ⟨B, 0, none⟩) k n) k ((items f k).map Value.string)) ∧ Hid (∀ j, j < k → inR (f j)) ∧ Hid (Below B w wr)) (fun _ i _ => n - (RowKit.intOf i).toNat)
  case atStart => exact ⟨0, by omega, rfl, rfl, hown, fun j hj => by omega, hbel⟩
  case round =>
    obtain ⟨k, hk, rfl, rfl, ho, hr, hb⟩ := hrel
    by_cases hlt : k < n
    · have e1 : wr.cell? ⟨b, off + k, none⟩ = some (.int .i64 (f k)) := (hb.out.cell (by have := HE.out; have := HBW.out; show b < B; omega)).trans (HC.out k hlt)
      have HTr : TabOk wr := tab_below HT.out (by rw [← HE.out]; exact hb.out)
      by_cases hin : inR (f k)
      · have HR : Hid (∀ j, j < k + 1 → inR (f j)) := fun j hj => by
          by_cases e : j = k
          · rw [e]; exact hin
          · exact hr.out j (by omega)
        have hcall := value_yes (f k) hin wr HTr
        have his : Hid ((items f k).map Value.string ++ [.string ⟨(itoa (f k)).toArray⟩] = (items f (k + 1)).map Value.string) := by show _ = _; rw [items_succ, List.map_append]; rfl
        clear hin HTr hr
        generalize f k = z at e1 hcall his
        generalize itoa z = t at hcall his
        go_wp2_with fail
        refine hcall.mono ?_
        rintro e w2 ⟨rfl, b2⟩
        have hS : B < wr.heap.size := ils.own_lt ho.out
        have HO : Hid (w2.ownsRow B 9 1 (.slice (some ⟨B, 0, none⟩) k n) k ((items f k).map Value.string)) := own_below ho.out b2
        have B2 : Hid (Below B w w2) := hb.out.trans (b2.mono (by omega))
        have HS : Hid (B < w2.heap.size) := ils.own_lt HO.out
        clear b2 hcall hb ho hS e1
        go_wp2_with (first | (at_builtin; refine wpList_append_fits _ rfl (.tmp 37) (.tmp 39) 38 rfl B 9 i0 1 Tryd.underlying38 hi hz1 B k n ((items f k).map Value.string) rfl (HO.out.alloc _) ⟨w2.heap.size, 0, none⟩ 1 1 [.string ⟨t.toArray⟩] rfl rfl (one_new w2 _) (by intro u hu; rw [List.mem_singleton] at hu; subst hu; rfl) (by omega) ?_; intro w3 hown' hgrow))
        have HO2 : Hid (w3.ownsRow B 9 1 (.slice (some ⟨B, 0, none⟩) (k + 1) n) (k + 1) ((items f (k + 1)).map Value.string)) := by show World.ownsRow _ _ _ _ _ _ _; rw [← his.out]; exact hown'
        have HB3 : Hid (Below B w w3) := (B2.out.alloc (Nat.le_of_lt HS.out) _).grown hgrow (by have := HS.out; simp; omega) (by intro j hj; injection hj with hj; omega)
        clear hown' hgrow
        go_roundw
        case rel => exact ⟨k + 1, by omega, rfl, by go_num, HO2, HR, HB3⟩
        case measure => simp [RowKit.intOf]; omega
      · have HA : Hid (Ans n f (.returned (.tuple #[.string ⟨#[]⟩, .bool false]))) := by show _ = _; unfold ans; rw [good_no hlt hin]; rfl
        have hcall := value_no (f k) hin wr
        clear hin HTr hr
        generalize f k = z at e1 hcall
        go_wp2_with fail
        refine hcall.mono ?_
        rintro e w0 ⟨rfl, hw0⟩
        rw [hw0]
        clear hw0 hcall
        go_wp2_with fail
        go_ret2
        exact ⟨HA.out, by rw [← HE.out]; exact hb.out⟩
    · obtain rfl : k = n := by omega
      obtain ⟨m, rfl⟩ : ∃ m, k = m + 1 := ⟨k - 1, by omega⟩
      have HA : Hid (Ans (m + 1) f (.returned (.tuple #[.string ⟨(tx f m).toArray⟩, .bool true]))) := by
        show _ = _
        unfold ans text
        rw [good_yes h64' hr.out, if_pos rfl, if_neg (by omega)]
        rfl
      have hS : B < wr.heap.size := ils.own_lt ho.out
      have hl := tx_len f (m + 1) hr.out m (by omega)
      have cJ : Calls Tryd.prog 76 #[.slice (some ⟨B, 0, none⟩) (items f (m + 1)).length (m + 1), .string ⟨#[44]⟩] wr fun e w' => e = .returned (.string ⟨(Lib.join ((items f (m + 1)).map (·.data.toList)) [44]).toArray⟩) ∧ Below wr.heap.size wr w' :=
        Any.strings_Join Tryd.lays156 extra B 0 (m + 1) (items f (m + 1)) ⟨#[44]⟩ wr (fun j x hj => by
          rw [Nat.zero_add, ho.out.cellAt j (by have := (List.getElem?_eq_some_iff.1 hj).1; rw [items_length] at this; omega), List.getElem?_map, hj]
          rfl) hS (by rw [items_length]; omega) (by rw [items_length]; omega) (by
          show (Lib.join ((items f (m + 1)).map (·.data.toList)) [44]).length ≤ _
          rw [join_items]; omega)
      rw [items_length, join_items] at cJ
      have HB : Hid (Below B w wr) := hb.out
      have HS : Hid (B ≤ wr.heap.size) := Nat.le_of_lt hS
      clear hl hS hr ho hb
      generalize tx f m = t at *
      go_wp2_with fail
      refine cJ.mono ?_
      rintro e w2 ⟨rfl, b2⟩
      have B2 : Hid (Below B w w2) := HB.out.trans (b2.mono HS.out)
      clear b2 cJ
      go_wp2_with fail
      go_ret2
      exact ⟨HA.out, by rw [← HE.out]; exact B2.out⟩

theorem impl_any {v : Value} {n : Nat} {f : Nat → Int} {w : World} (h : Ils w v n f) (ht : TabOk w) :
    Calls Tryd.prog 33 #[v] w fun e w' => Ans n f e ∧ Below w.heap.size w w' := by
  have hi := items_any h ht
  have HX : Hid (∀ e, Ans n f e → e = .returned (.tuple #[.string (ans n f), .bool (good n f)])) := fun e h => h
  clear h ht
  go_enter Tryd.func33, Tryd.ntmps33
  go_wp2_with fail
  refine hi.mono ?_
  rintro e w' ⟨ha, hb⟩
  obtain rfl := HX.out e ha
  have HB : Hid (Below w.heap.size w w') := hb
  have HA : Hid (Ans n f (.returned (.tuple #[.string (ans n f), .bool (good n f)]))) := ha
  clear ha hb hi HX
  go_wp2_with fail
  go_ret2
  exact ⟨HA.out, HB.out⟩
end Go.Proofs.YtdeoemeibbkdoaaDoor.lt
namespace Go.Proofs.YtdeoemeibbkdoaaDoor.fnExactListTextW
open Go.RowKit Go.Lib Go.Rd Go.Lt Go.Proofs.YtdeoemeibbkdoaaDoor.dec Go.Proofs.YtdeoemeibbkdoaaDoor.ils Go.Proofs.YtdeoemeibbkdoaaDoor.lt

end Go.Proofs.YtdeoemeibbkdoaaDoor.fnExactListTextW
