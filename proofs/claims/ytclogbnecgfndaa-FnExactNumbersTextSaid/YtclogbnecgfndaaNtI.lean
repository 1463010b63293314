/- NumbersText: by the library's contracts. -/
import Derived.Test.YtclogbnecgfndaaNtW
namespace Go.Proofs.Ytclogbnecgfndaa.nt
open Go.RowKit Go.Nt Go.Proofs.Ytclogbnecgfndaa.fls Go.Proofs.Ytclogbnecgfndaa.hex Go.Shelf

theorem extra : Builder.Extra Try.prog Try.lays156_ren where
  sizeBuilder := by kernel_rfl
  liesBuilder := by kernel_rfl
  t5 := Try.underlying5
  a5 := Try.isAgg5
  z5 := Try.sizeOf5
  v5 := Try.zeroValue5
  infoByte := by kernel_rfl
  cellsByte := by kernel_rfl
  sizeByte := by kernel_rfl
  neB5 := by decide

theorem info_s : (Try.prog.info? 9).map (fun i => (i.zero, i.size, i.bytes)) = some (some (.string ⟨#[]⟩), 1, 16) := by kernel_rfl
theorem one_new (w : World) (u : Value) : ∀ j v, [u][j]? = some v → (w.alloc (.cells #[u] 9)).cell? ((⟨w.heap.size, 0, none⟩ : Addr).add j) = some v := by
  have ho : (w.alloc (.cells #[u] 9)).ownsRow w.heap.size 9 1 (.slice (some ⟨w.heap.size, 0, none⟩) 1 1) 1 [u] :=
    ⟨rfl, .inr ⟨w.heap.size, 1, #[u], rfl, Nat.le_refl _, heap_alloc_new w _, by omega, by decide, rfl, rfl⟩⟩
  intro j v hj
  have hl : j < 1 := by
    have := (List.getElem?_eq_some_iff.1 hj).1
    simpa using this
  rw [Addr.add_lit, Nat.zero_add, ho.cellAt j (by omega)]
  exact hj
theorem own_below {w w' : World} {B e g n cap : Nat} {xs : List Value} (h : w.ownsRow B e 1 (.slice (some ⟨g, 0, none⟩) n cap) n xs) (hb : Below w.heap.size w w') : w'.ownsRow B e 1 (.slice (some ⟨g, 0, none⟩) n cap) n xs := by
  have hl := fls.own_lt h
  refine ⟨h.1, ?_⟩
  rcases h.2 with ⟨h', _⟩ | ⟨g', cap', cur, h', hB, hg, r⟩
  · simp at h'
  · have h2 := h'
    simp only [Value.slice.injEq, Option.some.injEq, Addr.mk.injEq, and_true] at h2
    obtain ⟨rfl, _⟩ := h2
    exact .inr ⟨g, cap', cur, h', hB, by rw [hb.block g hl]; exact hg, r⟩

set_option maxRecDepth 100000 in
set_option maxHeartbeats 1600000 in
theorem items_any {v : Value} {n : Nat} {f : Nat → Nat} {w : World} (h : Fls w v n f) (hf : ∀ k, k < n → (f k : Int) ≤ 4294967295) :
    Calls Try.prog 106 #[v, .int .i64 256, .func (.func 107) #[] #[]] w fun e w' => Ans n f e ∧ Below w.heap.size w w' := by
  obtain ⟨ao, cap, rfl, hn, hc⟩ := h
  obtain ⟨i0, hi, hz0, hz1, hz2⟩ := info_parts info_s
  have HR : Hid (∀ k, k < n → (f k : Int) ≤ 4294967295) := hf
  clear hf
  by_cases h64 : 256 < n
  · have HA : Hid (Ans n f (.returned (.tuple #[.string ⟨#[]⟩, .bool false]))) := by show _ = _; unfold ans; rw [if_neg (by omega), decide_eq_false (by omega)]
    clear hc hi hz0 hz1 hz2
    go_enter Try.func106, Try.ntmps106
    go_wp2
    go_ret2
    exact ⟨HA.out, Below.refl _ _⟩
  by_cases h0 : n = 0
  · subst h0
    have HA : Hid (Ans 0 f (.returned (.tuple #[.string ⟨#[110, 111, 110, 101]⟩, .bool true]))) := rfl
    clear hc hi hz0 hz1 hz2
    go_enter Try.func106, Try.ntmps106
    go_wp2
    go_ret2
    exact ⟨HA.out, Below.refl _ _⟩
  obtain ⟨b, off, rfl, hbw, hcell⟩ := hc h0
  have HC : Hid (∀ k, k < n → w.cell? ⟨b, off + k, none⟩ = some (.float .f32 (f k))) := hcell
  have HBW : Hid (b < w.heap.size) := hbw
  have h64' : n ≤ 256 := by omega
  have hn0 : 0 < n := by omega
  have hb0 : ((n : Int) == 0) = false := by rw [beq_eq_false_iff_ne]; omega
  have hml : n ≤ maxLen := by unfold maxLen; omega
  clear hc hcell hbw h64 h0
  obtain ⟨B, hB⟩ : ∃ B, B = w.heap.size := ⟨_, rfl⟩
  go_enter Try.func106, Try.ntmps106
  go_wp2_with (first | (refine wpList_make_own _ rfl (.const (.int .i64 0)) (.tmp 21) 147 rfl w.heap.size 9 i0 (.string ⟨#[]⟩) 1 Try.underlying147 hi hz0 hz1 .i64 .i64 _ n rfl rfl rfl (by rw [hz2]; omega) hml (Nat.le_refl _) ?_; intro w1 hown hgrow))
  rw [← hB] at hown
  rw [← hB]
  have hbel : Below B w w1 := (Below.refl B w).grown hgrow (by omega) (by intro k hk; cases hk)
  have HE : Hid (B = w.heap.size) := hB
  clear hgrow hB
  go_loopw [8, 25] (fun v i wr => ∃ (k : Nat), k ≤ n ∧ v = .slice (some ⟨B, 0, none⟩) k n ∧ i = .int .i64 k ∧ Hid (wr.ownsRow B 9 1 (.slice (some ⟨B, 0, none⟩) k n) k ((items (gx f) k).map Value.string)) ∧ Hid (Below B w wr)) (fun _ i _ => n - (RowKit.intOf i).toNat)
  case atStart => exact ⟨0, by omega, rfl, rfl, hown, hbel⟩
  case round =>
    obtain ⟨k, hk, rfl, rfl, ho, hb⟩ := hrel
    by_cases hlt : k < n
    · have e1 : wr.cell? ⟨b, off + k, none⟩ = some (.float .f32 (f k)) := (hb.out.cell (by have := HE.out; have := HBW.out; show b < B; omega)).trans (HC.out k hlt)
      have hcall := hex.impl_any (f k) (HR.out k hlt) wr
      have his : Hid ((items (gx f) k).map Value.string ++ [.string ⟨(hx (f k)).toArray⟩] = (items (gx f) (k + 1)).map Value.string) := by show _ = _; rw [items_succ, List.map_append]; rfl
      generalize hx (f k) = t at hcall his
      generalize f k = z at e1 hcall
      go_wp2_with fail
      refine hcall.mono ?_
      rintro e w2 ⟨rfl, b2⟩
      have hS : B < wr.heap.size := fls.own_lt ho.out
      have HO : Hid (w2.ownsRow B 9 1 (.slice (some ⟨B, 0, none⟩) k n) k ((items (gx f) k).map Value.string)) := own_below ho.out b2
      have B2 : Hid (Below B w w2) := hb.out.trans (b2.mono (by omega))
      have HS : Hid (B < w2.heap.size) := fls.own_lt HO.out
      clear b2 hcall hb ho hS e1
      go_wp2_with (first | (at_builtin; refine wpList_append_fits _ rfl (.tmp 37) (.tmp 39) 147 rfl B 9 i0 1 Try.underlying147 hi hz1 B k n ((items (gx f) k).map Value.string) rfl (HO.out.alloc _) ⟨w2.heap.size, 0, none⟩ 1 1 [.string ⟨t.toArray⟩] rfl rfl (one_new w2 _) (by intro u hu; rw [List.mem_singleton] at hu; subst hu; rfl) (by omega) ?_; intro w3 hown' hgrow))
      have HO2 : Hid (w3.ownsRow B 9 1 (.slice (some ⟨B, 0, none⟩) (k + 1) n) (k + 1) ((items (gx f) (k + 1)).map Value.string)) := by show World.ownsRow _ _ _ _ _ _ _; rw [← his.out]; exact hown'
      have HB3 : Hid (Below B w w3) := (B2.out.alloc (Nat.le_of_lt HS.out) _).grown hgrow (by have := HS.out; simp; omega) (by intro j hj; injection hj with hj; omega)
      clear hown' hgrow
      go_roundw
      case rel => exact ⟨k + 1, by omega, rfl, by go_num, HO2, HB3⟩
      case measure => simp [RowKit.intOf]; omega
    · obtain rfl : k = n := by omega
      obtain ⟨m, rfl⟩ : ∃ m, k = m + 1 := ⟨k - 1, by omega⟩
      have HA : Hid (Ans (m + 1) f (.returned (.tuple #[.string ⟨(tx (gx f) m).toArray⟩, .bool true]))) := by
        show _ = _
        unfold ans text
        rw [if_pos h64', if_neg (by omega), decide_eq_true h64']
        rfl
      have hS : B < wr.heap.size := fls.own_lt ho.out
      have hl := tx_len (gx f) (gx_len f) m
      have cJ : Calls Try.prog 137 #[.slice (some ⟨B, 0, none⟩) (items (gx f) (m + 1)).length (m + 1), .string ⟨#[44]⟩] wr fun e w' => e = .returned (.string ⟨(Lib.join ((items (gx f) (m + 1)).map (·.data.toList)) [44]).toArray⟩) ∧ Below wr.heap.size wr w' :=
        Any.strings_Join Try.lays156 extra B 0 (m + 1) (items (gx f) (m + 1)) ⟨#[44]⟩ wr (fun j x hj => by
          rw [Nat.zero_add, ho.out.cellAt j (by have := (List.getElem?_eq_some_iff.1 hj).1; rw [items_length] at this; omega), List.getElem?_map, hj]
          rfl) hS (by rw [items_length]; omega) (by rw [items_length]; omega) (by
          show (Lib.join ((items (gx f) (m + 1)).map (·.data.toList)) [44]).length ≤ _
          rw [join_items]; omega)
      rw [items_length, join_items] at cJ
      have HB : Hid (Below B w wr) := hb.out
      have HS : Hid (B ≤ wr.heap.size) := Nat.le_of_lt hS
      clear hl hS ho hb
      generalize tx (gx f) m = t at *
      go_wp2_with fail
      refine cJ.mono ?_
      rintro e w2 ⟨rfl, b2⟩
      have B2 : Hid (Below B w w2) := HB.out.trans (b2.mono HS.out)
      clear b2 cJ
      go_wp2_with fail
      go_ret2
      exact ⟨HA.out, by rw [← HE.out]; exact B2.out⟩

theorem impl_any {v : Value} {n : Nat} {f : Nat → Nat} {w : World} (h : Fls w v n f) (hf : ∀ k, k < n → (f k : Int) ≤ 4294967295) :
    Calls Try.prog 56 #[v] w fun e w' => Ans n f e ∧ Below w.heap.size w w' := by
  have hi := items_any h hf
  have HX : Hid (∀ e, Ans n f e → e = .returned (.tuple #[.string (ans n (gx f)), .bool (decide (n ≤ 256))])) := fun e h => h
  clear h hf
  go_enter Try.func56, Try.ntmps56
  go_wp2_with fail
  refine hi.mono ?_
  rintro e w' ⟨ha, hb⟩
  obtain rfl := HX.out e ha
  have HB : Hid (Below w.heap.size w w') := hb
  have HA : Hid (Ans n f (.returned (.tuple #[.string (ans n (gx f)), .bool (decide (n ≤ 256))]))) := ha
  clear ha hb hi HX
  generalize decide (n ≤ 256) = g at *
  go_wp2_with fail
  go_ret2
  exact ⟨HA.out, HB.out⟩
end Go.Proofs.Ytclogbnecgfndaa.nt
namespace Go.Proofs.Ytclogbnecgfndaa.fnExactNumbersTextW
open Go.RowKit Go.Nt Go.Proofs.Ytclogbnecgfndaa.fls Go.Proofs.Ytclogbnecgfndaa.nt

theorem walk (v : Value) (w : World) (h : ∃ n f, Fls w v n f ∧ ∀ k, k < n → (f k : Int) ≤ 4294967295) :
    Calls Try.prog 8 #[v] w fun e w' => e = .returned (.bool true) ∧ Below w.heap.size w w' := by
  obtain ⟨n, f, h, hf⟩ := h
  obtain ⟨ao, cap, rfl, hn, _⟩ := id h
  have HF : Hid (∀ k, k < n → (f k : Int) ≤ 4294967295) := hf
  clear hf
  by_cases hlen : n ≤ 1048576
  · have H0 : Hid (Fls w (.slice ao n cap) n f) := h
    clear h
    go_enter Try.func8, Try.ntmps8
    go_wp2_with fail
    refine (to_any H0.out hlen).mono ?_
    rintro e w1 ⟨v1, rfl, h1, b1⟩
    have H1 : Hid (Fls w1 v1 n f) := h1
    have B1 : Hid (Below w.heap.size w w1) := b1
    have H01 : Hid (Fls w1 (.slice ao n cap) n f) := H0.out.below b1
    clear h1 b1
    go_wp2_with fail
    refine (nt.spec_any H1.out HF.out).mono ?_
    rintro e w2 ⟨ha, b2⟩
    have HX : Hid (∀ e, Ans n f e → e = .returned (.tuple #[.string (ans n (gx f)), .bool (decide (n ≤ 256))])) := fun e h => h
    obtain rfl := HX.out e ha
    have H02 : Hid (Fls w2 (.slice ao n cap) n f) := H01.out.below b2
    have B2 : Hid (Below w.heap.size w w2) := B1.out.trans (b2.mono B1.out.size)
    clear H01 B1 b2 ha H1
    go_wp2_with fail
    refine (to_any H02.out hlen).mono ?_
    rintro e w3 ⟨v3, rfl, h3, b3⟩
    have H3 : Hid (Fls w3 v3 n f) := h3
    have B3 : Hid (Below w.heap.size w w3) := B2.out.trans (b3.mono B2.out.size)
    have H03 : Hid (Fls w3 (.slice ao n cap) n f) := H02.out.below b3
    clear h3 b3 B2 H02
    go_wp2_with fail
    refine (nt.impl_any H3.out HF.out).mono ?_
    rintro e w4 ⟨ha, b4⟩
    obtain rfl := HX.out e ha
    have H04 : Hid (Fls w4 (.slice ao n cap) n f) := H03.out.below b4
    have H34 : Hid (Fls w4 v3 n f) := H3.out.below b4
    have B4 : Hid (Below w.heap.size w w4) := B3.out.trans (b4.mono B3.out.size)
    clear H03 H3 B3 b4 ha HX
    generalize ans n (gx f) = s at *
    generalize decide (n ≤ 256) = g at *
    go_wp2_with fail
    refine (to_any H04.out hlen).mono ?_
    rintro e w5 ⟨v5, rfl, h5, b5⟩
    have H5 : Hid (Fls w5 v5 n f) := h5
    have H35 : Hid (Fls w5 v3 n f) := H34.out.below b5
    have B5 : Hid (Below w.heap.size w w5) := B4.out.trans (b5.mono B4.out.size)
    clear h5 b5 H34 H04 B4
    go_wp2_with fail
    refine (eq_any H35.out H5.out).mono ?_
    rintro e w' ⟨rfl, q5, rfl⟩
    go_wp2_with fail
    go_ret
    exact ⟨rfl, Go.Pst.below_drewN B5.out _⟩
  · clear h
    go_enter Try.func8, Try.ntmps8
    go_wp2
    go_ret
    exact ⟨rfl, Below.refl _ _⟩
end Go.Proofs.Ytclogbnecgfndaa.fnExactNumbersTextW
