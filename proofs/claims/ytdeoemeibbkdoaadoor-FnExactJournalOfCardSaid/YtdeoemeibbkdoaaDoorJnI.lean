/- JournalOf: what the program answers. -/
import Derived.Test.YtdeoemeibbkdoaaDoorJnP
import Derived.Test.YtdeoemeibbkdoaaDoorDecI
import Derived.Test.YtdeoemeibbkdoaaDoorJShelf
import Derived.Test.YtdeoemeibbkdoaaDoorBShelf
import Derived.Shelf.Strings.OnBuilder
import Derived.Shelf.Strings.Search3
import Derived.Deep.RegionHeld3
namespace Go.Proofs.YtdeoemeibbkdoaaDoor.jn
open Go.RowKit Go.Lib Go.Proofs.YtdeoemeibbkdoaaDoor.fnExactCheckOfW Go.Proofs.YtdeoemeibbkdoaaDoor.sls Go.Proofs.YtdeoemeibbkdoaaDoor.dec Go.Shelf

theorem extra : Builder.Extra Tryd.prog Tryd.lays156_ren where
  sizeBuilder := by kernel_rfl
  liesBuilder := by kernel_rfl
  t5 := Tryd.underlying5
  a5 := Tryd.isAgg5
  z5 := Tryd.sizeOf5
  v5 := Tryd.zeroValue5
  infoByte := by kernel_rfl
  cellsByte := by kernel_rfl
  sizeByte := by kernel_rfl
  neB5 := by decide

theorem row_kept {w w' : World} {B e n : Nat} {v : Value} {xs : List Value} (h : w.ownsRow B e 1 v n xs) (hb : Below w.heap.size w w') : w'.ownsRow B e 1 v n xs := by
  refine ⟨h.1, ?_⟩
  rcases h.2 with h' | ⟨g', cap', cur, h', hB, hg, r⟩
  · exact .inl h'
  · exact .inr ⟨g', cap', cur, h', hB, by rw [hb.block g' (Array.getElem?_eq_some_iff.1 hg).1]; exact hg, r⟩
theorem at_kept {T e : TypeId} {B b : Nat} {p : Value} {bs : List Value} {w w' : World} (h : BuilderAt T e B b p bs w) (hb : Below w.heap.size w w') : BuilderAt T e B b p bs w' := by
  obtain ⟨hB, v, hv, ho, hn⟩ := h
  exact ⟨hB, v, by rw [hb.block b (Array.getElem?_eq_some_iff.1 hv).1]; exact hv, row_kept ho hb, hn⟩
theorem is_kept {T e : TypeId} {B b : Nat} {bs : List Value} {w w' : World} (h : IsBuilder T e B b bs w) (hb : Below w.heap.size w w') : IsBuilder T e B b bs w' :=
  h.elim (fun h => .inl (at_kept h hb)) (fun h => .inr (at_kept h hb))

theorem idx_low : ∀ l : List UInt8, -1 ≤ Lib.indexByte l 10 ∧ (l.all fun c => c != 10) = decide (Lib.indexByte l 10 < 0)
  | [] => by simp [Lib.indexByte]
  | c :: r => by
    obtain ⟨h1, h2⟩ := idx_low r
    by_cases hc : c = 10
    · subst hc; simp [Lib.indexByte]
    · have hc' : (c != 10) = true := by simpa using hc
      rw [List.all_cons, hc', Bool.true_and, h2]
      by_cases hi : Lib.indexByte r 10 < 0
      · have : Lib.indexByte r 10 = -1 := by omega
        simp [Lib.indexByte, hc, this]
      · have h3 : Lib.indexByte r 10 ≠ -1 := by omega
        simp only [Lib.indexByte]
        constructor
        · split <;> first | omega | (split <;> omega)
        · congr 1
          split <;> first | (simp_all; done) | (split <;> simp_all <;> omega) | (simp_all; omega)
theorem ent_cat (c : Int) (s : ByteArray) : ((⟨(itoa (chk c s.data.toList)).toArray⟩ : ByteArray) ++ ⟨#[32]⟩ ++ s) ++ ⟨#[10]⟩ = ⟨(ent c s).toArray⟩ := by
  apply ByteArray.ext
  simp [ent, ByteArray.data_append]

set_option maxRecDepth 100000 in
set_option maxHeartbeats 1600000 in
theorem line_any (s : ByteArray) (c : Int) (h0 : 0 ≤ c) (h1 : c ≤ 65002) (hs : s.size ≤ 1048576) (w : World) (ht : TabOk w) :
    Calls Tryd.prog 44 #[.string s, .int .i64 c] w fun e w' => e = .returned (.tuple #[.string ⟨(ent c s).toArray⟩, .int .i64 (chk c s.data.toList)]) ∧ Below w.heap.size w w' := by
  have hbd := chk_bd s.data.toList c h0 h1
  have hc := impl_in c s h0 h1 hs w
  have hil := (Go.Rd.itoa_len (chk c s.data.toList) (by omega) (by omega)).2
  have hd := fun w' (h : TabOk w') => dec.impl_any (chk c s.data.toList) (by omega) (by omega) w' h
  have hcat := ent_cat c s
  have HT : Hid (TabOk w) := ht
  clear ht hbd
  generalize chk c s.data.toList = C at *
  generalize ent c s = E at *
  generalize itoa C = t at *
  go_enter Tryd.func44, Tryd.ntmps44
  go_wp2_with fail
  refine hc.mono ?_
  rintro e w0 ⟨rfl, hw0⟩
  rw [← hw0]
  clear hw0 hc
  go_wp2_with fail
  refine (hd _ HT.out).mono ?_
  rintro e w1 ⟨rfl, b1⟩
  have B1 : Hid (Below w.heap.size w w1) := b1
  clear hd b1
  have hsz : (⟨t.toArray⟩ : ByteArray).size = t.length := by simp [ByteArray.size]
  go_wp2_with fail
  go_ret2
  exact ⟨rfl, B1.out⟩
set_option maxRecDepth 100000 in
set_option maxHeartbeats 1600000 in
theorem impl_any {v : Value} {n : Nat} {f : Nat → ByteArray} {w : World} (h : Sls w v n f) (hz : ∀ k, k < n → (f k).size ≤ 1048576) (ht : TabOk w) :
    Calls Tryd.prog 22 #[v] w fun e w' => e = .returned (.tuple #[.string (z n f), .bool (okb n f)]) ∧ Below w.heap.size w w' := by
  obtain ⟨ao, cap, rfl, hn, hc⟩ := h
  have HC : Hid (n ≠ 0 → ∃ b off, ao = some ⟨b, off, none⟩ ∧ b < w.heap.size ∧ ∀ k, k < n → w.cell? ⟨b, off + k, none⟩ = some (.string (f k))) := hc
  have HZ : Hid (∀ k, k < n → (f k).size ≤ 1048576) := hz
  have HT : Hid (TabOk w) := ht
  clear hc hz ht
  go_enter Tryd.func22, Tryd.ntmps22
  go_wp2_with fail
  have hB0 : Hid (IsBuilder 65 5 w.heap.size w.heap.size (byteCells (jr f 0)) (w.alloc (.cells #[.pointer none, .slice none 0 0] 65))) := fresh_isBuilder _ _ w
  have hW0 : Hid (Below w.heap.size w (w.alloc (.cells #[.pointer none, .slice none 0 0] 65))) := (Below.refl _ _).alloc (Nat.le_refl _) _
  have HSZ : Hid (w.heap.size < (w.alloc (.cells #[.pointer none, .slice none 0 0] 65)).heap.size) := by show _ < _; simp
  go_loopw [5, 11] (fun c i wr => ∃ k : Nat, k ≤ n ∧ c = .int .i64 (cks f k) ∧ i = .int .i64 k ∧ Hid (IsBuilder 65 5 w.heap.size w.heap.size (byteCells (jr f k)) wr) ∧ Hid (∀ j, j < k → one (f j) = true) ∧ Hid ((jr f k).length ≤ 16000) ∧ Hid (Below w.heap.size w wr)) (fun _ i _ => n - (RowKit.intOf i).toNat)
  case atStart => exact ⟨0, by omega, rfl, rfl, hB0, fun j hj => by omega, by show _ ≤ _; simp [jr], hW0⟩
  case round =>
    obtain ⟨k, hk, rfl, rfl, hB, hone, hlen, hb⟩ := hrel
    clear hB0 hW0 HSZ
    have hws : Hid (w.heap.size ≤ wr.heap.size) := hb.out.size
    by_cases hlt : k < n
    · obtain ⟨b, off, rfl, hbw, hcell⟩ := HC.out (by omega)
      have e1 : wr.cell? ⟨b, off + k, none⟩ = some (.string (f k)) := (hb.out.cell hbw).trans (hcell k hlt)
      have hsz := HZ.out k hlt
      have hbd := cks_bd f k
      have hcont : Calls Tryd.prog 43 #[.string (f k), .string ⟨#[10]⟩] wr fun e w' => e = .returned (.bool (decide (0 ≤ Lib.indexByte (f k).data.toList 10))) ∧ w' = wr := Any.strings_Contains_one Tryd.lays144 (f k) 10 wr
      have hline := fun w' (h : TabOk w') => line_any (f k) (cks f k) hbd.1 hbd.2 hsz w' h
      have hTr : Hid (TabOk wr) := tab_below HT.out hb.out
      have hck : Hid (cks f (k + 1) = chk (cks f k) (f k).data.toList) := rfl
      have hjr : Hid (jr f (k + 1) = jr f k ++ ent (cks f k) (f k)) := rfl
      have hel := (ent_len f k).2
      have HNL : Hid (one (f k) = false → z n f = ⟨#[]⟩ ∧ okb n f = false) := no_line hlt
      have HLG : Hid (16000 < (jr f (k + 1)).length → z n f = ⟨#[]⟩ ∧ okb n f = false) := no_long (by omega)
      have HIX : Hid (one (f k) = decide (Lib.indexByte (f k).data.toList 10 < 0)) := (idx_low (f k).data.toList).2
      rw [← hck.out] at hline
      rw [hjr.out] at HLG
      have HJ : Hid (byteCells (jr f (k + 1)) = byteCells (jr f k) ++ strCells ⟨(ent (cks f k) (f k)).toArray⟩) := by show _ = _; rw [hjr.out]; simp [byteCells, strCells]
      clear hcell hck hbd
      generalize hfk : f k = s at *
      generalize ent (cks f k) s = E at *
      generalize Lib.indexByte s.data.toList 10 = ix at *
      cases ho : one s with
      | false =>
        have HAA : Hid (z n f = ⟨#[]⟩ ∧ okb n f = false) := HNL.out ho
        have hix : 0 ≤ ix := by have := HIX.out; rw [ho] at this; exact Int.not_lt.1 (of_decide_eq_false this.symm)
        clear HNL HLG HIX hB hone hlen hline ho HJ
        go_wp2_with fail
        refine hcont.mono ?_
        rintro e w0 ⟨rfl, hw0⟩
        rw [hw0]
        clear hw0 hcont
        go_wp2_with fail
        go_ret2
        exact ⟨by rw [HAA.out.1, HAA.out.2]; rfl, hb.out⟩
      | true =>
        have hix : ¬ 0 ≤ ix := by have := HIX.out; rw [ho] at this; exact Int.not_le.2 (of_decide_eq_true this.symm)
        have HONE : Hid (∀ j, j < k + 1 → one (f j) = true) := fun j hj => by
          by_cases e : j = k
          · subst e; rw [hfk]; exact ho
          · exact hone.out j (by omega)
        clear HNL HIX hone ho
        go_wp2_with fail
        refine hcont.mono ?_
        rintro e w0 ⟨rfl, hw0⟩
        rw [hw0]
        clear hw0 hcont
        go_wp2_with fail
        refine (hline _ hTr.out).mono ?_
        rintro e w1 ⟨rfl, b1⟩
        have B1 : Hid (Below w.heap.size w w1) := hb.out.trans (b1.mono hws.out)
        have hB1 := is_kept hB.out b1
        have hS1 : Hid (w.heap.size ≤ w1.heap.size) := B1.out.size
        have hE : (⟨E.toArray⟩ : ByteArray).size = E.length := by simp [ByteArray.size]
        have hwr : Calls Tryd.prog 45 #[.pointer (some ⟨w.heap.size, 0, none⟩), .string ⟨E.toArray⟩] w1 fun e w' => e = .returned (.tuple #[.int .i64 (⟨E.toArray⟩ : ByteArray).size, .nilIface]) ∧ (BuilderAt 65 5 w.heap.size w.heap.size (.pointer (some ⟨w.heap.size, 0, none⟩)) (byteCells (jr f k) ++ strCells ⟨E.toArray⟩) w' ∧ Below w.heap.size w1 w') :=
          Any.Builder_WriteString { Tryd.lays156 with } extra w.heap.size w.heap.size (byteCells (jr f k)) ⟨E.toArray⟩ w1 hB1 (by rw [byteCells_length, hE]; have := hlen.out; omega) hS1.out
        rw [← HJ.out] at hwr
        clear hline hB b1 hb hTr hB1 HJ hE
        go_wp2_with fail
        refine hwr.mono ?_
        rintro e w2 ⟨rfl, hA2, b2⟩
        have B2 : Hid (Below w.heap.size w w2) := B1.out.trans b2
        have HI2 : Hid (IsBuilder 65 5 w.heap.size w.heap.size (byteCells (jr f (k + 1))) w2) := .inr hA2
        have hln : Calls Tryd.prog 46 #[.pointer (some ⟨w.heap.size, 0, none⟩)] w2 fun e w' => e = .returned (.int .i64 (byteCells (jr f (k + 1))).length) ∧ w' = w2 :=
          Any.Builder_Len Tryd.lays170 w.heap.size w.heap.size _ w2 HI2.out
        rw [byteCells_length] at hln
        have HX : Hid ((jr f (k + 1)).length = (jr f k ++ E).length) := by show _ = _; rw [hjr.out]
        rw [← HX.out] at HLG
        clear hA2 b2 hwr B1 hS1
        obtain ⟨q, hq⟩ : ∃ q, q = (jr f (k + 1)).length := ⟨_, rfl⟩
        rw [← hq] at hln HLG
        have HQ : Hid (q = (jr f (k + 1)).length) := hq
        clear hq
        go_wp2_with fail
        refine hln.mono ?_
        rintro e w0 ⟨rfl, hw0⟩
        rw [hw0]
        clear hw0 hln
        by_cases h16 : 16000 < q
        · have HAA : Hid (z n f = ⟨#[]⟩ ∧ okb n f = false) := HLG.out h16
          clear HLG
          go_wp2_with fail
          go_ret2
          exact ⟨by rw [HAA.out.1, HAA.out.2]; rfl, B2.out⟩
        · have hql : Hid ((jr f (k + 1)).length ≤ 16000) := by show _ ≤ _; rw [← HQ.out]; omega
          have h16' : ¬ (16000 : Int) < (q : Int) := by omega
          have HCK : Hid (chk (cks f k) s.data.toList = cks f (k + 1)) := by show _ = cks f (k + 1); rw [← hfk]; rfl
          clear HLG
          go_wp2_with fail
          go_roundw
          case rel => exact ⟨k + 1, by omega, rfl, by go_num, HI2, HONE, hql, B2⟩
          case measure => simp [RowKit.intOf]; omega
    · obtain rfl : k = n := by omega
      have hY := yes hone.out hlen.out
      have HY : Hid (z k f = ⟨(jr f k).toArray⟩ ∧ okb k f = true) := hY
      have hst : Calls Tryd.prog 47 #[.pointer (some ⟨w.heap.size, 0, none⟩)] wr fun e w' => e = .returned (.string ⟨(jr f k).toArray⟩) ∧ Below w.heap.size wr w' :=
        Any.Builder_String_any { Tryd.lays156 with } extra w.heap.size w.heap.size _ wr hB.out hws.out
      clear hY hB hone
      generalize jr f k = J at *
      go_wp2_with fail
      refine hst.mono ?_
      rintro e w2 ⟨rfl, b2⟩
      have HB : Hid (Below w.heap.size w w2) := hb.out.trans b2
      clear b2 hb hst
      go_wp2_with fail
      go_ret2
      exact ⟨by rw [HY.out.1, HY.out.2]; rfl, HB.out⟩
end Go.Proofs.YtdeoemeibbkdoaaDoor.jn
