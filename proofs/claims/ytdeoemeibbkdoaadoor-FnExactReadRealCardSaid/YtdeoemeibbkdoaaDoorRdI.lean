/- ReadDecimal: the number whose text it is, if there is one that is not too great: by the library's contracts. -/
import Derived.Test.YtdeoemeibbkdoaaDoorRdW
import Derived.Test.YtdeoemeibbkdoaaDoorDecI
import Derived.Test.YtdeoemeibbkdoaaDoorPShelf
import Derived.Shelf.Strconv.ErrVarParseInt
import Derived.Lib.SmallJoins
namespace Go.Proofs.YtdeoemeibbkdoaaDoor.rd
open Go.RowKit Go.Lib Go.Rd Go.Proofs.YtdeoemeibbkdoaaDoor.dec Go.Shelf

def SentIs (w : World) (n : String) : Prop := ∃ tp p, w.var? Tryd.prog n = some #[.iface tp p]
/-- what the row lays -/
def LaidOk (w : World) : Prop := TabOk w ∧ SentIs w "strconv.ErrSyntax" ∧ SentIs w "strconv.ErrRange"

theorem sent_below {n : String} {w w' : World} (h : SentIs w n) (hb : Below w.heap.size w w') : SentIs w' n := by
  obtain ⟨tp, p, h⟩ := h
  refine ⟨tp, p, ?_⟩
  unfold World.var? at *
  cases hg : Tryd.prog.globalNamed n with
  | none => rw [hg] at h; cases h
  | some g =>
    rw [hg] at h
    simp only [Option.bind_some] at h ⊢
    have hlt : g < w.heap.size := by
      rcases Nat.lt_or_ge g w.heap.size with h' | h'
      · exact h'
      · rw [Array.getElem?_eq_none h'] at h; cases h
    rw [hb.block g hlt]
    exact h
theorem laid_below {w w' : World} (h : LaidOk w) (hb : Below w.heap.size w w') : LaidOk w' := ⟨tab_below h.1 hb, sent_below h.2.1 hb, sent_below h.2.2 hb⟩

/-- a parse that fails -/
def PBad (e : Ending) : Prop := ∃ v t N, e = .returned (.tuple #[.int .i64 v, .iface t (.pointer (some ⟨N, 0, none⟩))])

theorem parse_ok (s : ByteArray) (hs : s.size ≤ 1048576) (v : Int) (h : parseIntB 64 s.data.toList = .ok v) (w : World) :
    Calls Tryd.prog 80 #[.string s, .int .i64 10, .int .i64 64] w fun e w' => e = .returned (.tuple #[.int .i64 v, .nilIface]) ∧ Below w.heap.size w w' := by
  have hc : Calls Tryd.prog 80 #[.string s, .int .i64 10, .int .i64 64] w fun e w' => e = .returned (.tuple #[.int .i64 v, .nilIface]) ∧ (w' = w ∨ ∃ t, w' = Lib.bytesWorld w (Tryd.lays174_ren.t 5) t) :=
    Any.strconv_ParseInt_10_at64_ok Tryd.lays174 s (by omega) v h w
  refine hc.mono ?_
  rintro e w' ⟨rfl, h | ⟨t, h⟩⟩
  · subst h
    exact ⟨rfl, Below.refl _ _⟩
  · subst h
    exact ⟨rfl, Joins.below_bytesWorld _ _ _ _ (Nat.le_refl _)⟩

theorem parse_bad (s : ByteArray) (hs : s.size ≤ 1048576) (h : ∀ v, parseIntB 64 s.data.toList ≠ .ok v) (w : World) (hl : LaidOk w) :
    Calls Tryd.prog 80 #[.string s, .int .i64 10, .int .i64 64] w fun e w' => PBad e ∧ Below w.heap.size w w' := by
  obtain ⟨_, ⟨tp, p, h1⟩, ⟨tq, q, h2⟩⟩ := hl
  cases hp : parseIntB 64 s.data.toList
  case ok v => exact absurd hp (h v)
  case range =>
    have hc := Any.strconv_ParseInt_10_at64_range_var Tryd.lays174 s (by omega) hp tq q w h2
    refine hc.mono ?_
    rintro e w' ⟨N, rfl, _, _, hb⟩
    exact ⟨⟨_, _, _, rfl⟩, hb⟩
  have hc := Any.strconv_ParseInt_10_at64_syntax_var Tryd.lays174 s (by omega) hp tp p w h1
  refine hc.mono ?_
  rintro e w' ⟨N, rfl, _, _, hb⟩
  exact ⟨⟨_, _, _, rfl⟩, hb⟩


theorem val_yes (n : Int) (h0 : -1000000000000000 ≤ n) (h1 : n ≤ 1000000000000000) (w : World) : Calls Tryd.prog 77 #[.int .i64 n] w fun e w' => e = .returned (.bool true) ∧ w' = w := by
  go_enter Tryd.func77, Tryd.ntmps77
  go_wp2
  go_ret
  exact ⟨by simp [*], rfl⟩
theorem val_no (n : Int) (h : n < -1000000000000000 ∨ 1000000000000000 < n) (w : World) : Calls Tryd.prog 77 #[.int .i64 n] w fun e w' => e = .returned (.bool false) ∧ w' = w := by
  by_cases h0 : n < -1000000000000000
  · go_enter Tryd.func77, Tryd.ntmps77
    go_wp2
    go_ret
    exact ⟨by simp [*] <;> omega, rfl⟩
  · have h1 : 1000000000000000 < n := by omega
    have h2 : -1000000000000000 ≤ n := by omega
    clear h h0
    go_enter Tryd.func77, Tryd.ntmps77
    go_wp2
    go_ret
    exact ⟨by simp [*] <;> omega, rfl⟩

theorem out_bad (s : ByteArray) (h : ∀ v, parseIntB 64 s.data.toList ≠ .ok v) : Out s.data.toList 0 false :=
  .inr ⟨rfl, rfl, fun z h0 h1 e => h z (by rw [← e]; exact parse_itoa z (by omega) (by omega))⟩
theorem only (s : ByteArray) (v : Int) (h : parseIntB 64 s.data.toList = .ok v) (z : Int) (h0 : -1000000000000000 ≤ z) (h1 : z ≤ 1000000000000000) (e : itoa z = s.data.toList) : z = v := by
  rw [← e, parse_itoa z (by omega) (by omega)] at h
  injection h
theorem out_far2 (s : ByteArray) (v : Int) (h : parseIntB 64 s.data.toList = .ok v) (hf : v < -1000000000000000 ∨ 1000000000000000 < v) : Out s.data.toList 0 false :=
  .inr ⟨rfl, rfl, fun z h0 h1 e => by have := only s v h z h0 h1 e; omega⟩
theorem out_no2 (s : ByteArray) (v : Int) (h : parseIntB 64 s.data.toList = .ok v) (he : ¬ (⟨(itoa v).toArray⟩ : ByteArray) = s) : Out s.data.toList 0 false :=
  .inr ⟨rfl, rfl, fun z h0 h1 e => he (by have := only s v h z h0 h1 e; subst this; rw [e])⟩

theorem impl_any (s : ByteArray) (hs : s.size ≤ 1048576) (w : World) (hl : LaidOk w) :
    Calls Tryd.prog 62 #[.string s] w fun e w' => Ans s e ∧ Below w.heap.size w w' := by
  by_cases hx : ∃ v, parseIntB 64 s.data.toList = .ok v
  · obtain ⟨v, hv⟩ := hx
    have hbd := parseIntB_bounds hv
    have hb0 : -9223372036854775808 ≤ v := by have e : ((2 ^ (64 - 1) : Nat) : Int) = 9223372036854775808 := by decide
                                              omega
    have hb1 : v ≤ 9223372036854775807 := by have e : ((2 ^ (64 - 1) : Nat) : Int) = 9223372036854775808 := by decide
                                             omega
    clear hbd
    have HL : Hid (LaidOk w) := hl
    clear hl
    have hP := parse_ok s hs v hv w
    have key : ((v < -1000000000000000 ∨ 1000000000000000 < v) ∧ Hid (Out s.data.toList 0 false)) ∨ (-1000000000000000 ≤ v ∧ v ≤ 1000000000000000 ∧ (itoa v == s.toList) = true ∧ Hid (Out s.data.toList v true)) ∨ (-1000000000000000 ≤ v ∧ v ≤ 1000000000000000 ∧ (itoa v == s.toList) = false ∧ Hid (Out s.data.toList 0 false)) := by
      by_cases hfar : v < -1000000000000000 ∨ 1000000000000000 < v
      · exact .inl ⟨hfar, out_far2 s v hv hfar⟩
      · by_cases he : (⟨(itoa v).toArray⟩ : ByteArray) = s
        · exact .inr (.inl ⟨by omega, by omega, tl_yes s v he, out_yes s v (by omega) (by omega) he⟩)
        · exact .inr (.inr ⟨by omega, by omega, tl_no s v he, out_no2 s v hv he⟩)
    clear hv
    rcases key with ⟨hfar, HO⟩ | ⟨hlo, hup, hB, HO⟩ | ⟨hlo, hup, hB, HO⟩
    · go_enter Tryd.func62, Tryd.ntmps62
      go_wp2_with fail
      refine hP.mono ?_
      rintro e w1 ⟨rfl, b1⟩
      have B1 : Hid (Below w.heap.size w w1) := b1
      clear b1 hP
      go_wp2_with (first | (go_at_call 77; refine (val_no v hfar _).mono ?_; rintro e w' ⟨rfl, rfl⟩))
      go_ret2
      exact ⟨.mk HO.out, B1.out⟩
    · go_enter Tryd.func62, Tryd.ntmps62
      go_wp2_with fail
      refine hP.mono ?_
      rintro e w1 ⟨rfl, b1⟩
      have B1 : Hid (Below w.heap.size w w1) := b1
      clear b1 hP
      go_wp2_with (first | (go_at_call 77; refine (val_yes v hlo hup _).mono ?_; rintro e w' ⟨rfl, rfl⟩) | (go_at_call 68; refine (dec.impl_any v hb0 hb1 _ (tab_below HL.out.1 B1.out)).mono ?_; rintro e w2 ⟨rfl, b2⟩; have B2 : Hid (Below w.heap.size w w2) := B1.out.trans (b2.mono B1.out.size); clear b2))
      go_ret2
      exact ⟨.mk HO.out, B2.out⟩
    · go_enter Tryd.func62, Tryd.ntmps62
      go_wp2_with fail
      refine hP.mono ?_
      rintro e w1 ⟨rfl, b1⟩
      have B1 : Hid (Below w.heap.size w w1) := b1
      clear b1 hP
      go_wp2_with (first | (go_at_call 77; refine (val_yes v hlo hup _).mono ?_; rintro e w' ⟨rfl, rfl⟩) | (go_at_call 68; refine (dec.impl_any v hb0 hb1 _ (tab_below HL.out.1 B1.out)).mono ?_; rintro e w2 ⟨rfl, b2⟩; have B2 : Hid (Below w.heap.size w w2) := B1.out.trans (b2.mono B1.out.size); clear b2))
      go_ret2
      exact ⟨.mk HO.out, B2.out⟩
  · have hn : ∀ v, parseIntB 64 s.data.toList ≠ .ok v := fun v h => hx ⟨v, h⟩
    clear hx
    have HO : Hid (Out s.data.toList 0 false) := out_bad s hn
    have hP := parse_bad s hs hn w hl
    clear hn hl
    go_enter Tryd.func62, Tryd.ntmps62
    go_wp2_with fail
    refine hP.mono ?_
    rintro e w1 ⟨⟨v, t, N, rfl⟩, b1⟩
    have B1 : Hid (Below w.heap.size w w1) := b1
    clear b1 hP
    go_wp2_with fail
    go_ret2
    exact ⟨.mk HO.out, B1.out⟩
end Go.Proofs.YtdeoemeibbkdoaaDoor.rd
namespace Go.Proofs.YtdeoemeibbkdoaaDoor.fnExactReadDecimalW
open Go.RowKit Go.Lib Go.Rd Go.Proofs.YtdeoemeibbkdoaaDoor.rd

end Go.Proofs.YtdeoemeibbkdoaaDoor.fnExactReadDecimalW
