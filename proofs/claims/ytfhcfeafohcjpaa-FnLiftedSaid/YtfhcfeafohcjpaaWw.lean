/- Wholes: the helpers of the exact laws over them. -/
import Derived.Test.YtfhcfeafohcjpaaWh
import Derived.Test.YtfhcfeafohcjpaaPost
namespace Go.Proofs.Ytfhcfeafohcjpaa.wh
open Go.RowKit

/-- the whole v has the terms of L, in blocks below hi -/
def RdW (w : World) (hi : Nat) (v : Value) (L : List Int) : Prop := ∃ s, v = .agg #[s] ∧ Rd w hi s L
def Wh (w : World) (v : Value) (L : List Int) : Prop := RdW w w.heap.size v L
theorem RdW.below {w w' : World} {hi B : Nat} {v : Value} {L : List Int} (h : RdW w hi v L) (hb : Below B w w') (hB : hi ≤ B) : RdW w' hi v L := by
  obtain ⟨s, rfl, h⟩ := h
  exact ⟨s, rfl, h.below hb hB⟩
theorem RdW.wh {w : World} {hi : Nat} {v : Value} {L : List Int} (h : RdW w hi v L) (hh : hi ≤ w.heap.size) : Wh w v L := by
  obtain ⟨s, rfl, h⟩ := h
  exact ⟨s, rfl, h.ls hh⟩
theorem Wh.below {w w' : World} {v : Value} {L : List Int} (h : Wh w v L) (hb : Below w.heap.size w w') : Wh w' v L := by
  obtain ⟨s, rfl, h⟩ := h
  exact ⟨s, rfl, Ls.below h hb⟩
theorem RdW.turned {w w' : World} {hi lo' hi' : Nat} {v : Value} {L : List Int} (h : RdW w hi v L) (ht : Turned lo' hi' w w') (ho : hi ≤ lo') (hw : hi ≤ w.heap.size) : RdW w' hi v L := by
  obtain ⟨s, rfl, h⟩ := h
  exact ⟨s, rfl, h.turned ht ho hw⟩
/-- and in a block of its own, with a number from lo to below hi -/
def OwW (w : World) (lo hi : Nat) (v : Value) (L : List Int) : Prop := ∃ s, v = .agg #[s] ∧ Own w lo hi s L
theorem OwW.rd {w : World} {lo hi : Nat} {v : Value} {L : List Int} (h : OwW w lo hi v L) : RdW w hi v L := by
  obtain ⟨s, rfl, h⟩ := h
  exact ⟨s, rfl, h.rd⟩
theorem OwW.below {w w' : World} {lo hi B : Nat} {v : Value} {L : List Int} (h : OwW w lo hi v L) (hb : Below B w w') (hB : hi ≤ B) : OwW w' lo hi v L := by
  obtain ⟨s, rfl, h⟩ := h
  exact ⟨s, rfl, h.below hb hB⟩
theorem OwW.wide {w : World} {lo lo' hi hi' : Nat} {v : Value} {L : List Int} (h : OwW w lo hi v L) (h1 : lo' ≤ lo) (h2 : hi ≤ hi') : OwW w lo' hi' v L := by
  obtain ⟨s, rfl, h⟩ := h
  exact ⟨s, rfl, h.wide h1 h2⟩
theorem OwW.turned {w w' : World} {lo hi lo' hi' : Nat} {v : Value} {L : List Int} (h : OwW w lo hi v L) (ht : Turned lo' hi' w w') (ho : hi ≤ lo' ∨ hi' ≤ lo) : OwW w' lo hi v L := by
  obtain ⟨s, rfl, h⟩ := h
  exact ⟨s, rfl, h.turned ht ho⟩
theorem OwW.zero (w : World) (lo hi : Nat) : OwW w lo hi (.agg #[.slice none 0 0]) [] := ⟨_, rfl, by simp, .inl ⟨rfl, rfl⟩⟩
theorem Wh.zero (w : World) : Wh w (.agg #[.slice none 0 0]) [] := ⟨_, rfl, none, 0, rfl, by simp, by simp, fun h => absurd rfl h⟩

/-- an ending: a whole to read, and a Bool -/
def AnsS (R : List Int) (ok : Bool) (w : World) (e : Ending) (w' : World) : Prop := ∃ v, e = .returned (.tuple #[v, .bool ok]) ∧ Wh w' v R ∧ Below w.heap.size w w'
/-- an ending: a whole in memory of its own, and a Bool -/
def AnsI (R : List Int) (ok : Bool) (w : World) (e : Ending) (w' : World) : Prop := ∃ v, e = .returned (.tuple #[v, .bool ok]) ∧ OwW w' w.heap.size w'.heap.size v R ∧ Below w.heap.size w w'
theorem AnsI.s {R : List Int} {ok : Bool} {w : World} {e : Ending} {w' : World} (h : AnsI R ok w e w') : AnsS R ok w e w' := by
  obtain ⟨v, h1, h2, h3⟩ := h
  exact ⟨v, h1, h2.rd, h3⟩

theorem szI_yes {v : Value} {L : List Int} {w : World} {l : Int} (h : Ls w v L) (hl : (L.length : Int) ≤ l) (hm : l ≤ 1048576) :
    Calls Try.prog 22 #[v, .int .i64 l] w fun e w' => e = .returned (.int .i64 (l - L.length)) ∧ w' = w := by
  obtain ⟨ao, cap, rfl, hn, _, _⟩ := h
  generalize L.length = n at *
  go_enter Try.func22, Try.ntmps22
  go_wp2
  go_ret
  exact ⟨rfl, rfl⟩
theorem szI_no {v : Value} {L : List Int} {w : World} {l : Int} (h : Ls w v L) (hl : l < (L.length : Int)) (h0 : 0 ≤ l) (hm : l ≤ 1048576) :
    Calls Try.prog 22 #[v, .int .i64 l] w fun e w' => e = .returned (.int .i64 (-1)) ∧ w' = w := by
  obtain ⟨ao, cap, rfl, hn, _, _⟩ := h
  generalize L.length = n at *
  go_enter Try.func22, Try.ntmps22
  go_wp2
  go_ret
  exact ⟨rfl, rfl⟩
/-- one new block, two, three -/
theorem new1 (w : World) (o : Obj) : Below w.heap.size w (w.alloc o) := (Below.refl _ _).alloc (Nat.le_refl _) _
theorem new2 (w : World) (o o2 : Obj) : Below w.heap.size w ((w.alloc o).alloc o2) := (new1 w o).alloc (by simp) _
theorem new3 (w : World) (o o2 o3 : Obj) : Below w.heap.size w (((w.alloc o).alloc o2).alloc o3) := (new2 w o o2).alloc (by simp; omega) _
theorem new4 (w : World) (o o2 o3 o4 : Obj) : Below w.heap.size w ((((w.alloc o).alloc o2).alloc o3).alloc o4) := (new3 w o o2 o3).alloc (by simp; omega) _
theorem new5 (w : World) (o o2 o3 o4 o5 : Obj) : Below w.heap.size w (((((w.alloc o).alloc o2).alloc o3).alloc o4).alloc o5) := (new4 w o o2 o3 o4).alloc (by simp; omega) _

theorem agg_inj {a b : Value} (h : Value.agg #[a] = .agg #[b]) : a = b := by
  injection h with h
  injection h with h
  injection h
theorem viaD {W W' wt : World} (bd : Below W.heap.size W W') (b : Below W'.heap.size W' wt) : Below W.heap.size W wt := bd.trans (b.mono bd.size)
theorem viaA {W W' wt : World} {o : Obj} (bd : Below W.heap.size W W') (b : Below (W'.alloc o).heap.size (W'.alloc o) wt) : Below W.heap.size W wt :=
  (bd.alloc bd.size o).trans (b.mono (by have := bd.size; simp; omega))
/-- what a variable's box holds behind a call whose order among the others is open -/
def Fin (W wx : World) (b : Nat) (v : Value) (R : List Int) : Prop := W.heap.size ≤ b ∧ Bx wx b v ∧ Rd wx wx.heap.size v R ∧ Below W.heap.size W wx
theorem finSet {W ws : World} {b lo : Nat} {v x : Value} {R : List Int} (hX : Bx ws b x) (ho : Own ws lo ws.heap.size v R) (hlt : b < lo) (hb : Below W.heap.size W ws) (h1 : W.heap.size ≤ b) : Fin W (ws.setCell ⟨b, 0, none⟩ v) b v R :=
  ⟨h1, hX.set v, by
    have := (ho.stay (w' := ws.setCell ⟨b, 0, none⟩ v) fun k h _ _ => Below.heap_setCell _ _ _ _ (by show k ≠ b; omega)).rd
    simpa using this, hb.setCell h1 _⟩
theorem finNew {W ws : World} {lo : Nat} {v : Value} {R : List Int} {t : TypeId} (ho : Own ws lo ws.heap.size v R) (hb : Below W.heap.size W ws) : Fin W (ws.alloc (.cells #[v] t)) ws.heap.size v R :=
  ⟨hb.size, Bx.new _ _ _, ((ho.kept (new1 ws (.cells #[v] t))).rd).ls (by simp), hb.alloc hb.size _⟩
/-- an ending: a list to read, and a Bool -/
def AnsLS (R : List Int) (ok : Bool) (w : World) (e : Ending) (w' : World) : Prop := ∃ v, e = .returned (.tuple #[v, .bool ok]) ∧ Ls w' v R ∧ Below w.heap.size w w'
/-- an ending: a list in memory of its own, and a Bool -/
def AnsLI (R : List Int) (ok : Bool) (w : World) (e : Ending) (w' : World) : Prop := ∃ v, e = .returned (.tuple #[v, .bool ok]) ∧ Own w' w.heap.size w'.heap.size v R ∧ Below w.heap.size w w'
theorem AnsLI.s {R : List Int} {ok : Bool} {w : World} {e : Ending} {w' : World} (h : AnsLI R ok w e w') : AnsLS R ok w e w' := by
  obtain ⟨v, h1, h2, h3⟩ := h
  exact ⟨v, h1, h2.rd, h3⟩
theorem eqS_any {v0 v1 : Value} {L : List Int} {w : World} (h0 : Ls w v0 L) (h1 : Ls w v1 L) :
    Calls Try.prog 39 #[v0, v1] w fun e w' => e = .returned (.bool true) ∧ Below w.heap.size w w' :=
  (eq_any h0 h1).mono fun _ _ ⟨h1, h2⟩ => ⟨h1, Go.Pst.below_draws h2⟩
theorem heldS_any {v : Value} {n : Nat} {w : World} {k0 : Int} (h : Ls w v (mk k0 n)) (hn : (n : Int) ≤ 1048576) (hk1 : 0 ≤ k0) (hk0 : k0 ≤ 16777216) :
    Calls Try.prog 41 #[v, .int .i64 k0] w fun e w' => e = .returned (.int .i64 (k0 + (n : Int))) ∧ Below w.heap.size w w' :=
  (held_any h (by omega) hk1 hk0).mono fun _ _ ⟨h1, h2⟩ => ⟨h1, by rw [h2]; exact Below.refl _ _⟩
theorem sz_yes {v : Value} {L : List Int} {w : World} {l : Int} (h : Wh w v L) (hl : (L.length : Int) ≤ l) (hm : l ≤ 1048576) :
    Calls Try.prog 6 #[v, .int .i64 l] w fun e w' => e = .returned (.int .i64 (l - L.length)) ∧ Below w.heap.size w w' := by
  obtain ⟨s, rfl, h⟩ := h
  have HH : Hid (Ls w s L) := h
  clear h
  go_enter Try.func6, Try.ntmps6
  go_wp2_with fail
  refine (szI_yes (HH.out.below (new1 _ _)) hl hm).mono ?_
  rintro e w1 ⟨rfl, hw1⟩
  rw [hw1]
  clear hw1
  go_wp2_with fail
  go_ret
  exact ⟨rfl, new1 _ _⟩
theorem sz_no {v : Value} {L : List Int} {w : World} {l : Int} (h : Wh w v L) (hl : l < (L.length : Int)) (h0 : 0 ≤ l) (hm : l ≤ 1048576) :
    Calls Try.prog 6 #[v, .int .i64 l] w fun e w' => e = .returned (.int .i64 (-1)) ∧ Below w.heap.size w w' := by
  obtain ⟨s, rfl, h⟩ := h
  have HH : Hid (Ls w s L) := h
  clear h
  go_enter Try.func6, Try.ntmps6
  go_wp2_with fail
  refine (szI_no (HH.out.below (new1 _ _)) hl h0 hm).mono ?_
  rintro e w1 ⟨rfl, hw1⟩
  rw [hw1]
  clear hw1
  go_wp2_with fail
  go_ret
  exact ⟨rfl, new1 _ _⟩

theorem toW_any {v : Value} {L : List Int} {w : World} (h : Wh w v L) (hn : (L.length : Int) ≤ 1048576) :
    Calls Try.prog 8 #[v] w fun e w' => ∃ v', e = .returned v' ∧ OwW w' w.heap.size w'.heap.size v' L ∧ Below w.heap.size w w' := by
  obtain ⟨s, rfl, h⟩ := h
  have HH : Hid (Ls w s L) := h
  clear h
  go_enter Try.func8, Try.ntmps8
  go_wp2_with fail
  refine (to_any (HH.out.below (new3 _ _ _ _)) (by omega)).mono ?_
  rintro e w1 ⟨v1, rfl, o1, b1⟩
  obtain ⟨ao, cap, rfl⟩ := o1.shape
  have X1 : Bx w1 (w.heap.size + 1) (.slice none 0 0) := Bx.kept (Bx.alloc (by have := Bx.new (w.alloc (.cells #[s] 24)) (.slice none 0 0) 26; simpa using this) _) b1
  have X2 : Bx w1 (w.heap.size + 1 + 1) (.slice none 0 0) := Bx.kept (by have := Bx.new ((w.alloc (.cells #[s] 24)).alloc (.cells #[.slice none 0 0] 26)) (.slice none 0 0) 26; simpa using this) b1
  have c1 := X1.cell
  have c2 := X2.cell
  have f1 := X1.free
  have f2 := X2.free
  have Y2 := ((X1.other (show w.heap.size + 1 ≠ w.heap.size + 1 + 1 by omega) (j := 0) (.slice ao L.length cap)).set (.slice ao L.length cap)).cell
  have hle := b1.size
  simp only [World.size_alloc] at hle o1 b1
  have O1 : Hid (Own w1 (w.heap.size + 1 + 1 + 1) w1.heap.size (.slice ao L.length cap) L) := o1
  have B1 : Hid (Below w.heap.size w w1) := (new3 w _ _ _).trans (b1.mono (by omega))
  clear X1 X2 o1 b1
  have B2 : Hid (Below w.heap.size w ((w1.setCell ⟨w.heap.size + 1 + 1, 0, none⟩ (.slice ao L.length cap)).setCell ⟨w.heap.size + 1, 0, none⟩ (.slice ao L.length cap))) := (B1.out.setCell (by simp; omega) _).setCell (by simp) _
  go_wp2
  refine bodyPost_ret (v := .agg #[.slice ao L.length cap]) (by simp [results, Try.results8, Y2, go_sem]) rfl ?_
  refine ⟨_, rfl, ⟨_, rfl, ?_⟩, B2.out⟩
  refine Own.wide (Own.stay O1.out fun k h1 _ _ => ?_) (by omega) (by simp)
  rw [Below.heap_setCell _ _ _ _ (by simp; omega), Below.heap_setCell _ _ _ _ (by simp; omega)]

theorem eqW_any {v0 v1 : Value} {L : List Int} {w : World} (h0 : Wh w v0 L) (h1 : Wh w v1 L) :
    Calls Try.prog 10 #[v0, v1] w fun e w' => e = .returned (.bool true) ∧ Below w.heap.size w w' := by
  obtain ⟨s0, rfl, h0⟩ := h0
  obtain ⟨s1, rfl, h1⟩ := h1
  have H0 : Hid (Ls w s0 L) := h0
  have H1 : Hid (Ls w s1 L) := h1
  clear h0 h1
  go_enter Try.func10, Try.ntmps10
  go_wp2_with fail
  refine (eq_any (H0.out.below (new2 _ _ _)) (H1.out.below (new2 _ _ _))).mono ?_
  rintro e w1 ⟨rfl, hw1⟩
  have B1 : Hid (Below w.heap.size w w1) := (new2 w _ _).trans ((Go.Pst.below_draws hw1).mono (by simp; omega))
  clear hw1
  go_wp2_with fail
  go_ret
  exact ⟨rfl, B1.out⟩

theorem markW_any {lo hi : Nat} {v : Value} {L : List Int} {w : World} {k0 : Int} (h : OwW w lo hi v L) (hn : (L.length : Int) ≤ 1048576) (hk1 : 0 ≤ k0) (hk0 : k0 ≤ 16777216) :
    Calls Try.prog 11 #[v, .int .i64 k0] w fun e w' => e = .returned (.int .i64 (k0 + (L.length : Int))) ∧ OwW w' lo hi v (mk k0 L.length) ∧ Turned lo hi w w' := by
  obtain ⟨s, rfl, h⟩ := h
  have HH : Hid (Own w lo hi s L) := h
  clear h
  go_enter Try.func11, Try.ntmps11
  go_wp2_with fail
  refine (mark_any (HH.out.kept (new1 _ _)) (by omega) hk1 hk0).mono ?_
  rintro e w1 ⟨rfl, o1, t1⟩
  have O1 : Hid (Own w1 lo hi s (mk k0 L.length)) := o1
  have T1 : Hid (Turned lo hi w w1) := t1.pre (new1 _ _)
  clear o1 t1
  go_wp2_with fail
  go_ret
  exact ⟨rfl, ⟨_, rfl, O1.out⟩, T1.out⟩

theorem heldW_any {v : Value} {n : Nat} {w : World} {k0 : Int} (h : Wh w v (mk k0 n)) (hn : (n : Int) ≤ 1048576) (hk1 : 0 ≤ k0) (hk0 : k0 ≤ 16777216) :
    Calls Try.prog 12 #[v, .int .i64 k0] w fun e w' => e = .returned (.int .i64 (k0 + (n : Int))) ∧ Below w.heap.size w w' := by
  obtain ⟨s, rfl, h⟩ := h
  have HH : Hid (Ls w s (mk k0 n)) := h
  clear h
  go_enter Try.func12, Try.ntmps12
  go_wp2_with fail
  refine (held_any (HH.out.below (new1 _ _)) (by omega) hk1 hk0).mono ?_
  rintro e w1 ⟨rfl, hw1⟩
  rw [hw1]
  clear hw1
  go_wp2_with fail
  go_ret
  exact ⟨rfl, new1 _ _⟩
end Go.Proofs.Ytfhcfeafohcjpaa.wh
