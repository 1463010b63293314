/- WholeAt: what both sides answer. -/
import Derived.Test.YtcocidlijdfmmaaBk
import Derived.Test.YtcocidlijdfmmaaSt
namespace Go.Proofs.Ytcocidlijdfmmaa.fWholeAt
open Go.RowKit Go.Shelf Go.Pl Go.Proofs.Ytcocidlijdfmmaa.wh
attribute [local go_sem] Oper.semAt_some

def inB (v : Int) : Bool := decide (-1000000000000000 ≤ v ∧ v ≤ 1000000000000000)
def rg (x : Int) : Bool := decide (-1000 ≤ x ∧ x ≤ 1000)
/-- nested steps of the highest k terms; none when one is too great -/
def ho (L : List Int) (x : Int) : Nat → Option Int
  | 0 => some 0
  | k + 1 => (ho L x k).bind fun s => if inB (s * x + at' L (L.length - 1 - k)) then some (s * x + at' L (L.length - 1 - k)) else none
theorem ho_succ {L : List Int} {x s : Int} {k : Nat} (h : ho L x k = some s) : ho L x (k + 1) = if inB (s * x + at' L (L.length - 1 - k)) then some (s * x + at' L (L.length - 1 - k)) else none := by rw [ho, h]; rfl
theorem ho_none {L : List Int} {x : Int} {k : Nat} (h : ho L x k = none) : ∀ j, ho L x (k + j) = none
  | 0 => h
  | j + 1 => by rw [show k + (j + 1) = (k + j) + 1 by omega, ho, ho_none h j]; rfl
theorem ho_bd {L : List Int} {x : Int} : ∀ {k : Nat} {s : Int}, ho L x k = some s → -1000000000000000 ≤ s ∧ s ≤ 1000000000000000
  | 0, s, h => by rw [ho] at h; injection h with h; omega
  | k + 1, s, h => by
    cases hk : ho L x k with
    | none => rw [ho, hk] at h; cases h
    | some t =>
      rw [ho_succ hk] at h
      split at h
      · rename_i hb; injection h with h; rw [← h]; exact of_decide_eq_true hb
      · cases h
theorem ho_one {L : List Int} (hv : Val L) {x : Int} : ho L x 1 = some (at' L (L.length - 1)) := by
  have h2 : inR (-1000000) 1000000 L := hv.2.2.1
  have h1 := h2.at (by omega) (by omega) (L.length - 1)
  rw [ho_succ (s := 0) rfl, Int.zero_mul, Int.zero_add, Nat.sub_zero, if_pos]
  exact decide_eq_true (by omega)
/-- the same, each step wrapped -/
def wo (x : Int) : List (Nat × Int) → Option Int := List.foldl (fun o p => o.bind fun s => if inB (wrap64 (wrap64 (s * x) + p.2)) then some (wrap64 (wrap64 (s * x) + p.2)) else none) (some 0)
theorem wo_snoc {x s : Int} {pre : List (Nat × Int)} (h : wo x pre = some s) (p : Nat × Int) : wo x (pre ++ [p]) = if inB (wrap64 (wrap64 (s * x) + p.2)) then some (wrap64 (wrap64 (s * x) + p.2)) else none := by
  unfold wo at h ⊢
  rw [List.foldl_append, h]; rfl
theorem wo_snoc_none {x : Int} {pre : List (Nat × Int)} (h : wo x pre = none) (p : Nat × Int) : wo x (pre ++ [p]) = none := by
  unfold wo at h ⊢
  rw [List.foldl_append, h]; rfl
theorem wo_ho {L : List Int} (hv : Val L) {x : Int} (hx : -1000 ≤ x ∧ x ≤ 1000) : ∀ k : Nat, wo x (bkl L k) = ho L x k
  | 0 => rfl
  | k + 1 => by
    have ih := wo_ho hv hx k
    rw [bkl_succ]
    cases hk : ho L x k with
    | none => rw [hk] at ih; rw [wo_snoc_none ih, ho, hk]; rfl
    | some s =>
      rw [hk] at ih
      have h1 := ho_bd hk
      have h2 : inR (-1000000) 1000000 L := hv.2.2.1
      have h3 := h2.at (by omega) (by omega) (L.length - 1 - k)
      have h4 := mul_ab (A := 1000000000000000) (B := 1000) h1 hx
      rw [wo_snoc ih, ho_succ hk, IntWalk.wrap64_in (s * x) (by omega)]
      show (if inB (wrap64 (s * x + at' L (L.length - 1 - k))) then some (wrap64 (s * x + at' L (L.length - 1 - k))) else none) = _
      rw [IntWalk.wrap64_in _ (by omega)]

def ok (A : List Int) (x : Int) : Bool := val A && (rg x && (ho A x A.length).isSome)
def z (A : List Int) (x : Int) : Int := if ok A x = true then (ho A x A.length).getD 0 else 0
theorem no_val {A : List Int} {x : Int} (h : val A = false) : ok A x = false ∧ z A x = 0 := by constructor <;> simp [z, ok, h]
theorem no_rg {A : List Int} {x : Int} (h : rg x = false) : ok A x = false ∧ z A x = 0 := by constructor <;> simp [z, ok, h]
theorem no_ho {A : List Int} {x : Int} {k : Nat} (hk : k ≤ A.length) (h : ho A x k = none) : ok A x = false ∧ z A x = 0 := by
  have := ho_none h (A.length - k)
  rw [show k + (A.length - k) = A.length by omega] at this
  constructor <;> simp [z, ok, this]
theorem yes {A : List Int} {x s : Int} (h1 : val A = true) (h2 : rg x = true) (h : ho A x A.length = some s) : ok A x = true ∧ z A x = s := by
  constructor <;> simp [z, ok, h, h1, h2]

set_option maxRecDepth 100000 in
set_option maxHeartbeats 3200000 in
theorem impl_any {A : List Int} {v : Value} {w : World} (h : Wh w v A) (a1 : Int) (_b1 : (Lit.int .i64 a1).wf = true) : Calls Try.prog 9 #[v, .int .i64 a1] w fun e w' => e = .returned (.tuple #[.int .i64 (z A a1), .bool (ok A a1)]) ∧ Below w.heap.size w w' := by
  obtain ⟨s, rfl, h⟩ := h
  obtain ⟨ao, cap, rfl⟩ := id h.shape
  have HH : Hid (Ls w (.slice ao A.length cap) A) := h
  clear h
  obtain ⟨w1, hw⟩ : ∃ x, x = (((w.alloc (.cells #[.slice ao A.length cap] 26)).alloc (.cells #[.int .i64 a1] 2)).alloc (.cells #[.int .i64 0] 2)).alloc (.cells #[.bool false] 4) := ⟨_, rfl⟩
  have X : Hid (Bx w1 w.heap.size (.slice ao A.length cap)) := by rw [hw]; exact Bx.alloc (Bx.alloc (Bx.alloc (Bx.new _ _ _) _) _) _
  have XX : Hid (Bx w1 (w.heap.size + 1) (.int .i64 a1)) := by rw [hw]; exact Bx.alloc (Bx.alloc (Bx.new2 _ _ _ _) _) _
  have XZ : Hid (Bx w1 (w.heap.size + 1 + 1) (.int .i64 0)) := by rw [hw]; exact Bx.alloc (Bx.new3 _ _ _ _ _) _
  have XO : Hid (Bx w1 (w.heap.size + 1 + 1 + 1) (.bool false)) := by
    rw [hw]
    have := Bx.new (((w.alloc (.cells #[.slice ao A.length cap] 26)).alloc (.cells #[.int .i64 a1] 2)).alloc (.cells #[.int .i64 0] 2)) (.bool false) 4
    rw [World.size_alloc, World.size_alloc, World.size_alloc] at this
    exact this
  have B1 : Hid (Below w.heap.size w w1) := by rw [hw]; exact new4 _ _ _ _ _
  have H1 : Hid (Ls w1 (.slice ao A.length cap) A) := HH.out.below B1.out
  have SZ : Hid (w1.heap.size = w.heap.size + 1 + 1 + 1 + 1) := by show _ = _; rw [hw]; simp
  have HC0 : Hid (A.length ≠ 0 → ∃ b off, ao = some ⟨b, off, none⟩ ∧ b < w.heap.size ∧ ∀ (k : Nat) (z : Int), A[k]? = some z → w.cell? ⟨b, off + k, none⟩ = some (.int .i64 z)) := (show Rd w w.heap.size (.slice ao A.length cap) A from HH.out).use.2.2
  have c0 := X.out.cell
  have c1 := XX.out.cell
  have c2 := XZ.out.cell
  have f2 := XZ.out.free
  have c3 := XO.out.cell
  have f3 := XO.out.free
  clear HH
  refine (callsIn_wide (n := 4)).1 ?_
  refine callsIn_of_wp_marks Try.func9 rfl trivial ?_ rfl
  simp only [Try.ntmps9, List.size_toArray, List.length_cons, List.length_nil, Nat.reduceAdd, Nat.reduceSub, Array.replicate_succ, Array.replicate_zero, List.push_toArray, List.append_toArray, List.nil_append, List.cons_append]
  gi_wp2_with fail
  rw [← hw]
  clear hw
  refine ⟨trivial, ?_⟩
  refine (callsIn_wide.2 (valid_any ⟨_, rfl, H1.out⟩)).mono ?_
  rintro e w2 ⟨rfl, b⟩
  replace X : Hid (Bx w2 w.heap.size (.slice ao A.length cap)) := X.out.kept b
  replace XX : Hid (Bx w2 (w.heap.size + 1) (.int .i64 a1)) := XX.out.kept b
  replace XZ : Hid (Bx w2 (w.heap.size + 1 + 1) (.int .i64 0)) := XZ.out.kept b
  replace XO : Hid (Bx w2 (w.heap.size + 1 + 1 + 1) (.bool false)) := XO.out.kept b
  replace B1 : Hid (Below w.heap.size w w2) := B1.out.trans (b.mono B1.out.size)
  replace H1 : Hid (Ls w2 (.slice ao A.length cap) A) := H1.out.below b
  have SZ2 : Hid (w.heap.size + 1 + 1 + 1 + 1 ≤ w2.heap.size) := by have := b.size; have := SZ.out; show _ ≤ _; omega
  replace c0 := X.out.cell
  replace c1 := XX.out.cell
  replace c2 := XZ.out.cell
  replace f2 := XZ.out.free
  replace c3 := XO.out.cell
  replace f3 := XO.out.free
  clear b SZ
  cases HV : val A with
  | false =>
    have HZ : Hid (ok A a1 = false ∧ z A a1 = 0) := no_val (x := a1) HV
    clear HV
    gi_wp2_with fail
    refine ⟨trivial, ?_⟩
    gi_wp2_with fail
    have y1 : ((w2.setCell ⟨w.heap.size + 1 + 1, 0, none⟩ (.int .i64 0)).setCell ⟨w.heap.size + 1 + 1 + 1, 0, none⟩ (.bool false)).cell? ⟨w.heap.size + 1 + 1, 0, none⟩ = some (.int .i64 0) := ((XZ.out.set _).other (by simp) _).cell
    have y2 : ((w2.setCell ⟨w.heap.size + 1 + 1, 0, none⟩ (.int .i64 0)).setCell ⟨w.heap.size + 1 + 1 + 1, 0, none⟩ (.bool false)).cell? ⟨w.heap.size + 1 + 1 + 1, 0, none⟩ = some (.bool false) := ((XO.out.other (by simp) _).set _).cell
    refine ⟨.tuple #[.int .i64 0, .bool false], by simp [results, Try.results9, y1, y2, go_sem], by rw [HZ.out.1, HZ.out.2], (B1.out.setCell (by simp; omega) _).setCell (by simp; omega) _⟩
  | true =>
    by_cases hx : -1000 ≤ a1 ∧ a1 ≤ 1000
    case neg =>
      have HZ : Hid (ok A a1 = false ∧ z A a1 = 0) := no_rg (A := A) (decide_eq_false hx : rg a1 = false)
      clear HV
      gi_wp2_with fail
      refine ⟨trivial, ?_⟩
      refine (callsIn_wide.2 (from_any a1 _ _ _)).mono ?_
      rintro e w0 ⟨rfl, hw0⟩
      rw [hw0, decide_eq_false hx]
      clear hw0 hx
      gi_wp2_with fail
      have y1 : ((w2.setCell ⟨w.heap.size + 1 + 1, 0, none⟩ (.int .i64 0)).setCell ⟨w.heap.size + 1 + 1 + 1, 0, none⟩ (.bool false)).cell? ⟨w.heap.size + 1 + 1, 0, none⟩ = some (.int .i64 0) := ((XZ.out.set _).other (by simp) _).cell
      have y2 : ((w2.setCell ⟨w.heap.size + 1 + 1, 0, none⟩ (.int .i64 0)).setCell ⟨w.heap.size + 1 + 1 + 1, 0, none⟩ (.bool false)).cell? ⟨w.heap.size + 1 + 1 + 1, 0, none⟩ = some (.bool false) := ((XO.out.other (by simp) _).set _).cell
      refine ⟨.tuple #[.int .i64 0, .bool false], by simp [results, Try.results9, y1, y2, go_sem], by rw [HZ.out.1, HZ.out.2], (B1.out.setCell (by simp; omega) _).setCell (by simp; omega) _⟩
    have HRG : Hid (rg a1 = true) := decide_eq_true hx
    have HVL : Hid (Val A) := val_iff.1 HV
    have HVV : Hid (val A = true) := HV
    have HX : Hid (-1000 ≤ a1 ∧ a1 ≤ 1000) := hx
    clear HV
    gi_wp2_with fail
    refine ⟨trivial, ?_⟩
    refine (callsIn_wide.2 (from_any a1 _ _ _)).mono ?_
    rintro e w0 ⟨rfl, hw0⟩
    rw [hw0, decide_eq_true hx]
    clear hw0 hx
    have hp := HVL.out.pos
    have hL := HVL.out.le
    obtain ⟨b, off, rfl, hbw, hcell⟩ := HC0.out (by omega)
    have HC : Hid (∀ (k : Nat) (z : Int), A[k]? = some z → w2.cell? ⟨b, off + k, none⟩ = some (.int .i64 z)) := fun k z hz => (B1.out.cell (p := ⟨b, off + k, none⟩) hbw).trans (hcell k z hz)
    have HBw : Hid (b < w.heap.size) := hbw
    clear hcell hbw HC0
    have d0 : (w2.alloc (.cells #[.int .i64 0] 2)).cell? ⟨w.heap.size, 0, none⟩ = some (.slice (some ⟨b, off, none⟩) A.length cap) := (X.out.alloc _).cell
    have HW2 : Hid (Below w2.heap.size w2 ((w2.alloc (.cells #[.int .i64 0] 2)).alloc (.cells #[.slice (some ⟨b, off, none⟩) A.length cap] 24))) := new2 _ _ _
    have bV := Bx.alloc (Bx.new w2 (.int .i64 0) 2) (.cells #[.slice (some ⟨b, off, none⟩) A.length cap] 24)
    have bS := Bx.new2 w2 (.slice (some ⟨b, off, none⟩) A.length cap) 24 (.cells #[.int .i64 0] 2)
    have HH0 : Hid (∀ k, wo a1 (bkl A k) = ho A a1 k) := wo_ho HVL.out HX.out
    have HBT : Hid (Below w.heap.size w ((w2.alloc (.cells #[.int .i64 0] 2)).alloc (.cells #[.slice (some ⟨b, off, none⟩) A.length cap] 24))) := B1.out.trans (HW2.out.mono B1.out.size)
    gi_wp2_with (first | (refine ⟨trivial, ?_⟩; refine (bk_in Fence.wide _ trivial rfl _ _ _ _).mono ?_; rintro e w' ⟨rfl, rfl⟩))
    refine wpIn_rangeFunc_ownG rfl (by omega) (gf := 40) (lb := #[.pointer (some ⟨w2.heap.size + 1, 0, none⟩)]) rfl trivial (enters_of Try.func40 (by kernel_rfl) rfl)
      (bk_stops Fence.wide 3 trivial rfl (by omega) (w2.heap.size + 1) w.heap.size b off cap A (by omega) _ (by simp) (by have := B1.out.size; simp; omega) bS.cell HBw.out (fun j hj => (HW2.out.cell (p := ⟨b, off + j, none⟩) (by have := HBw.out; have := B1.out.size; show b < _; omega)).trans (HC.out j _ (at_some A j hj)))) KB.trans (kb_b (by have := B1.out.size; simp; omega) (by simp)) (Below.refl _ _) (fun _ => rfl)
      (fun pre W => (∃ s, wo a1 pre = some s ∧ W.cell? ⟨w2.heap.size, 0, none⟩ = some (.int .i64 s) ∧ W.frozen? ⟨w2.heap.size, 0, none⟩ = false ∧ W.cell? ⟨w.heap.size + 1, 0, none⟩ = some (.int .i64 a1)
        ∧ W.cell? ⟨w.heap.size + 1 + 1, 0, none⟩ = some (.int .i64 0) ∧ W.frozen? ⟨w.heap.size + 1 + 1, 0, none⟩ = false ∧ W.cell? ⟨w.heap.size + 1 + 1 + 1, 0, none⟩ = some (.bool false) ∧ W.frozen? ⟨w.heap.size + 1 + 1 + 1, 0, none⟩ = false) ∧ Below w.heap.size w W)
      (fun c pre W => (c = .ret ∧ wo a1 pre = none ∧ W.cell? ⟨w.heap.size + 1 + 1, 0, none⟩ = some (.int .i64 0) ∧ W.cell? ⟨w.heap.size + 1 + 1 + 1, 0, none⟩ = some (.bool false)) ∧ Below w.heap.size w W)
      (OwnFrom.and (Own.from (fun s A B row hs hg hr => by obtain ⟨s, h1, h2, h3, h4, h5, h6, h7, h8⟩ := hs; exact ⟨s, h1, cell_kept h2 hg hr, (frozen_kept h2 hg hr).trans h3, cell_kept h4 hg hr, cell_kept h5 hg hr, (frozen_kept h5 hg hr).trans h6, cell_kept h7 hg hr, (frozen_kept h7 hg hr).trans h8⟩) _) (ownFrom_below (Nat.le_refl _) (by have := B1.out.size; simp; omega)))
      (fun c => OwnFrom.and (Own.from (fun s A B row hs hg hr => ⟨hs.1, hs.2.1, cell_kept hs.2.2.1 hg hr, cell_kept hs.2.2.2 hg hr⟩) _) (ownFrom_below (Nat.le_refl _) (by have := B1.out.size; simp; omega)))
      ⟨⟨0, rfl, bV.cell, bV.free, ((XX.out.alloc _).alloc _).cell, ((XZ.out.alloc _).alloc _).cell, ((XZ.out.alloc _).alloc _).free, ((XO.out.alloc _).alloc _).cell, ((XO.out.alloc _).alloc _).free⟩, HBT.out⟩
      (fun y => { tmps := #[.agg #[.slice (some ⟨b, off, none⟩) A.length cap], .int .i64 a1, .pointer (some ⟨w.heap.size, 0, none⟩), .pointer (some ⟨w.heap.size + 1, 0, none⟩), .pointer (some ⟨w.heap.size + 1 + 1, 0, none⟩), .pointer (some ⟨w.heap.size + 1 + 1 + 1, 0, none⟩), .pointer (some ⟨w2.heap.size, 0, none⟩), undef, .int .i64 y.2, .agg #[.slice (some ⟨b, off, none⟩) A.length cap], .bool true, .bool false, .bool false, .int .i64 a1, .bool true, .bool false, .bool false, .pointer (some ⟨w.heap.size, 0, none⟩), .slice (some ⟨b, off, none⟩) A.length cap, .func (.func 40) #[] #[.pointer (some ⟨w2.heap.size + 1, 0, none⟩)], .int .i64 (y.1 : Int), .int .i64 y.2, undef, undef, undef, undef, undef, undef, undef, undef, undef], defers := [] }) ?assign ?body ?done ?stop
    case assign =>
      intro l x W K hK
      gi_wp2
      exact hK
    case body =>
      rintro l pre y W ⟨⟨s, h0, h1, h2, h3, h4, h5, h6, h7⟩, hB⟩ _
      have HSZ : w.heap.size + 1 + 1 + 1 + 1 ≤ w2.heap.size := SZ2.out
      have n2 : (⟨w2.heap.size, 0, none⟩ : Addr) ≠ ⟨w.heap.size + 1, 0, none⟩ := by simp; try omega
      have n3 : (⟨w2.heap.size, 0, none⟩ : Addr) ≠ ⟨w.heap.size + 1 + 1, 0, none⟩ := by simp; try omega
      have n4 : (⟨w2.heap.size, 0, none⟩ : Addr) ≠ ⟨w.heap.size + 1 + 1 + 1, 0, none⟩ := by simp; try omega
      have n5 : (⟨w.heap.size + 1 + 1, 0, none⟩ : Addr) ≠ ⟨w.heap.size + 1 + 1 + 1, 0, none⟩ := by simp
      have n6 : (⟨w.heap.size + 1 + 1 + 1, 0, none⟩ : Addr) ≠ ⟨w.heap.size + 1 + 1, 0, none⟩ := by simp
      have g1 : (W.setCell ⟨w2.heap.size, 0, none⟩ (.int .i64 (wrap64 (wrap64 (s * a1) + y.2)))).cell? ⟨w2.heap.size, 0, none⟩ = some (.int .i64 (wrap64 (wrap64 (s * a1) + y.2))) := World.cell?_setCell_same' _ _ _ (by rw [h1]; rfl)
      have g2 : (W.setCell ⟨w2.heap.size, 0, none⟩ (.int .i64 (wrap64 (wrap64 (s * a1) + y.2)))).frozen? ⟨w2.heap.size, 0, none⟩ = false := by rw [World.frozen?_setCell]; exact h2
      have g3 : (W.setCell ⟨w2.heap.size, 0, none⟩ (.int .i64 (wrap64 (wrap64 (s * a1) + y.2)))).cell? ⟨w.heap.size + 1, 0, none⟩ = some (.int .i64 a1) := by rw [World.cell?_setCell_other _ _ _ _ n2]; exact h3
      have g4 : (W.setCell ⟨w2.heap.size, 0, none⟩ (.int .i64 (wrap64 (wrap64 (s * a1) + y.2)))).cell? ⟨w.heap.size + 1 + 1, 0, none⟩ = some (.int .i64 0) := by rw [World.cell?_setCell_other _ _ _ _ n3]; exact h4
      have g5 : (W.setCell ⟨w2.heap.size, 0, none⟩ (.int .i64 (wrap64 (wrap64 (s * a1) + y.2)))).frozen? ⟨w.heap.size + 1 + 1, 0, none⟩ = false := by rw [World.frozen?_setCell]; exact h5
      have g6 : (W.setCell ⟨w2.heap.size, 0, none⟩ (.int .i64 (wrap64 (wrap64 (s * a1) + y.2)))).cell? ⟨w.heap.size + 1 + 1 + 1, 0, none⟩ = some (.bool false) := by rw [World.cell?_setCell_other _ _ _ _ n4]; exact h6
      have g7 : (W.setCell ⟨w2.heap.size, 0, none⟩ (.int .i64 (wrap64 (wrap64 (s * a1) + y.2)))).frozen? ⟨w.heap.size + 1 + 1 + 1, 0, none⟩ = false := by rw [World.frozen?_setCell]; exact h7
      have HBs : Hid (Below w.heap.size W (W.setCell ⟨w2.heap.size, 0, none⟩ (.int .i64 (wrap64 (wrap64 (s * a1) + y.2))))) := (Below.refl w.heap.size W).setCell (p := ⟨w2.heap.size, 0, none⟩) (by show w.heap.size ≤ w2.heap.size; omega) _
      by_cases hin : -1000000000000000 ≤ wrap64 (wrap64 (s * a1) + y.2) ∧ wrap64 (wrap64 (s * a1) + y.2) ≤ 1000000000000000
      · have HW : Hid (wo a1 (pre ++ [y]) = some (wrap64 (wrap64 (s * a1) + y.2))) := by
          show _ = _
          rw [wo_snoc h0]
          exact if_pos (decide_eq_true hin)
        have HG : Hid ((W.setCell ⟨w2.heap.size, 0, none⟩ (.int .i64 (wrap64 (wrap64 (s * a1) + y.2)))).heap[w2.heap.size + 1]? = W.heap[w2.heap.size + 1]?) := Below.heap_setCell _ _ _ _ (by simp)
        gi_wp2_with (first | (refine ⟨trivial, ?_⟩; refine (CallsIn.inRound l (callsIn_wide.2 (from_any _ _ _ _))).mono ?_; rintro e w0 ⟨rfl, hw0⟩; rw [hw0, decide_eq_true hin]; clear hw0))
        exact ⟨(KeepsOthers.setCell _ _ _).from _, ⟨HBs.out, HG.out⟩, ⟨_, HW.out, g1, g2, g3, g4, g5, g6, g7⟩, hB.trans HBs.out⟩
      · have HW : Hid (wo a1 (pre ++ [y]) = none) := by
          show _ = _
          rw [wo_snoc h0]
          exact if_neg (fun h => hin (of_decide_eq_true h))
        have k4 : (((W.setCell ⟨w2.heap.size, 0, none⟩ (.int .i64 (wrap64 (wrap64 (s * a1) + y.2)))).setCell ⟨w.heap.size + 1 + 1, 0, none⟩ (.int .i64 0))).cell? ⟨w.heap.size + 1 + 1 + 1, 0, none⟩ = some (.bool false) := by rw [World.cell?_setCell_other _ _ _ _ n5]; exact g6
        have k5 : (((W.setCell ⟨w2.heap.size, 0, none⟩ (.int .i64 (wrap64 (wrap64 (s * a1) + y.2)))).setCell ⟨w.heap.size + 1 + 1, 0, none⟩ (.int .i64 0))).frozen? ⟨w.heap.size + 1 + 1 + 1, 0, none⟩ = false := by rw [World.frozen?_setCell]; exact g7
        have k6 : Hid ((((W.setCell ⟨w2.heap.size, 0, none⟩ (.int .i64 (wrap64 (wrap64 (s * a1) + y.2)))).setCell ⟨w.heap.size + 1 + 1, 0, none⟩ (.int .i64 0)).setCell ⟨w.heap.size + 1 + 1 + 1, 0, none⟩ (.bool false)).cell? ⟨w.heap.size + 1 + 1, 0, none⟩ = some (.int .i64 0)) := by
          show _ = _
          rw [World.cell?_setCell_other _ _ _ _ n6]
          exact World.cell?_setCell_same' _ _ _ (by rw [g4]; rfl)
        have k7 : Hid ((((W.setCell ⟨w2.heap.size, 0, none⟩ (.int .i64 (wrap64 (wrap64 (s * a1) + y.2)))).setCell ⟨w.heap.size + 1 + 1, 0, none⟩ (.int .i64 0)).setCell ⟨w.heap.size + 1 + 1 + 1, 0, none⟩ (.bool false)).cell? ⟨w.heap.size + 1 + 1 + 1, 0, none⟩ = some (.bool false)) := World.cell?_setCell_same' _ _ _ (by rw [k4]; rfl)
        gi_wp2_with (first | (refine ⟨trivial, ?_⟩; refine (CallsIn.inRound l (callsIn_wide.2 (from_any _ _ _ _))).mono ?_; rintro e w0 ⟨rfl, hw0⟩; rw [hw0, decide_eq_false hin]; clear hw0))
        exact ⟨(((KeepsOthers.setCell _ _ _).trans (KeepsOthers.setCell _ _ _)).trans (KeepsOthers.setCell _ _ _)).from _, ⟨rfl, HW.out, k6.out, k7.out⟩, ((hB.trans HBs.out).setCell (p := ⟨w.heap.size + 1 + 1, 0, none⟩) (by simp; omega) _).setCell (p := ⟨w.heap.size + 1 + 1 + 1, 0, none⟩) (by simp; omega) _⟩
    case done =>
      rintro D ys W hD rfl ⟨⟨s, h0, h1, h2, h3, h4, h5, h6, h7⟩, hB⟩ hK
      have HZ : Hid (ok A a1 = true ∧ z A a1 = s) := yes HVV.out HRG.out (by rw [← HH0.out]; exact h0)
      gi_wp2
      have n5 : (⟨w.heap.size + 1 + 1, 0, none⟩ : Addr) ≠ ⟨w.heap.size + 1 + 1 + 1, 0, none⟩ := by simp
      have n6 : (⟨w.heap.size + 1 + 1 + 1, 0, none⟩ : Addr) ≠ ⟨w.heap.size + 1 + 1, 0, none⟩ := by simp
      have k4 : (W.setCell ⟨w.heap.size + 1 + 1, 0, none⟩ (.int .i64 s)).cell? ⟨w.heap.size + 1 + 1 + 1, 0, none⟩ = some (.bool false) := by rw [World.cell?_setCell_other _ _ _ _ n5]; exact h6
      have k6 : ((W.setCell ⟨w.heap.size + 1 + 1, 0, none⟩ (.int .i64 s)).setCell ⟨w.heap.size + 1 + 1 + 1, 0, none⟩ (.bool true)).cell? ⟨w.heap.size + 1 + 1, 0, none⟩ = some (.int .i64 s) := by
        rw [World.cell?_setCell_other _ _ _ _ n6]
        exact World.cell?_setCell_same' _ _ _ (by rw [h4]; rfl)
      have k7 : ((W.setCell ⟨w.heap.size + 1 + 1, 0, none⟩ (.int .i64 s)).setCell ⟨w.heap.size + 1 + 1 + 1, 0, none⟩ (.bool true)).cell? ⟨w.heap.size + 1 + 1 + 1, 0, none⟩ = some (.bool true) := World.cell?_setCell_same' _ _ _ (by rw [k4]; rfl)
      have hK' := ((KeepsOthers.setCell W ⟨w.heap.size + 1 + 1, 0, none⟩ (.int .i64 s)).trans (KeepsOthers.setCell _ ⟨w.heap.size + 1 + 1 + 1, 0, none⟩ (.bool true))).same D _ hK rfl
      refine ⟨by simp, .inl ⟨_, _, rfl, run_takeDeferred hK', ?_⟩⟩
      have k8 := cell_kept k6 (grownBy_putObj' _ D (.deferred none)) (fun r e => by cases e; exact ⟨_, hK', rfl⟩)
      have k9 := cell_kept k7 (grownBy_putObj' _ D (.deferred none)) (fun r e => by cases e; exact ⟨_, hK', rfl⟩)
      refine ⟨.tuple #[.int .i64 s, .bool true], by simp [results, Try.results9, k8, k9, go_sem], by rw [HZ.out.1, HZ.out.2], ((hB.setCell (p := ⟨w.heap.size + 1 + 1, 0, none⟩) (by simp; omega) _).setCell (p := ⟨w.heap.size + 1 + 1 + 1, 0, none⟩) (by simp; omega) _).trans (belowK_b (w := w) (Nat.le_refl _) _ D _ _ (by have := B1.out.size; simp at hD; omega) hK' rfl rfl)⟩
    case stop =>
      rintro D c pre W hD ⟨k, hk, rfl⟩ ⟨⟨rfl, h0, h1, h2⟩, hB⟩ hK
      have HZ : Hid (ok A a1 = false ∧ z A a1 = 0) := no_ho hk (by rw [← HH0.out]; exact h0)
      gi_wp2
      refine ⟨by simp, .inl ⟨_, _, rfl, run_takeDeferred hK, ?_⟩⟩
      have k8 := cell_kept h1 (grownBy_putObj' _ D (.deferred none)) (fun r e => by cases e; exact ⟨_, hK, rfl⟩)
      have k9 := cell_kept h2 (grownBy_putObj' _ D (.deferred none)) (fun r e => by cases e; exact ⟨_, hK, rfl⟩)
      refine ⟨.tuple #[.int .i64 0, .bool false], by simp [results, Try.results9, k8, k9, go_sem], by rw [HZ.out.1, HZ.out.2], hB.trans (belowK_b (w := w) (Nat.le_refl _) _ D _ _ (by have := B1.out.size; simp at hD; omega) hK rfl rfl)⟩
end Go.Proofs.Ytcocidlijdfmmaa.fWholeAt
