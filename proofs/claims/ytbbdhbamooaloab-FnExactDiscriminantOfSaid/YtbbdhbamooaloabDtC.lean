/- Resultants: the program's rows one behind the other: slices.Grow, slices.Concat. -/
import Derived.Test.YtbbdhbamooaloabDtP
namespace Go.Proofs.Ytbbdhbamooaloab.res
open Go.RowKit Go.Pl Go.Proofs.Ytbbdhbamooaloab.wh

theorem grown_row (w : World) (N t : Nat) (hN : N ≤ 8) : ((w.alloc (.cells (Builtin.zeroCells #[.slice none 0 0] N ++ Builtin.zeroCells #[.slice none 0 0] ((Question.appendCap N 0 31).cut t - N)) 31)).drew).ownsRow w.heap.size 31 1 (.slice (some ⟨w.heap.size, 0, none⟩) 0 ((Question.appendCap N 0 31).cut t)) 0 [] := by
  have h1 : N ≤ (Question.appendCap N 0 31).cut t := by show N ≤ N + _; omega
  have h2 : (Question.appendCap N 0 31).cut t ≤ maxLen := by
    have := Nat.mod_lt t (show 0 < 2 ^ 63 - N by omega)
    show N + t % (2 ^ 63 - N) ≤ maxLen
    unfold maxLen
    omega
  refine ⟨rfl, .inr ⟨w.heap.size, _, _, rfl, Nat.le_refl _, heap_alloc_new w _, by omega, h2, ?_, by simp⟩⟩
  simp [Builtin.zeroCells]
  omega
set_option maxRecDepth 100000 in
theorem grow_any {N : Nat} {w : World} (h : 1 ≤ N ∧ N ≤ 8) : Calls Try.prog 66 #[.slice none 0 0, .int .i64 (N : Int)] w fun e w' => ∃ g cap, e = .returned (.slice (some ⟨g, 0, none⟩) 0 cap) ∧ w'.ownsRow w.heap.size 31 1 (.slice (some ⟨g, 0, none⟩) 0 cap) 0 [] ∧ Below w.heap.size w w' := by
  obtain ⟨i1, hi1, hy0, hy1, hy2⟩ := info_parts info_r
  have hN : N = 1 ∨ N = 2 ∨ N = 3 ∨ N = 4 ∨ N = 5 ∨ N = 6 ∨ N = 7 ∨ N = 8 := by omega
  clear h
  rcases hN with rfl | rfl | rfl | rfl | rfl | rfl | rfl | rfl
  all_goals
    go_enter Try.func66, Try.ntmps66
    go_wp2_with fail
    go_ret
    exact ⟨_, _, rfl, grown_row _ _ _ (by omega), (new1 _ _).drew⟩

theorem grow_anyz {N : Nat} (z : Int) (hz : z = (N : Int)) {w : World} (h : 1 ≤ N ∧ N ≤ 8) : Calls Try.prog 66 #[.slice none 0 0, .int .i64 z] w fun e w' => ∃ g cap, e = .returned (.slice (some ⟨g, 0, none⟩) 0 cap) ∧ w'.ownsRow w.heap.size 31 1 (.slice (some ⟨g, 0, none⟩) 0 cap) 0 [] ∧ Below w.heap.size w w' := by
  subst hz
  exact grow_any h
theorem row_cap {w : World} {base e g n c : Nat} {xs : List Value} (h : w.ownsRow base e 1 (.slice (some ⟨g, 0, none⟩) n c) n xs) : n ≤ c := by
  rcases h.2 with ⟨h', _⟩ | ⟨g1, cap, cur, hv, h1, h2, h3, _⟩
  · simp at h'
  · simp only [Value.slice.injEq, Option.some.injEq, Addr.mk.injEq, and_true, true_and] at hv
    omega
theorem RwV.one {w : World} {v : Value} {xs : List Value} {LL : List (List Int)} (h : RwV w v xs LL) : ∀ u ∈ xs, u.oneCell' = true := fun u hu => by
  obtain ⟨b, off, cap, h1, h2, h3, h4, h5, h6⟩ := h
  obtain ⟨k, hk⟩ := List.mem_iff_getElem?.1 hu
  have hkl := (List.getElem?_eq_some_iff.1 hk).1
  obtain ⟨ao, c, e⟩ := (h6 k u LL[k] hk (List.getElem?_eq_getElem (by omega))).shape
  rw [e]; rfl

set_option maxRecDepth 100000 in
set_option maxHeartbeats 4000000 in
theorem concat_any {vA vB : Value} {xA xB : List Value} {LA LB : List (List Int)} {c0 : Nat} {w : World} (cA : w.cell? ⟨c0, 0, none⟩ = some vA) (cB : w.cell? ⟨c0, 1, none⟩ = some vB) (hc0 : c0 < w.heap.size)
    (hA : RwV w vA xA LA) (hB : RwV w vB xB LB) (lA : 1 ≤ xA.length ∧ xA.length ≤ 4) (lB : 1 ≤ xB.length ∧ xB.length ≤ 4) :
    Calls Try.prog 46 #[.slice (some ⟨c0, 0, none⟩) 2 2] w fun e w' => ∃ v, e = .returned v ∧ RwV w' v (xA ++ xB) (LA ++ LB) ∧ Below w.heap.size w w' := by
  obtain ⟨i1, hi1, hy0, hy1, hy2⟩ := info_parts info_r
  have OA : Hid _ := hA.one
  have OB : Hid _ := hB.one
  have HA : Hid (RwV w vA xA LA) := hA
  have HB : Hid (RwV w vB xB LB) := hB
  obtain ⟨bA, fA, kA, rfl, qA, hkA, hlA, eA, rA⟩ := hA
  obtain ⟨bB, fB, kB, rfl, qB, hkB, hlB, eB, rB⟩ := hB
  obtain ⟨n, hn⟩ : ∃ n, xA.length = n := ⟨_, rfl⟩
  obtain ⟨m, hm⟩ : ∃ m, xB.length = m := ⟨_, rfl⟩
  have HN : Hid (xA.length = n) := hn
  have HM : Hid (xB.length = m) := hm
  rw [hn] at cA lA hkA HA
  rw [hm] at cB lB hkB HB
  have CA : Hid (∀ wr, Below w.heap.size w wr → wr.cell? ⟨c0, 0, none⟩ = some (.slice (some ⟨bA, fA, none⟩) n kA)) := fun wr b => (b.cell (p := ⟨c0, 0, none⟩) hc0).trans cA
  have CB : Hid (∀ wr, Below w.heap.size w wr → wr.cell? ⟨c0, 1, none⟩ = some (.slice (some ⟨bB, fB, none⟩) m kB)) := fun wr b => (b.cell (p := ⟨c0, 1, none⟩) hc0).trans cB
  have EA : Hid (∀ wr, Below w.heap.size w wr → ∀ j u, xA[j]? = some u → wr.cell? ((⟨bA, fA, none⟩ : Addr).add j) = some u) := fun wr b j u hu => by rw [Addr.add_lit]; exact (b.cell (p := ⟨bA, fA + j, none⟩) qA).trans (eA j u hu)
  have EB : Hid (∀ wr, Below w.heap.size w wr → ∀ j u, xB[j]? = some u → wr.cell? ((⟨bB, fB, none⟩ : Addr).add j) = some u) := fun wr b j u hu => by rw [Addr.add_lit]; exact (b.cell (p := ⟨bB, fB + j, none⟩) qB).trans (eB j u hu)
  clear eA eB rA rB qA qB hn hm
  go_enter Try.func46, Try.ntmps46
  go_wp2_with fail
  go_loopw [3, 11] (fun s i wr => ((s = .int .i64 0 ∧ i = .int .i64 0) ∨ (s = .int .i64 (n : Int) ∧ i = .int .i64 1) ∨ (s = .int .i64 ((n : Int) + m) ∧ i = .int .i64 2)) ∧ wr = w) (fun _ i _ => 2 - (intOf i).toNat)
  case atStart => exact ⟨.inl ⟨rfl, rfl⟩, rfl⟩
  case round =>
    obtain ⟨hh, rfl⟩ := hrel
    rcases hh with ⟨rfl, rfl⟩ | ⟨rfl, rfl⟩ | ⟨rfl, rfl⟩
    · go_wp2_with fail
      go_roundw
      case rel => exact ⟨.inr (.inl ⟨by go_num, rfl⟩), by trivial⟩
      case measure => simp [intOf]
    · go_wp2_with fail
      go_roundw
      case rel => exact ⟨.inr (.inr ⟨by go_num, rfl⟩), by trivial⟩
      case measure => simp [intOf]
    · have cnm : (n : Int) + m = ((n + m : Nat) : Int) := by omega
      have hC := grow_anyz (N := n + m) ((n : Int) + m) cnm (w := wr) ⟨by omega, by omega⟩
      clear cnm
      go_wp2_with fail
      go_at_call 66
      (with_reducible refine hC.mono ?_)
      clear hC
      rintro e w1 ⟨g, cap, rfl, hr1, hb1⟩
      have R1 : Hid (w1.ownsRow wr.heap.size 31 1 (.slice (some ⟨g, 0, none⟩) 0 cap) 0 []) := hr1
      have B1 : Hid (Below wr.heap.size wr w1) := hb1
      clear hr1 hb1
      obtain ⟨w, hw⟩ : ∃ x, x = wr := ⟨_, rfl⟩
      subst hw
      go_wp2_with fail
      go_loopw [6, 27] (fun s i wr => ∃ g cap k xs, s = .slice (some ⟨g, 0, none⟩) k cap ∧ Hid (w.heap.size ≤ g) ∧ Hid (wr.ownsRow w.heap.size 31 1 (.slice (some ⟨g, 0, none⟩) k cap) k xs) ∧ ((i = .int .i64 0 ∧ 0 = k ∧ [] = xs) ∨ (i = .int .i64 1 ∧ n = k ∧ xA = xs) ∨ (i = .int .i64 2 ∧ n + m = k ∧ xA ++ xB = xs)) ∧ Hid (Below w.heap.size w wr)) (fun _ i _ => 2 - (intOf i).toNat)
      case atStart => exact ⟨g, cap, 0, [], rfl, (row_lt R1.out).2, R1, .inl ⟨rfl, rfl, rfl⟩, B1⟩
      case round =>
        obtain ⟨g, cap, k, xs, rfl, HG, hr, hcs, hbw⟩ := hrel
        have ca := CA.out _ hbw.out
        have cb := CB.out _ hbw.out
        have HS : Hid (w.heap.size ≤ wr.heap.size) := hbw.out.size
        clear R1 B1
        rcases hcs with ⟨rfl, rfl, rfl⟩ | ⟨rfl, rfl, rfl⟩ | ⟨rfl, rfl, rfl⟩
        · go_wp2_with (first
        | (at_builtin; refine wpList_append_own _ rfl (.tmp 31) (.tmp 32) 74 rfl w.heap.size 31 i1 (.slice none 0 0) 1 24 Try.underlying74 hi1 hy0 hy1 hy2 rfl (by decide) _ 0 [] rfl hr.out ⟨bA, fA, none⟩ n kA xA rfl (by have := HN.out; omega) (EA.out _ hbw.out) OA.out (by unfold maxLen; omega) (by omega) HS.out ?_; intro v1 wa hown1 hgrow1 hnil; rw [Nat.zero_add] at hown1; obtain ⟨g', cap', rfl, hg'⟩ := own_some hown1 (fun e => by have t : Value.slice (some ⟨g, 0, none⟩) 0 cap = Value.slice none 0 0 := (hnil.1 e).1; simp at t); have BA : Hid (Below w.heap.size w wa) := hbw.out.grown hgrow1 HS.out (by intro j hj; have hj' : some g = some j := hj; injection hj' with hj'; have := HG.out; omega); have RA2 : Hid (wa.ownsRow w.heap.size 31 1 (.slice (some ⟨g', 0, none⟩) n cap') n xA) := hown1; have HG2 : Hid (w.heap.size ≤ g') := hg'; clear hown1 hgrow1 hnil hg'))
          go_roundw
          case rel => exact ⟨g', cap', n, xA, rfl, HG2, RA2, .inr (.inl ⟨rfl, rfl, rfl⟩), BA⟩
          case measure => simp [intOf]
        · go_wp2_with (first
        | (at_builtin; refine wpList_append_own _ rfl (.tmp 31) (.tmp 32) 74 rfl w.heap.size 31 i1 (.slice none 0 0) 1 24 Try.underlying74 hi1 hy0 hy1 hy2 rfl (by decide) _ n xA rfl hr.out ⟨bB, fB, none⟩ m kB xB rfl (by have := HM.out; omega) (EB.out _ hbw.out) OB.out (by unfold maxLen; omega) (by omega) HS.out ?_; intro v1 wa hown1 hgrow1 hnil; obtain ⟨g', cap', rfl, hg'⟩ := own_some hown1 (fun e => by have t : Value.slice (some ⟨g, 0, none⟩) n cap = Value.slice none 0 0 := (hnil.1 e).1; simp at t); have BA : Hid (Below w.heap.size w wa) := hbw.out.grown hgrow1 HS.out (by intro j hj; have hj' : some g = some j := hj; injection hj' with hj'; have := HG.out; omega); have RA2 : Hid (wa.ownsRow w.heap.size 31 1 (.slice (some ⟨g', 0, none⟩) (n + m) cap') (n + m) (xA ++ xB)) := hown1; have HG2 : Hid (w.heap.size ≤ g') := hg'; clear hown1 hgrow1 hnil hg'))
          go_roundw
          case rel => exact ⟨g', cap', _, _, rfl, HG2, RA2, .inr (.inr ⟨rfl, rfl, rfl⟩), BA⟩
          case measure => simp [intOf]
        · go_wp2_with fail
          go_ret
          have hl : (xA ++ xB).length = n + m := by rw [List.length_append, HN.out, HM.out]
          obtain ⟨_, _, _, _, _, _, hlA, _, rA⟩ := HA.out
          obtain ⟨_, _, _, _, _, _, hlB, _, rB⟩ := HB.out
          refine ⟨_, rfl, ⟨g, 0, cap, by rw [hl]; rfl, (row_lt hr.out).1, by rw [hl]; exact row_cap hr.out, by rw [List.length_append, List.length_append]; omega, fun j s hj => ?_, fun j s L hj hL => ?_⟩, hbw.out⟩
          · rw [Nat.zero_add]
            exact (hr.out.cellAt j (by have := (List.getElem?_eq_some_iff.1 hj).1; omega)).trans hj
          · by_cases h : j < xA.length
            · rw [List.getElem?_append_left h] at hj
              rw [List.getElem?_append_left (by omega)] at hL
              exact ((rA j s L hj hL).below hbw.out (Nat.le_refl _)).up hbw.out.size
            · rw [List.getElem?_append_right (by omega)] at hj
              rw [List.getElem?_append_right (by omega), hlA] at hL
              exact ((rB _ s L hj hL).below hbw.out (Nat.le_refl _)).up hbw.out.size
end Go.Proofs.Ytbbdhbamooaloab.res

