/- The values of a family at a number: the program's steps. -/
import Derived.Test.YtfmdbgpalldjoabFaV
import Derived.RegionTactic
import Derived.Deep.RegionWith
import Derived.Deep.RegionHeld3
import Derived.Deep.RegionLaw
import Derived.Deep.AppendLies
namespace Go.Proofs.Ytfmdbgpalldjoab.fa
open Go.RowKit Go.Fl Go.Fa Go.Proofs.Ytfmdbgpalldjoab.fls

/-- what an operation gives in a world -/
def rv (op : BinOp) (k : FloatKind) (x y : Nat) (w : World) : Nat := match floatBits op k x y with
  | some r => r
  | none => (Question.nanBits k x y).cut (w.tape w.drawn (.nanBits k x y))
def rn (op : BinOp) (k : FloatKind) (x y : Nat) : Nat := match floatBits op k x y with
  | some _ => 0
  | none => 1
theorem rv_sm (op : BinOp) (k : FloatKind) (x y : Nat) (w : World) : Sm k (rv op k x y w) (ar op k x y) := by
  unfold rv ar
  cases h : floatBits op k x y with
  | some r => exact .inl rfl
  | none => exact .inr ⟨cut_nan k _ _ (.inl ⟨x, y, rfl⟩), qn_isN k⟩
theorem run_rv {P : Program} (op : BinOp) (hop : op = .add ∨ op = .sub ∨ op = .mul ∨ op = .quo) (k : FloatKind) (x y : Nat) (t : TypeId) (w : World) :
    (binOp op t (.float k x) (.float k y)).run P w = .ok (.float k (rv op k x y w)) (w.drewN (rn op k x y)) := by
  unfold rv rn
  cases h : floatBits op k x y with
  | some r => exact run_float_arith w op t k x y r h
  | none =>
    unfold floatBits at h
    rcases hop with rfl | rfl | rfl | rfl <;> simp only at h <;> simp [binOp, Op.floatArith, h, Question.forced] <;> rfl

theorem factor_any (a b c x : Nat) (w : World) : Calls Try.prog 34 #[.agg #[.float .f32 a, .float .f32 b, .float .f32 c], .float .f32 x] w fun e w' => ∃ r, e = .returned (.float .f32 r) ∧ Sm .f32 r (ar .add .f32 (ar .mul .f32 a x) b) ∧ Below w.heap.size w w' := by
  have g0 := heap_alloc_new w (.cells #[.float .f32 a, .float .f32 b, .float .f32 c] 57 (0, 0))
  have c1 : ∀ q, ((w.alloc (.cells #[.float .f32 a, .float .f32 b, .float .f32 c] 57)).drewN q).cell? ⟨w.heap.size, 1, none⟩ = some (.float .f32 b) := fun q => (show (w.alloc (.cells #[.float .f32 a, .float .f32 b, .float .f32 c] 57)).cell? ⟨w.heap.size, 1, none⟩ = _ by rw [cell_of_row _ _ 1 _ _ _ g0]; rfl)
  have B0 : Hid (Below w.heap.size w (w.alloc (.cells #[.float .f32 a, .float .f32 b, .float .f32 c] 57))) := (Below.refl _ _).alloc (Nat.le_refl _) _
  clear g0
  go_enter Try.func34, Try.ntmps34
  go_wp2_with (first | (refine wpList_ar rfl .mul 31 31 _ _ rfl (by simp) .f32 _ _ rfl rfl ?_; intro s n3 hm hwm) | (refine wpList_ar rfl .add 31 31 _ _ rfl (by simp) .f32 _ _ rfl rfl ?_; intro s n4 hs hws))
  go_ret
  refine ⟨_, rfl, ?_, Go.Pst.below_drewN B0.out _⟩
  have h := hs
  rw [ar_congr (by assumption : Sm .f32 _ (ar .mul .f32 a x)) (Sm.refl _ _)] at h
  exact h

/-- a number of a list, 0 if it is missing -/
def tm (f : Nat → Nat) (n : Nat) (k : Int) : Nat := if 0 ≤ k ∧ k < n then f k.toNat else 0
theorem term_any {v : Value} {n : Nat} {f : Nat → Nat} {w : World} (h : Fls w v n f) (k : Int) (hk : -1000 ≤ k ∧ k ≤ 1000) : Calls Try.prog 54 #[v, .int .i64 k] w fun e w' => e = .returned (.float .f32 (tm f n k)) ∧ w' = w := by
  obtain ⟨ao, cap, rfl, hn, hc⟩ := h
  by_cases h0 : k < 0
  · have HT : Hid (tm f n k = 0) := if_neg (by omega)
    clear hc
    go_enter Try.func54, Try.ntmps54
    go_wp2
    go_ret
    exact ⟨by rw [HT.out]; rfl, rfl⟩
  · by_cases h1 : (n : Int) ≤ k
    · have HT : Hid (tm f n k = 0) := if_neg (by omega)
      clear hc
      go_enter Try.func54, Try.ntmps54
      go_wp2
      go_ret
      exact ⟨by rw [HT.out]; rfl, rfl⟩
    · obtain ⟨j, rfl⟩ : ∃ j : Nat, k = j := ⟨k.toNat, by omega⟩
      have HT : Hid (tm f n j = f j) := by show _ = _; unfold tm; rw [if_pos (by omega), Int.toNat_natCast]
      obtain ⟨b, off, rfl, _, hcell⟩ := hc (by omega)
      have e1 : w.cell? ⟨b, off + j, none⟩ = some (.float .f32 (f j)) := hcell j (by omega)
      clear hc hcell
      generalize f j = z at *
      go_enter Try.func54, Try.ntmps54
      go_wp2
      go_ret
      exact ⟨by rw [HT.out]; rfl, rfl⟩

theorem own_below {w w' : World} {B e g n cap : Nat} {xs : List Value} (h : w.ownsRow B e 1 (.slice (some ⟨g, 0, none⟩) n cap) n xs) (hb : Below w.heap.size w w') : w'.ownsRow B e 1 (.slice (some ⟨g, 0, none⟩) n cap) n xs := by
  refine ⟨h.1, ?_⟩
  rcases h.2 with ⟨h', h0⟩ | ⟨g', cap', cur, h', hB, hg, hr⟩
  · exact .inl ⟨h', h0⟩
  · exact .inr ⟨g', cap', cur, h', hB, (hb.block g' (Array.getElem?_eq_some_iff.1 hg).1).trans hg, hr⟩
theorem fls_own {w : World} {B g n cap : Nat} {L : List Value} {F : Nat → Nat} (hn : n ≤ 1000) (ho : w.ownsRow B 31 1 (.slice (some ⟨g, 0, none⟩) n cap) n L) (hl : FL L n F) : ∃ f, Fls w (.slice (some ⟨g, 0, none⟩) n cap) n f ∧ ∀ k, k < n → Sm .f32 (f k) (F k) := by
  obtain ⟨f, h1, h2⟩ := hl.get
  exact ⟨f, Fls.of_own (by omega) h1 ho, h2⟩

end Go.Proofs.Ytfmdbgpalldjoab.fa
