/- A slice of bytes that came in, and the numbers that the laws draw from it. -/
import Derived.Test.YtfhcfeafohcjpaaRows
import Derived.WalkKit
import Derived.WalkLawsBesides
import Derived.Deep.Draws
import Derived.ChangeSlices
namespace Go.Proofs.Ytfhcfeafohcjpaa.bys
open Go.RowKit

/-- a slice of bytes: without elements, or its cells hold bytes -/
def Bys (w : World) (v : Value) : Prop :=
  (∃ ao cap, v = .slice ao 0 cap) ∨
  ∃ (b off len cap : Nat) (z : Nat → Int), v = .slice (some ⟨b, off, none⟩) len cap ∧ len ≤ 9223372036854775807 ∧ 0 < len ∧ ∀ k, k < len → w.cell? ⟨b, off + k, none⟩ = some (.int .u8 (z k)) ∧ 0 ≤ z k ∧ z k ≤ 255

theorem long_any {c m : Value} {w : World} (hc : Bys w c) (hm : Bys w m) : ∃ q : Bool, ∀ w, Calls Try.prog 18 #[c, m] w fun e w' => e = .returned (.bool q) ∧ w = w' := by
  obtain ⟨a1, n1, c1, rfl, h1⟩ : ∃ a n cap, c = .slice a n cap ∧ n ≤ 9223372036854775807 := by
    rcases hc with ⟨ao, cap, rfl⟩ | ⟨b, off, len, cap, z, rfl, h, _⟩
    · exact ⟨_, _, _, rfl, by omega⟩
    · exact ⟨_, _, _, rfl, h⟩
  obtain ⟨a2, n2, c2, rfl, h2⟩ : ∃ a n cap, m = .slice a n cap ∧ n ≤ 9223372036854775807 := by
    rcases hm with ⟨ao, cap, rfl⟩ | ⟨b, off, len, cap, z, rfl, h, _⟩
    · exact ⟨_, _, _, rfl, by omega⟩
    · exact ⟨_, _, _, rfl, h⟩
  clear hc hm
  by_cases g1 : n1 ≤ 1048576
  · by_cases g2 : n2 ≤ 1048576
    · refine ⟨false, fun w => ?_⟩
      go_enter Try.func18, Try.ntmps18
      go_wp2
      go_ret
      exact ⟨by simp; omega, rfl⟩
    · refine ⟨true, fun w => ?_⟩
      go_enter Try.func18, Try.ntmps18
      go_wp2
      go_ret
      exact ⟨by simp; omega, rfl⟩
  · refine ⟨true, fun w => ?_⟩
    go_enter Try.func18, Try.ntmps18
    go_wp2
    go_ret
    exact ⟨rfl, rfl⟩

theorem mod_lt {a n : Int} (hn : 0 < n) : 0 ≤ a % n ∧ a % n < n := ⟨Int.emod_nonneg _ (by omega), Int.emod_lt_of_pos _ hn⟩

theorem at_any {v : Value} {w : World} (hv : Bys w v) (i n : Int) (hi : 0 ≤ i) (hi2 : i ≤ 100) (hn : 1 < n) (hn2 : n ≤ 256) :
    ∃ r : Int, 0 ≤ r ∧ r < n ∧ Calls Try.prog 19 #[v, .int .i64 i, .int .i64 n] w fun e w' => e = .returned (.int .i64 r) ∧ w = w' := by
  have far : ∀ (ao : Option Addr) (len cap : Nat), (len : Int) ≤ i → Calls Try.prog 19 #[.slice ao len cap, .int .i64 i, .int .i64 n] w fun e w' => e = .returned (.int .i64 ((i * 37 + 11) % n)) ∧ w = w' := by
    intro ao len cap hlen
    have hb := mod_lt (a := i * 37 + 11) (n := n) (by omega)
    have hn0 : n ≠ 0 := by omega
    go_enter Try.func19, Try.ntmps19
    go_wp2
    go_ret
    exact ⟨rfl, rfl⟩
  rcases hv with ⟨ao, cap, rfl⟩ | ⟨b, off, len, cap, z, rfl, hl, h0, hcell⟩
  · have hb := mod_lt (a := i * 37 + 11) (n := n) (by omega)
    exact ⟨_, hb.1, hb.2, far ao 0 cap (by omega)⟩
  · by_cases hlt : i < len
    · obtain ⟨k, rfl⟩ : ∃ k : Nat, i = k := ⟨i.toNat, by omega⟩
      obtain ⟨hc, hz0, hz1⟩ := hcell k (by omega)
      have hb := mod_lt (a := z k) (n := n) (by omega)
      refine ⟨_, hb.1, hb.2, ?_⟩
      have hn0 : n ≠ 0 := by omega
      clear far hcell
      go_enter Try.func19, Try.ntmps19
      go_wp2
      go_ret
      exact ⟨rfl, rfl⟩
    · have hb := mod_lt (a := i * 37 + 11) (n := n) (by omega)
      exact ⟨_, hb.1, hb.2, far _ len cap (by omega)⟩

theorem Bys.same {w w' : World} {v : Value} (h : Bys w v) (hb : ∀ a, w'.cell? a = w.cell? a) : Bys w' v := by
  rcases h with ⟨ao, cap, rfl⟩ | ⟨b, off, len, cap, z, rfl, hl, h0, hcell⟩
  · exact .inl ⟨_, _, rfl⟩
  · exact .inr ⟨b, off, len, cap, z, rfl, hl, h0, fun k hk => by rw [hb]; exact hcell k hk⟩
end Go.Proofs.Ytfhcfeafohcjpaa.bys
