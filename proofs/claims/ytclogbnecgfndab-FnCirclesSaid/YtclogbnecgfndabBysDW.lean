/- What is drawn from a slice of bytes is the same however many draws the world has made. -/
import Derived.Test.YtclogbnecgfndabBysW
namespace Go.Proofs.Ytclogbnecgfndab.bys
open Go.RowKit

theorem at_all {v : Value} {w : World} (hv : Bys w v) (i n : Int) (hi : 0 ≤ i) (hi2 : i ≤ 100) (hn : 1 < n) (hn2 : n ≤ 256) :
    ∃ r : Int, 0 ≤ r ∧ r < n ∧ ∀ q, Calls Try.prog 6 #[v, .int .i64 i, .int .i64 n] (w.drewN q) fun e w' => e = .returned (.int .i64 r) ∧ w.drewN q = w' := by
  have far : ∀ (ao : Option Addr) (len cap : Nat) (w : World), (len : Int) ≤ i → Calls Try.prog 6 #[.slice ao len cap, .int .i64 i, .int .i64 n] w fun e w' => e = .returned (.int .i64 ((i * 37 + 11) % n)) ∧ w = w' := by
    intro ao len cap w hlen
    have hb := mod_lt (a := i * 37 + 11) (n := n) (by omega)
    have hn0 : n ≠ 0 := by omega
    go_enter Try.func6, Try.ntmps6
    go_wp2
    go_ret
    exact ⟨rfl, rfl⟩
  rcases hv with ⟨ao, cap, rfl⟩ | ⟨b, off, len, cap, z, rfl, hl, h0, hcell⟩
  · have hb := mod_lt (a := i * 37 + 11) (n := n) (by omega)
    exact ⟨_, hb.1, hb.2, fun q => far ao 0 cap _ (by omega)⟩
  · by_cases hlt : i < len
    · obtain ⟨k, rfl⟩ : ∃ k : Nat, i = k := ⟨i.toNat, by omega⟩
      obtain ⟨hc, hz0, hz1⟩ := hcell k (by omega)
      have hb := mod_lt (a := z k) (n := n) (by omega)
      refine ⟨_, hb.1, hb.2, fun q => ?_⟩
      have hc' : (w.drewN q).cell? ⟨b, off + k, none⟩ = some (.int .u8 (z k)) := hc
      have hn0 : n ≠ 0 := by omega
      clear far hcell hc
      generalize w.drewN q = w1 at *
      go_enter Try.func6, Try.ntmps6
      go_wp2
      go_ret
      exact ⟨rfl, rfl⟩
    · have hb := mod_lt (a := i * 37 + 11) (n := n) (by omega)
      exact ⟨_, hb.1, hb.2, fun q => far _ len cap _ (by omega)⟩
end Go.Proofs.Ytclogbnecgfndab.bys
