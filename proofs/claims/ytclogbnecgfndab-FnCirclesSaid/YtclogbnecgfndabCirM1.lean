/- Products of points of the circle are nearly the points of the sums, part 1. -/
import Derived.Test.YtclogbnecgfndabCirT
namespace Go.Cr
set_option maxRecDepth 100000 in
theorem c6_1_0 : ∀ r : Fin 4, ∀ s : Fin 64, c6 (0 + r.val) s.val = true := by decide +kernel
set_option maxRecDepth 100000 in
theorem c6_1_1 : ∀ r : Fin 4, ∀ s : Fin 64, c6 (4 + r.val) s.val = true := by decide +kernel
set_option maxRecDepth 100000 in
theorem c6_1_2 : ∀ r : Fin 4, ∀ s : Fin 64, c6 (8 + r.val) s.val = true := by decide +kernel
set_option maxRecDepth 100000 in
theorem c6_1_3 : ∀ r : Fin 4, ∀ s : Fin 64, c6 (12 + r.val) s.val = true := by decide +kernel
set_option maxRecDepth 100000 in
theorem c6_1_4 : ∀ r : Fin 4, ∀ s : Fin 64, c6 (16 + r.val) s.val = true := by decide +kernel
set_option maxRecDepth 100000 in
theorem c6_1_5 : ∀ r : Fin 4, ∀ s : Fin 64, c6 (20 + r.val) s.val = true := by decide +kernel
set_option maxRecDepth 100000 in
theorem c6_1_6 : ∀ r : Fin 4, ∀ s : Fin 64, c6 (24 + r.val) s.val = true := by decide +kernel
set_option maxRecDepth 100000 in
theorem c6_1_7 : ∀ r : Fin 4, ∀ s : Fin 64, c6 (28 + r.val) s.val = true := by decide +kernel
theorem c6_1 (r s : Nat) (h1 : 0 ≤ r) (h2 : r < 32) (hs : s < 64) : c6 r s = true := by
  by_cases g0 : r < 4
  · have h := c6_1_0 ⟨r - 0, by omega⟩ ⟨s, hs⟩
    have e : 0 + (r - 0) = r := by omega
    simpa only [e] using h
  by_cases g1 : r < 8
  · have h := c6_1_1 ⟨r - 4, by omega⟩ ⟨s, hs⟩
    have e : 4 + (r - 4) = r := by omega
    simpa only [e] using h
  by_cases g2 : r < 12
  · have h := c6_1_2 ⟨r - 8, by omega⟩ ⟨s, hs⟩
    have e : 8 + (r - 8) = r := by omega
    simpa only [e] using h
  by_cases g3 : r < 16
  · have h := c6_1_3 ⟨r - 12, by omega⟩ ⟨s, hs⟩
    have e : 12 + (r - 12) = r := by omega
    simpa only [e] using h
  by_cases g4 : r < 20
  · have h := c6_1_4 ⟨r - 16, by omega⟩ ⟨s, hs⟩
    have e : 16 + (r - 16) = r := by omega
    simpa only [e] using h
  by_cases g5 : r < 24
  · have h := c6_1_5 ⟨r - 20, by omega⟩ ⟨s, hs⟩
    have e : 20 + (r - 20) = r := by omega
    simpa only [e] using h
  by_cases g6 : r < 28
  · have h := c6_1_6 ⟨r - 24, by omega⟩ ⟨s, hs⟩
    have e : 24 + (r - 24) = r := by omega
    simpa only [e] using h
  have h := c6_1_7 ⟨r - 28, by omega⟩ ⟨s, hs⟩
  have e : 28 + (r - 28) = r := by omega
  simpa only [e] using h
end Go.Cr
