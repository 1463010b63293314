/- Products of points of the circle are nearly the points of the sums, part 2. -/
import Derived.Test.YtclogbnecgfndabCirT
namespace Go.Cr
set_option maxRecDepth 100000 in
theorem c6_2_0 : ∀ r : Fin 4, ∀ s : Fin 64, c6 (32 + r.val) s.val = true := by decide +kernel
set_option maxRecDepth 100000 in
theorem c6_2_1 : ∀ r : Fin 4, ∀ s : Fin 64, c6 (36 + r.val) s.val = true := by decide +kernel
set_option maxRecDepth 100000 in
theorem c6_2_2 : ∀ r : Fin 4, ∀ s : Fin 64, c6 (40 + r.val) s.val = true := by decide +kernel
set_option maxRecDepth 100000 in
theorem c6_2_3 : ∀ r : Fin 4, ∀ s : Fin 64, c6 (44 + r.val) s.val = true := by decide +kernel
set_option maxRecDepth 100000 in
theorem c6_2_4 : ∀ r : Fin 4, ∀ s : Fin 64, c6 (48 + r.val) s.val = true := by decide +kernel
set_option maxRecDepth 100000 in
theorem c6_2_5 : ∀ r : Fin 4, ∀ s : Fin 64, c6 (52 + r.val) s.val = true := by decide +kernel
set_option maxRecDepth 100000 in
theorem c6_2_6 : ∀ r : Fin 4, ∀ s : Fin 64, c6 (56 + r.val) s.val = true := by decide +kernel
set_option maxRecDepth 100000 in
theorem c6_2_7 : ∀ r : Fin 4, ∀ s : Fin 64, c6 (60 + r.val) s.val = true := by decide +kernel
theorem c6_2 (r s : Nat) (h1 : 32 ≤ r) (h2 : r < 64) (hs : s < 64) : c6 r s = true := by
  by_cases g0 : r < 36
  · have h := c6_2_0 ⟨r - 32, by omega⟩ ⟨s, hs⟩
    have e : 32 + (r - 32) = r := by omega
    simpa only [e] using h
  by_cases g1 : r < 40
  · have h := c6_2_1 ⟨r - 36, by omega⟩ ⟨s, hs⟩
    have e : 36 + (r - 36) = r := by omega
    simpa only [e] using h
  by_cases g2 : r < 44
  · have h := c6_2_2 ⟨r - 40, by omega⟩ ⟨s, hs⟩
    have e : 40 + (r - 40) = r := by omega
    simpa only [e] using h
  by_cases g3 : r < 48
  · have h := c6_2_3 ⟨r - 44, by omega⟩ ⟨s, hs⟩
    have e : 44 + (r - 44) = r := by omega
    simpa only [e] using h
  by_cases g4 : r < 52
  · have h := c6_2_4 ⟨r - 48, by omega⟩ ⟨s, hs⟩
    have e : 48 + (r - 48) = r := by omega
    simpa only [e] using h
  by_cases g5 : r < 56
  · have h := c6_2_5 ⟨r - 52, by omega⟩ ⟨s, hs⟩
    have e : 52 + (r - 52) = r := by omega
    simpa only [e] using h
  by_cases g6 : r < 60
  · have h := c6_2_6 ⟨r - 56, by omega⟩ ⟨s, hs⟩
    have e : 56 + (r - 56) = r := by omega
    simpa only [e] using h
  have h := c6_2_7 ⟨r - 60, by omega⟩ ⟨s, hs⟩
  have e : 60 + (r - 60) = r := by omega
  simpa only [e] using h
end Go.Cr
