/- Of all pairs of eighths to 25: the tenths of the product are those of both, but for one. -/
import Derived.Test.YtclogbnecgfndabTenT
namespace Go.Fq
open Go.Fl
def pr (i j : Nat) : Bool := Nat.ble 1 (dg (8 * i)) && Nat.ble 1 (dg (8 * j)) && Nat.ble 1 (dg (i * j)) && Nat.ble (dg (8 * i) + dg (8 * j)) (dg (i * j) + 513) && Nat.ble (dg (i * j) + 511) (dg (8 * i) + dg (8 * j))
def prs (i : Nat) : Bool := allFrom (pr i) 1 200
set_option maxRecDepth 100000 in
theorem tenP : allFrom prs 1 200 = true := by decide +kernel
end Go.Fq
