/- The powers of e at all eighths from -8 to 8 are those of the table; so are the logarithms. -/
import Derived.Test.YtclogbnecgfndabPwA
namespace Go.Fl
open Ieee Go.Ie

/-- narrowed, where the language fixes it -/
def narrows (x r : Nat) : Bool := floatToFloatBits .f64 x .f32 == some r

set_option maxRecDepth 100000 in
theorem tab_e : ∀ k : Fin 129, narrows (exW (cv .f32 .f64 (xA k.val))) (eA k.val) = true := by
  decide +kernel
set_option maxRecDepth 100000 in
theorem tab_l : ∀ k : Fin 65, narrows (lgW (cv .f32 .f64 (eA (k.val + 32)))) (lA k.val) = true := by
  decide +kernel
end Go.Fl
