/- The points of the circle at 64ths of turns, and their angles, are those of the tables. -/
import Derived.Test.YtclogbnecgfndabCirT
import Derived.Test.YtclogbnecgfndabPhT
import Derived.Test.YtclogbnecgfndabAngIW
namespace Go.Cr
open Ieee Go.Ie Go.Fl Go.Proofs.Ytclogbnecgfndab.ph Go.Proofs.Ytclogbnecgfndab.fnExactAngleTurnsW

def yk (k : Nat) : Nat := ar .quo .f64 (floatOfInt .f64 ((k : Int) - 256)) 4634204016564240384
def c1 (k : Nat) : Bool := okB .quo .f64 (floatOfInt .f64 ((k : Int) - 256)) 4634204016564240384 && (match double.read (yk k) with | .number _ m p => Nat.blt (whole m p) 4503599627370496 | _ => false) &&
  (double.order (absN (yk k)) 4841369599423283200 == some .lt) && Nat.beq (partW (yk k)) (fA (k % 64)) && Nat.ble (yk k) 18446744073709551615
set_option maxRecDepth 100000 in
theorem c1_ok : ∀ k : Fin 511, c1 k.val = true := by decide +kernel

def gA (r : Nat) : Nat := qk (fA r) (qA r)
def sA (r : Nat) : Nat := sinW (gA r)
def cA (r : Nat) : Nat := sinW (ar .sub .f64 4598175219545276416 (gA r))
def c2 (r : Nat) : Bool := (double.order (gA r) 4598175219545276416 == some .lt) && (List.range (qA r)).all (fun j => !(double.order (qk (fA r) j) 4598175219545276416 == some .lt)) &&
  toB .f64 .f32 (phA (qA r) (sA r) (cA r)) (uA r) && toB .f64 .f32 (phB (qA r) (sA r) (cA r)) (vA r)
set_option maxRecDepth 100000 in
theorem c2_ok : ∀ r : Fin 64, c2 r.val = true := by decide +kernel

def isNum (b : Nat) : Bool := match single.read b with | .number _ _ _ => true | _ => false
def c3 (r : Nat) : Bool := (match single.read (vA r), single.read (uA r) with | .number _ m _, .number _ n _ => !(Nat.beq m 0 && Nat.beq n 0) | _, _ => false) && toB .f64 .f32 (angV (vA r) (uA r)) (aA r) && isNum (uA r) && isNum (vA r) && isNum (aA r)
set_option maxRecDepth 100000 in
theorem c3_ok : ∀ r : Fin 64, c3 r.val = true := by decide +kernel
end Go.Cr
