/- The point of the unit circle: what both walks turn on. -/
import Derived.Test.YtclogbnecgfndabSinW
import Derived.Test.YtclogbnecgfndabNanW
import Derived.Test.YtclogbnecgfndabFinW
import Derived.Test.YtclogbnecgfndabPh
import Derived.Lib.Hide
namespace Go.Proofs.Ytclogbnecgfndab.ph
open Go.RowKit Go.Fl Go.Proofs.Ytclogbnecgfndab.abs Go.Proofs.Ytclogbnecgfndab.nan Go.Proofs.Ytclogbnecgfndab.fin Go.Proofs.Ytclogbnecgfndab.sin

/-- what hands back a complex number that is the same -/
def CPost (u v : Nat) (w : World) (e : Ending) (w' : World) : Prop := ∃ r1 r2 n, e = .returned (.complex .f32 r1 r2) ∧ w' = w.drewN n ∧ Sm .f32 r1 u ∧ Sm .f32 r2 v

/-- the parts, by the quarters -/
def phA (Q S C : Nat) : Nat := if Q = 1 then ar .sub .f64 0 S else if Q = 2 then ar .sub .f64 0 C else if Q = 3 then S else C
def phB (Q S C : Nat) : Nat := if Q = 1 then C else if Q = 2 then ar .sub .f64 0 S else if Q = 3 then ar .sub .f64 0 C else S

/-- all that both walks turn on, behind the quarters -/
structure Turn (P : Program) (f Q g c S C nS nC : Nat) : Prop where
  le : Q ≤ 4
  stop : FloatKind.f64.format.order (qk f Q) 4598175219545276416 = some .lt
  go : ∀ j, j < Q → geqq (qk f j) ∧ ∀ t w, (binOp .sub t (.float .f64 (qk f j)) (.float .f64 4598175219545276416)).run P w = .ok (.float .f64 (qk f (j + 1))) w
  hg : g = qk f Q
  sub : ∀ t w, (binOp .sub t (.float .f64 4598175219545276416) (.float .f64 g)).run P w = .ok (.float .f64 c) w
  ng : Nm g 1
  nc : Nm c 1
  eS : S = sinW g
  eC : C = sinW c
  rS : ∀ t w, (binOp .sub t (.float .f64 0) (.float .f64 S)).run P w = .ok (.float .f64 nS) w
  rC : ∀ t w, (binOp .sub t (.float .f64 0) (.float .f64 C)).run P w = .ok (.float .f64 nC) w
  enS : nS = ar .sub .f64 0 S
  enC : nC = ar .sub .f64 0 C
  fS : Fits .f64 .f32 S
  fC : Fits .f64 .f32 C
  fnS : Fits .f64 .f32 nS
  fnC : Fits .f64 .f32 nC

theorem nm_sin1 {y : Nat} (h : Nm y 1) : Nm (sinW y) 43 := by
  obtain ⟨s, m, p, hd, hw, _⟩ := small_one h
  have h1 := (nm_f1 (nm_fr hd hw)).2
  have h2 := (nm_f2 h1).2
  have h3 := (nm_f3 h2).2
  obtain ⟨z, u, hu, hs, _⟩ := sv_ops (P := default) h3
  exact nm_ngf hs _

theorem turn_of (P : Program) {f : Nat} (hf : Nm f 0) : ∃ Q g c S C nS nC, Turn P f Q g c S C nS nC := by
  obtain ⟨Q, h1, h2, h3, h4⟩ := qk_stop hf
  have h5 : Nm (ar .sub .f64 4598175219545276416 (qk f Q)) 1 := nm_sub nm_q25 h4 (by omega) (by omega) (by omega)
  have n1 := nm_sin1 (h4.mono (show (0 : Int) ≤ 1 by omega))
  have n2 := nm_sin1 h5
  have nz : Nm 0 43 := ⟨false, 0, -1074, by decide, .inl rfl⟩
  have n3 : Nm (ar .sub .f64 0 (sinW (qk f Q))) 44 := nm_sub nz n1 (by omega) (by omega) (by omega)
  have n4 : Nm (ar .sub .f64 0 (sinW (ar .sub .f64 4598175219545276416 (qk f Q)))) 44 := nm_sub nz n2 (by omega) (by omega) (by omega)
  exact ⟨Q, _, _, _, _, _, _, { le := h1, stop := h3, go := fun j hj => ⟨(h2 j hj).2, fun t w => run_nm (op := .sub) (h2 j hj).1 t w⟩, hg := rfl, sub := fun t w => run_nm h5 t w, ng := h4.mono (by omega), nc := h5, eS := rfl, eC := rfl, rS := fun t w => run_nm n3 t w, rC := fun t w => run_nm n4 t w, enS := rfl, enC := rfl, fS := ok_fits n1.ok (by omega), fC := ok_fits n2.ok (by omega), fnS := ok_fits n3.ok (by omega), fnC := ok_fits n4.ok (by omega) }⟩

end Go.Proofs.Ytclogbnecgfndab.ph
