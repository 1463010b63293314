/- SquareFree: what both sides answer, in the form that the law's walk takes. -/
import Derived.Test.YtbbdhbamooaloaaSqI
import Derived.Test.YtbbdhbamooaloaaSqS
namespace Go.Proofs.Ytbbdhbamooaloaa.wh
open Go.RowKit
/-- the answer of a list of wholes and a Bool -/
def AnsWs (R : List (List Int)) (ok : Bool) (w : World) (e : Ending) (w' : World) : Prop := ∃ v, e = .returned (.tuple #[v, .bool ok]) ∧ OwWs w' w.heap.size w'.heap.size v R ∧ Below w.heap.size w w'
theorem tot_of : ∀ (n : Nat) (O : List (List Int)), (∀ L ∈ O, L.length ≤ n) → tot O ≤ n * O.length
  | _, [], _ => by simp [tot]
  | n, L :: O, h => by
    have h1 := h L (by simp)
    have h2 := tot_of n O fun M hM => h M (by simp [hM])
    have e : tot (L :: O) = L.length + tot O := by simp [tot]
    rw [e, List.length_cons, Nat.mul_succ]
    omega
end Go.Proofs.Ytbbdhbamooaloaa.wh
namespace Go.Proofs.Ytbbdhbamooaloaa.fSquareFree
open Go.RowKit Go.Pl Go.Proofs.Ytbbdhbamooaloaa.wh
def R (A : List Int) : List (List Int) := (ans A).getD []
def ok (A : List Int) : Bool := (ans A).isSome
theorem len (A : List Int) : tot (R A) ≤ 1000 := by
  unfold R
  cases h : ans A with
  | none => simp [tot]
  | some O =>
    obtain ⟨h1, h2⟩ := ans_inv h
    have h3 := tot_of 17 O fun L hL => (h1 L hL).le
    show tot O ≤ 1000
    omega
end Go.Proofs.Ytbbdhbamooaloaa.fSquareFree
