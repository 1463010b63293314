/- A region that copies three wholes, calls a function of them that answers two wholes, and makes two variables, in any order: what holds, step by step. -/
import Derived.Test.YtfhcfeafohcjpaaW3
import Derived.Test.YtfhcfeafohcjpaaSt
import Derived.Test.YtfhcfeafohcjpaaInR
namespace Go.Proofs.Ytfhcfeafohcjpaa.lpr
open Go.RowKit Go.Proofs.Ytfhcfeafohcjpaa.wh Go.Proofs.Ytfhcfeafohcjpaa.inv

structure G (W : World) (s0 s1 s2 : Value) (A0 A1 A2 : List Int) (a3 : Int) (R R2 : List Int) (ok : Bool) (bA bB lo hi : Nat) (s sb : Value) (l : Nat → Bool) (x : Nat → Value) (w : World) : Prop where
  bw : Below W.heap.size W w
  f0 : l 0 = true → x 0 = .agg #[s0]
  f2 : l 2 = true → x 2 = .agg #[s1]
  f4 : l 4 = true → x 4 = .agg #[s2]
  f6 : l 6 = true → x 6 = .int .i64 a3
  f1 : l 1 = true → l 7 = false → Wh w (x 1) A0
  f3 : l 3 = true → l 7 = false → Wh w (x 3) A1
  f5 : l 5 = true → l 7 = false → Wh w (x 5) A2
  f7 : l 7 = true → x 7 = .tuple #[.agg #[s], .agg #[sb], .bool ok] ∧ W.heap.size ≤ lo ∧ lo ≤ hi ∧ hi ≤ w.heap.size ∧ Own w lo hi s R ∧ Own w lo hi sb R2
  f8 : l 8 = true → x 8 = .tuple #[.agg #[s], .agg #[sb], .bool ok]
  f9 : l 9 = true → x 9 = .agg #[s]
  f10 : l 10 = true → x 10 = .agg #[sb]
  f11 : l 11 = true → x 11 = .bool ok
  f12 : l 12 = true → x 12 = .pointer (some ⟨bA, 0, none⟩) ∧ W.heap.size ≤ bA ∧ Bx w bA (if l 14 then s else .slice none 0 0) ∧ (l 7 = true → bA < lo ∨ hi ≤ bA)
  f13 : l 13 = true → x 13 = .pointer (some ⟨bB, 0, none⟩) ∧ W.heap.size ≤ bB ∧ Bx w bB (if l 15 then sb else .slice none 0 0) ∧ (l 7 = true → bB < lo ∨ hi ≤ bB)
  ne : l 12 = true → l 13 = true → bA ≠ bB
  f16 : l 16 = true → x 16 = .bool ok

variable {W : World} {s0 s1 s2 : Value} {A0 A1 A2 : List Int} {a3 : Int} {R R2 : List Int} {ok : Bool} {bA bB lo hi : Nat} {s sb : Value} {l : Nat → Bool} {x : Nat → Value} {w w' : World}
theorem G.world (g : G W s0 s1 s2 A0 A1 A2 a3 R R2 ok bA bB lo hi s sb l x w) (b : Below w.heap.size w w') : G W s0 s1 s2 A0 A1 A2 a3 R R2 ok bA bB lo hi s sb l x w' where
  bw := g.bw.trans (b.mono g.bw.size)
  f0 := g.f0
  f2 := g.f2
  f4 := g.f4
  f6 := g.f6
  f1 := fun h h7 => (g.f1 h h7).below b
  f3 := fun h h7 => (g.f3 h h7).below b
  f5 := fun h h7 => (g.f5 h h7).below b
  f7 := fun h => by
    obtain ⟨h1, h2, h3, h4, h5, h6⟩ := g.f7 h
    exact ⟨h1, h2, h3, Nat.le_trans h4 b.size, h5.below b h4, h6.below b h4⟩
  f8 := g.f8
  f9 := g.f9
  f10 := g.f10
  f11 := g.f11
  f12 := fun h => by
    obtain ⟨h1, h2, h3, h4⟩ := g.f12 h
    exact ⟨h1, h2, h3.kept b, h4⟩
  f13 := fun h => by
    obtain ⟨h1, h2, h3, h4⟩ := g.f13 h
    exact ⟨h1, h2, h3.kept b, h4⟩
  ne := g.ne
  f16 := g.f16

theorem G.step0 (g : G W s0 s1 s2 A0 A1 A2 a3 R R2 ok bA bB lo hi s sb l x w) : G W s0 s1 s2 A0 A1 A2 a3 R R2 ok bA bB lo hi s sb (upd l 0) (updv x 0 (.agg #[s0])) w where
  bw := g.bw
  f0 := fun _ => by simp [updv]
  f2 := by simpa [upd, updv] using g.f2
  f4 := by simpa [upd, updv] using g.f4
  f6 := by simpa [upd, updv] using g.f6
  f1 := by simpa [upd, updv] using g.f1
  f3 := by simpa [upd, updv] using g.f3
  f5 := by simpa [upd, updv] using g.f5
  f7 := by simpa [upd, updv] using g.f7
  f8 := by simpa [upd, updv] using g.f8
  f9 := by simpa [upd, updv] using g.f9
  f10 := by simpa [upd, updv] using g.f10
  f11 := by simpa [upd, updv] using g.f11
  f12 := by simpa [upd, updv] using g.f12
  f13 := by simpa [upd, updv] using g.f13
  ne := by simpa [upd, updv] using g.ne
  f16 := by simpa [upd, updv] using g.f16
theorem G.step2 (g : G W s0 s1 s2 A0 A1 A2 a3 R R2 ok bA bB lo hi s sb l x w) : G W s0 s1 s2 A0 A1 A2 a3 R R2 ok bA bB lo hi s sb (upd l 2) (updv x 2 (.agg #[s1])) w where
  bw := g.bw
  f0 := by simpa [upd, updv] using g.f0
  f2 := fun _ => by simp [updv]
  f4 := by simpa [upd, updv] using g.f4
  f6 := by simpa [upd, updv] using g.f6
  f1 := by simpa [upd, updv] using g.f1
  f3 := by simpa [upd, updv] using g.f3
  f5 := by simpa [upd, updv] using g.f5
  f7 := by simpa [upd, updv] using g.f7
  f8 := by simpa [upd, updv] using g.f8
  f9 := by simpa [upd, updv] using g.f9
  f10 := by simpa [upd, updv] using g.f10
  f11 := by simpa [upd, updv] using g.f11
  f12 := by simpa [upd, updv] using g.f12
  f13 := by simpa [upd, updv] using g.f13
  ne := by simpa [upd, updv] using g.ne
  f16 := by simpa [upd, updv] using g.f16
theorem G.step4 (g : G W s0 s1 s2 A0 A1 A2 a3 R R2 ok bA bB lo hi s sb l x w) : G W s0 s1 s2 A0 A1 A2 a3 R R2 ok bA bB lo hi s sb (upd l 4) (updv x 4 (.agg #[s2])) w where
  bw := g.bw
  f0 := by simpa [upd, updv] using g.f0
  f2 := by simpa [upd, updv] using g.f2
  f4 := fun _ => by simp [updv]
  f6 := by simpa [upd, updv] using g.f6
  f1 := by simpa [upd, updv] using g.f1
  f3 := by simpa [upd, updv] using g.f3
  f5 := by simpa [upd, updv] using g.f5
  f7 := by simpa [upd, updv] using g.f7
  f8 := by simpa [upd, updv] using g.f8
  f9 := by simpa [upd, updv] using g.f9
  f10 := by simpa [upd, updv] using g.f10
  f11 := by simpa [upd, updv] using g.f11
  f12 := by simpa [upd, updv] using g.f12
  f13 := by simpa [upd, updv] using g.f13
  ne := by simpa [upd, updv] using g.ne
  f16 := by simpa [upd, updv] using g.f16
theorem G.step6 (g : G W s0 s1 s2 A0 A1 A2 a3 R R2 ok bA bB lo hi s sb l x w) : G W s0 s1 s2 A0 A1 A2 a3 R R2 ok bA bB lo hi s sb (upd l 6) (updv x 6 (.int .i64 a3)) w where
  bw := g.bw
  f0 := by simpa [upd, updv] using g.f0
  f2 := by simpa [upd, updv] using g.f2
  f4 := by simpa [upd, updv] using g.f4
  f6 := fun _ => by simp [updv]
  f1 := by simpa [upd, updv] using g.f1
  f3 := by simpa [upd, updv] using g.f3
  f5 := by simpa [upd, updv] using g.f5
  f7 := by simpa [upd, updv] using g.f7
  f8 := by simpa [upd, updv] using g.f8
  f9 := by simpa [upd, updv] using g.f9
  f10 := by simpa [upd, updv] using g.f10
  f11 := by simpa [upd, updv] using g.f11
  f12 := by simpa [upd, updv] using g.f12
  f13 := by simpa [upd, updv] using g.f13
  ne := by simpa [upd, updv] using g.ne
  f16 := by simpa [upd, updv] using g.f16
theorem G.step1 (g : G W s0 s1 s2 A0 A1 A2 a3 R R2 ok bA bB lo hi s sb l x w) {v : Value} (hv : Wh w v A0) : G W s0 s1 s2 A0 A1 A2 a3 R R2 ok bA bB lo hi s sb (upd l 1) (updv x 1 v) w where
  bw := g.bw
  f0 := by simpa [upd, updv] using g.f0
  f2 := by simpa [upd, updv] using g.f2
  f4 := by simpa [upd, updv] using g.f4
  f6 := by simpa [upd, updv] using g.f6
  f1 := fun _ _ => by simpa [updv] using hv
  f3 := by simpa [upd, updv] using g.f3
  f5 := by simpa [upd, updv] using g.f5
  f7 := by simpa [upd, updv] using g.f7
  f8 := by simpa [upd, updv] using g.f8
  f9 := by simpa [upd, updv] using g.f9
  f10 := by simpa [upd, updv] using g.f10
  f11 := by simpa [upd, updv] using g.f11
  f12 := by simpa [upd, updv] using g.f12
  f13 := by simpa [upd, updv] using g.f13
  ne := by simpa [upd, updv] using g.ne
  f16 := by simpa [upd, updv] using g.f16
theorem G.step3 (g : G W s0 s1 s2 A0 A1 A2 a3 R R2 ok bA bB lo hi s sb l x w) {v : Value} (hv : Wh w v A1) : G W s0 s1 s2 A0 A1 A2 a3 R R2 ok bA bB lo hi s sb (upd l 3) (updv x 3 v) w where
  bw := g.bw
  f0 := by simpa [upd, updv] using g.f0
  f2 := by simpa [upd, updv] using g.f2
  f4 := by simpa [upd, updv] using g.f4
  f6 := by simpa [upd, updv] using g.f6
  f1 := by simpa [upd, updv] using g.f1
  f3 := fun _ _ => by simpa [updv] using hv
  f5 := by simpa [upd, updv] using g.f5
  f7 := by simpa [upd, updv] using g.f7
  f8 := by simpa [upd, updv] using g.f8
  f9 := by simpa [upd, updv] using g.f9
  f10 := by simpa [upd, updv] using g.f10
  f11 := by simpa [upd, updv] using g.f11
  f12 := by simpa [upd, updv] using g.f12
  f13 := by simpa [upd, updv] using g.f13
  ne := by simpa [upd, updv] using g.ne
  f16 := by simpa [upd, updv] using g.f16
theorem G.step5 (g : G W s0 s1 s2 A0 A1 A2 a3 R R2 ok bA bB lo hi s sb l x w) {v : Value} (hv : Wh w v A2) : G W s0 s1 s2 A0 A1 A2 a3 R R2 ok bA bB lo hi s sb (upd l 5) (updv x 5 v) w where
  bw := g.bw
  f0 := by simpa [upd, updv] using g.f0
  f2 := by simpa [upd, updv] using g.f2
  f4 := by simpa [upd, updv] using g.f4
  f6 := by simpa [upd, updv] using g.f6
  f1 := by simpa [upd, updv] using g.f1
  f3 := by simpa [upd, updv] using g.f3
  f5 := fun _ _ => by simpa [updv] using hv
  f7 := by simpa [upd, updv] using g.f7
  f8 := by simpa [upd, updv] using g.f8
  f9 := by simpa [upd, updv] using g.f9
  f10 := by simpa [upd, updv] using g.f10
  f11 := by simpa [upd, updv] using g.f11
  f12 := by simpa [upd, updv] using g.f12
  f13 := by simpa [upd, updv] using g.f13
  ne := by simpa [upd, updv] using g.ne
  f16 := by simpa [upd, updv] using g.f16
theorem G.step7 (g : G W s0 s1 s2 A0 A1 A2 a3 R R2 ok bA bB lo hi s sb l x w) (h8 : l 8 = false) (h9 : l 9 = false) (h10 : l 10 = false) (h11 : l 11 = false) (h14 : l 14 = false) (h15 : l 15 = false) {lo2 hi2 : Nat} {t tb : Value} (h1 : W.heap.size ≤ lo2) (h2 : lo2 ≤ hi2) (h3 : hi2 ≤ w.heap.size) (h4 : Own w lo2 hi2 t R) (h5 : Own w lo2 hi2 tb R2) (hA : l 12 = true → bA < lo2) (hB : l 13 = true → bB < lo2) : G W s0 s1 s2 A0 A1 A2 a3 R R2 ok bA bB lo2 hi2 t tb (upd l 7) (updv x 7 (.tuple #[.agg #[t], .agg #[tb], .bool ok])) w where
  bw := g.bw
  f0 := by simpa [upd, updv] using g.f0
  f2 := by simpa [upd, updv] using g.f2
  f4 := by simpa [upd, updv] using g.f4
  f6 := by simpa [upd, updv] using g.f6
  f1 := fun _ h => by simp [upd] at h
  f3 := fun _ h => by simp [upd] at h
  f5 := fun _ h => by simp [upd] at h
  f7 := fun _ => ⟨by simp [updv], h1, h2, h3, h4, h5⟩
  f8 := fun h => by simp [upd, h8] at h
  f9 := fun h => by simp [upd, h9] at h
  f10 := fun h => by simp [upd, h10] at h
  f11 := fun h => by simp [upd, h11] at h
  f12 := fun h => by
    have h12 : l 12 = true := by simpa [upd] using h
    obtain ⟨e1, e2, e3, _⟩ := g.f12 h12
    rw [h14] at e3
    have e4 : upd l 7 14 = false := by simp [upd, h14]
    rw [e4]
    exact ⟨by simpa [updv] using e1, e2, e3, fun _ => .inl (hA h12)⟩
  f13 := fun h => by
    have h13 : l 13 = true := by simpa [upd] using h
    obtain ⟨e1, e2, e3, _⟩ := g.f13 h13
    rw [h15] at e3
    have e4 : upd l 7 15 = false := by simp [upd, h15]
    rw [e4]
    exact ⟨by simpa [updv] using e1, e2, e3, fun _ => .inl (hB h13)⟩
  ne := by simpa [upd, updv] using g.ne
  f16 := by simpa [upd, updv] using g.f16
theorem G.step8 (g : G W s0 s1 s2 A0 A1 A2 a3 R R2 ok bA bB lo hi s sb l x w) : G W s0 s1 s2 A0 A1 A2 a3 R R2 ok bA bB lo hi s sb (upd l 8) (updv x 8 (.tuple #[.agg #[s], .agg #[sb], .bool ok])) w where
  bw := g.bw
  f0 := by simpa [upd, updv] using g.f0
  f2 := by simpa [upd, updv] using g.f2
  f4 := by simpa [upd, updv] using g.f4
  f6 := by simpa [upd, updv] using g.f6
  f1 := by simpa [upd, updv] using g.f1
  f3 := by simpa [upd, updv] using g.f3
  f5 := by simpa [upd, updv] using g.f5
  f7 := by simpa [upd, updv] using g.f7
  f8 := fun _ => by simp [updv]
  f9 := by simpa [upd, updv] using g.f9
  f10 := by simpa [upd, updv] using g.f10
  f11 := by simpa [upd, updv] using g.f11
  f12 := by simpa [upd, updv] using g.f12
  f13 := by simpa [upd, updv] using g.f13
  ne := by simpa [upd, updv] using g.ne
  f16 := by simpa [upd, updv] using g.f16
theorem G.step9 (g : G W s0 s1 s2 A0 A1 A2 a3 R R2 ok bA bB lo hi s sb l x w) : G W s0 s1 s2 A0 A1 A2 a3 R R2 ok bA bB lo hi s sb (upd l 9) (updv x 9 (.agg #[s])) w where
  bw := g.bw
  f0 := by simpa [upd, updv] using g.f0
  f2 := by simpa [upd, updv] using g.f2
  f4 := by simpa [upd, updv] using g.f4
  f6 := by simpa [upd, updv] using g.f6
  f1 := by simpa [upd, updv] using g.f1
  f3 := by simpa [upd, updv] using g.f3
  f5 := by simpa [upd, updv] using g.f5
  f7 := by simpa [upd, updv] using g.f7
  f8 := by simpa [upd, updv] using g.f8
  f9 := fun _ => by simp [updv]
  f10 := by simpa [upd, updv] using g.f10
  f11 := by simpa [upd, updv] using g.f11
  f12 := by simpa [upd, updv] using g.f12
  f13 := by simpa [upd, updv] using g.f13
  ne := by simpa [upd, updv] using g.ne
  f16 := by simpa [upd, updv] using g.f16
theorem G.step10 (g : G W s0 s1 s2 A0 A1 A2 a3 R R2 ok bA bB lo hi s sb l x w) : G W s0 s1 s2 A0 A1 A2 a3 R R2 ok bA bB lo hi s sb (upd l 10) (updv x 10 (.agg #[sb])) w where
  bw := g.bw
  f0 := by simpa [upd, updv] using g.f0
  f2 := by simpa [upd, updv] using g.f2
  f4 := by simpa [upd, updv] using g.f4
  f6 := by simpa [upd, updv] using g.f6
  f1 := by simpa [upd, updv] using g.f1
  f3 := by simpa [upd, updv] using g.f3
  f5 := by simpa [upd, updv] using g.f5
  f7 := by simpa [upd, updv] using g.f7
  f8 := by simpa [upd, updv] using g.f8
  f9 := by simpa [upd, updv] using g.f9
  f10 := fun _ => by simp [updv]
  f11 := by simpa [upd, updv] using g.f11
  f12 := by simpa [upd, updv] using g.f12
  f13 := by simpa [upd, updv] using g.f13
  ne := by simpa [upd, updv] using g.ne
  f16 := by simpa [upd, updv] using g.f16
theorem G.step11 (g : G W s0 s1 s2 A0 A1 A2 a3 R R2 ok bA bB lo hi s sb l x w) : G W s0 s1 s2 A0 A1 A2 a3 R R2 ok bA bB lo hi s sb (upd l 11) (updv x 11 (.bool ok)) w where
  bw := g.bw
  f0 := by simpa [upd, updv] using g.f0
  f2 := by simpa [upd, updv] using g.f2
  f4 := by simpa [upd, updv] using g.f4
  f6 := by simpa [upd, updv] using g.f6
  f1 := by simpa [upd, updv] using g.f1
  f3 := by simpa [upd, updv] using g.f3
  f5 := by simpa [upd, updv] using g.f5
  f7 := by simpa [upd, updv] using g.f7
  f8 := by simpa [upd, updv] using g.f8
  f9 := by simpa [upd, updv] using g.f9
  f10 := by simpa [upd, updv] using g.f10
  f11 := fun _ => by simp [updv]
  f12 := by simpa [upd, updv] using g.f12
  f13 := by simpa [upd, updv] using g.f13
  ne := by simpa [upd, updv] using g.ne
  f16 := by simpa [upd, updv] using g.f16
theorem G.step16 (g : G W s0 s1 s2 A0 A1 A2 a3 R R2 ok bA bB lo hi s sb l x w) : G W s0 s1 s2 A0 A1 A2 a3 R R2 ok bA bB lo hi s sb (upd l 16) (updv x 16 (.bool ok)) w where
  bw := g.bw
  f0 := by simpa [upd, updv] using g.f0
  f2 := by simpa [upd, updv] using g.f2
  f4 := by simpa [upd, updv] using g.f4
  f6 := by simpa [upd, updv] using g.f6
  f1 := by simpa [upd, updv] using g.f1
  f3 := by simpa [upd, updv] using g.f3
  f5 := by simpa [upd, updv] using g.f5
  f7 := by simpa [upd, updv] using g.f7
  f8 := by simpa [upd, updv] using g.f8
  f9 := by simpa [upd, updv] using g.f9
  f10 := by simpa [upd, updv] using g.f10
  f11 := by simpa [upd, updv] using g.f11
  f12 := by simpa [upd, updv] using g.f12
  f13 := by simpa [upd, updv] using g.f13
  ne := by simpa [upd, updv] using g.ne
  f16 := fun _ => by simp [updv]
theorem G.step12 (g : G W s0 s1 s2 A0 A1 A2 a3 R R2 ok bA bB lo hi s sb l x w) (h14 : l 14 = false) : G W s0 s1 s2 A0 A1 A2 a3 R R2 ok w.heap.size bB lo hi s sb (upd l 12) (updv x 12 (.pointer (some ⟨w.heap.size, 0, none⟩))) (w.alloc (.cells #[.slice none 0 0] 26)) := by
  have g0 := g
  have Bw : Hid (W.heap.size ≤ w.heap.size) := g0.bw.size
  have hhi : l 7 = true → hi ≤ w.heap.size := fun h => (g0.f7 h).2.2.2.1
  have g := g.world (new1 w (.cells #[.slice none 0 0] 26))
  have e14 : upd l 12 14 = false := by simp [upd, h14]
  exact {
    bw := g.bw
    f0 := by simpa [upd, updv] using g.f0
    f2 := by simpa [upd, updv] using g.f2
    f4 := by simpa [upd, updv] using g.f4
    f6 := by simpa [upd, updv] using g.f6
    f1 := by simpa [upd, updv] using g.f1
    f3 := by simpa [upd, updv] using g.f3
    f5 := by simpa [upd, updv] using g.f5
    f7 := by simpa [upd, updv] using g.f7
    f8 := by simpa [upd, updv] using g.f8
    f9 := by simpa [upd, updv] using g.f9
    f10 := by simpa [upd, updv] using g.f10
    f11 := by simpa [upd, updv] using g.f11
    f12 := fun _ => ⟨by simp [updv], Bw.out, by rw [e14]; exact Bx.new _ _ _, fun h => .inr (hhi (by simpa [upd] using h))⟩
    f13 := by simpa [upd, updv] using g.f13
    ne := fun _ h => by have := (g0.f13 (by simpa [upd] using h)).2.2.1.lt; omega
    f16 := by simpa [upd, updv] using g.f16
  }
theorem G.step13 (g : G W s0 s1 s2 A0 A1 A2 a3 R R2 ok bA bB lo hi s sb l x w) (h15 : l 15 = false) : G W s0 s1 s2 A0 A1 A2 a3 R R2 ok bA w.heap.size lo hi s sb (upd l 13) (updv x 13 (.pointer (some ⟨w.heap.size, 0, none⟩))) (w.alloc (.cells #[.slice none 0 0] 26)) := by
  have g0 := g
  have Bw : Hid (W.heap.size ≤ w.heap.size) := g0.bw.size
  have hhi : l 7 = true → hi ≤ w.heap.size := fun h => (g0.f7 h).2.2.2.1
  have g := g.world (new1 w (.cells #[.slice none 0 0] 26))
  have e15 : upd l 13 15 = false := by simp [upd, h15]
  exact {
    bw := g.bw
    f0 := by simpa [upd, updv] using g.f0
    f2 := by simpa [upd, updv] using g.f2
    f4 := by simpa [upd, updv] using g.f4
    f6 := by simpa [upd, updv] using g.f6
    f1 := by simpa [upd, updv] using g.f1
    f3 := by simpa [upd, updv] using g.f3
    f5 := by simpa [upd, updv] using g.f5
    f7 := by simpa [upd, updv] using g.f7
    f8 := by simpa [upd, updv] using g.f8
    f9 := by simpa [upd, updv] using g.f9
    f10 := by simpa [upd, updv] using g.f10
    f11 := by simpa [upd, updv] using g.f11
    f12 := by simpa [upd, updv] using g.f12
    f13 := fun _ => ⟨by simp [updv], Bw.out, by rw [e15]; exact Bx.new _ _ _, fun h => .inr (hhi (by simpa [upd] using h))⟩
    ne := fun h _ => by have := (g0.f12 (by simpa [upd] using h)).2.2.1.lt; omega
    f16 := by simpa [upd, updv] using g.f16
  }
theorem G.step14 (g : G W s0 s1 s2 A0 A1 A2 a3 R R2 ok bA bB lo hi s sb l x w) (h12 : l 12 = true) (h13 : l 13 = true) (h7 : l 7 = true) (u : Value) : G W s0 s1 s2 A0 A1 A2 a3 R R2 ok bA bB lo hi s sb (upd l 14) (updv x 14 u) (w.setCell ⟨bA, 0, none⟩ s) := by
  obtain ⟨_, e2, e3, e4⟩ := g.f12 h12
  obtain ⟨d1, d2, d3, d4⟩ := g.f13 h13
  obtain ⟨q1, q2, q3, q4, q5, q6⟩ := g.f7 h7
  have hne := g.ne h12 h13
  exact {
    bw := g.bw.setCell e2 _
    f0 := by simpa [upd, updv] using g.f0
    f2 := by simpa [upd, updv] using g.f2
    f4 := by simpa [upd, updv] using g.f4
    f6 := by simpa [upd, updv] using g.f6
    f1 := fun _ h => by simp [upd, h7] at h
    f3 := fun _ h => by simp [upd, h7] at h
    f5 := fun _ h => by simp [upd, h7] at h
    f7 := fun _ => ⟨by simpa [updv] using q1, q2, q3, by simpa using q4, q5.other (e4 h7) _, q6.other (e4 h7) _⟩
    f8 := by simpa [upd, updv] using g.f8
    f9 := by simpa [upd, updv] using g.f9
    f10 := by simpa [upd, updv] using g.f10
    f11 := by simpa [upd, updv] using g.f11
    f12 := fun _ => ⟨by simpa [updv] using (g.f12 h12).1, e2, by rw [upd_same]; exact e3.set _, fun _ => e4 h7⟩
    f13 := fun _ => ⟨by simpa [updv] using d1, d2, by rw [upd_ne l (by omega)]; exact d3.other (by omega) _, fun _ => d4 h7⟩
    ne := by simpa [upd, updv] using g.ne
    f16 := by simpa [upd, updv] using g.f16
  }
theorem G.step15 (g : G W s0 s1 s2 A0 A1 A2 a3 R R2 ok bA bB lo hi s sb l x w) (h13 : l 13 = true) (h12 : l 12 = true) (h7 : l 7 = true) (u : Value) : G W s0 s1 s2 A0 A1 A2 a3 R R2 ok bA bB lo hi s sb (upd l 15) (updv x 15 u) (w.setCell ⟨bB, 0, none⟩ sb) := by
  obtain ⟨_, e2, e3, e4⟩ := g.f13 h13
  obtain ⟨d1, d2, d3, d4⟩ := g.f12 h12
  obtain ⟨q1, q2, q3, q4, q5, q6⟩ := g.f7 h7
  have hne := g.ne h12 h13
  exact {
    bw := g.bw.setCell e2 _
    f0 := by simpa [upd, updv] using g.f0
    f2 := by simpa [upd, updv] using g.f2
    f4 := by simpa [upd, updv] using g.f4
    f6 := by simpa [upd, updv] using g.f6
    f1 := fun _ h => by simp [upd, h7] at h
    f3 := fun _ h => by simp [upd, h7] at h
    f5 := fun _ h => by simp [upd, h7] at h
    f7 := fun _ => ⟨by simpa [updv] using q1, q2, q3, by simpa using q4, q5.other (e4 h7) _, q6.other (e4 h7) _⟩
    f8 := by simpa [upd, updv] using g.f8
    f9 := by simpa [upd, updv] using g.f9
    f10 := by simpa [upd, updv] using g.f10
    f11 := by simpa [upd, updv] using g.f11
    f12 := fun _ => ⟨by simpa [updv] using d1, d2, by rw [upd_ne l (by omega)]; exact d3.other (by omega) _, fun _ => d4 h7⟩
    f13 := fun _ => ⟨by simpa [updv] using (g.f13 h13).1, e2, by rw [upd_same]; exact e3.set _, fun _ => e4 h7⟩
    ne := by simpa [upd, updv] using g.ne
    f16 := by simpa [upd, updv] using g.f16
  }
/-- what holds in the midst of the region -/
def F (W : World) (s0 s1 s2 : Value) (A0 A1 A2 : List Int) (a3 : Int) (R R2 : List Int) (ok : Bool) (l : Nat → Bool) (x : Nat → Value) (w : World) : Prop :=
  ∃ (bA bB lo hi : Nat) (s sb : Value), G W s0 s1 s2 A0 A1 A2 a3 R R2 ok bA bB lo hi s sb l x w
theorem G.f (g : G W s0 s1 s2 A0 A1 A2 a3 R R2 ok bA bB lo hi s sb l x w) : F W s0 s1 s2 A0 A1 A2 a3 R R2 ok l x w := ⟨_, _, _, _, _, _, g⟩
theorem F.start (W : World) (s0 s1 s2 : Value) (A0 A1 A2 : List Int) (a3 : Int) (R R2 : List Int) (ok : Bool) (x : Nat → Value) : F W s0 s1 s2 A0 A1 A2 a3 R R2 ok (fun _ => false) x W.drew :=
  ⟨0, 0, 0, 0, undef, undef, (Below.refl _ _).drew, nofun, nofun, nofun, nofun, nofun, nofun, nofun, nofun, nofun, nofun, nofun, nofun, nofun, nofun, nofun, nofun⟩
theorem G.fin (g : G W s0 s1 s2 A0 A1 A2 a3 R R2 ok bA bB lo hi s sb l x w) (h7 : l 7 = true) (h12 : l 12 = true) (h13 : l 13 = true) (h14 : l 14 = true) (h15 : l 15 = true) : Fin2 W w bA s R bB sb R2 := by
  obtain ⟨_, e2, e3, _⟩ := g.f12 h12
  obtain ⟨_, d2, d3, _⟩ := g.f13 h13
  obtain ⟨_, _, _, q4, q5, q6⟩ := g.f7 h7
  rw [h14] at e3
  rw [h15] at d3
  exact ⟨e2, d2, g.ne h12 h13, e3, d3, q5.rd.ls q4, q6.rd.ls q4, g.bw⟩
end Go.Proofs.Ytfhcfeafohcjpaa.lpr
