/- A region whose order is drawn, walked by one relation between what has come up, what it has yielded, and the world. -/
import Derived.Test.YtfhcfeafohcjpaaRows
import Derived.WalkKit
import Derived.Deep.RegionHeld3
namespace Go.Proofs.Ytfhcfeafohcjpaa.inv
open Go.RowKit

/-- number i has come up as well -/
def upd (l : Nat → Bool) (i : Nat) : Nat → Bool := fun k => if k = i then true else l k
/-- what is waited for has come up -/
def Down (ops : Array Oper) (l : Nat → Bool) : Prop := ∀ (j : Nat) (o : Oper), ops[j]? = some o → l j = true → ∀ e ∈ o.after, Region.binds .any e = true → l e.on = true
/-- value number i -/
def updv (x : Nat → Value) (i : Nat) (v : Value) : Nat → Value := fun k => if k = i then v else x k

theorem upd_same (l : Nat → Bool) (i : Nat) : upd l i i = true := by simp [upd]
theorem upd_ne (l : Nat → Bool) {i k : Nat} (h : k ≠ i) : upd l i k = l k := by simp [upd, h]
theorem upd_or {l : Nat → Bool} {i k : Nat} (h : upd l i k = true) : k = i ∨ (k ≠ i ∧ l k = true) := by
  by_cases hk : k = i
  · exact .inl hk
  · rw [upd_ne l hk] at h; exact .inr ⟨hk, h⟩

section
variable {P : Program} {ops : Array Oper} {Q : Exit → Act → World → Prop}

theorem Down.upd {l : Nat → Bool} {i : Nat} {o : Oper} (hd : Down ops l) (ho : ops[i]? = some o) (hw : ∀ e ∈ o.after, Region.binds .any e = true → l e.on = true) : Down ops (upd l i) := by
  intro j oj hj hl e he hb
  rcases upd_or hl with rfl | ⟨_, h⟩
  · have : oj = o := by rw [ho] at hj; exact (Option.some.inj hj).symm
    subst this
    unfold inv.upd; split; rfl; exact hw e he hb
  · unfold inv.upd; split; rfl; exact hd j oj hj h e he hb

theorem count_lt {l : Nat → Bool} {i n : Nat} (hi : i < n) (hl : l i = false) :
    ((List.range n).filter fun k => !(inv.upd l i k)).length < ((List.range n).filter fun k => !(l k)).length := by
  have e : ((List.range n).filter fun k => !(inv.upd l i k)) = ((List.range n).filter fun k => !(l k)).filter fun k => decide (k ≠ i) := by
    rw [List.filter_filter]
    congr 1
    funext k
    by_cases hk : k = i
    · simp [inv.upd, hk]
    · simp [inv.upd, hk]
  rw [e]
  refine List.length_filter_lt_length_iff_exists.2 ⟨i, ?_, by simp⟩
  simp [hi, hl]

theorem wpAny_inv (I : (Nat → Bool) → Act → World → Prop)
    (hac : ∀ (j : Nat) (o : Oper), ops[j]? = some o → ∀ e ∈ o.after, Region.binds .any e = true → e.on < j)
    (hs : ∀ (i : Nat) (o : Oper), ops[i]? = some o → ∀ l a w, Down ops l → l i = false → (∀ e ∈ o.after, Region.binds .any e = true → l e.on = true) → I l a w → wpOp P ops Q i (fun a' w' => I (inv.upd l i) a' w') a w)
    (he : ∀ l a w, (∀ i, i < ops.size → l i = true) → I l a w → Q .normal a w) :
    ∀ (fuel : Nat) (listed : Array Bool) (l : Nat → Bool) (a : Act) (w : World), listed.size = ops.size → (∀ k, k < ops.size → listed[k]? = some (l k)) → Down ops l →
      ((List.range ops.size).filter fun k => !(l k)).length ≤ fuel → I l a w → wpAny P .any ops Q fuel listed a w := by
  have allT : ∀ (listed : Array Bool) (l : Nat → Bool), listed.size = ops.size → (∀ k, k < ops.size → listed[k]? = some (l k)) → Region.ready .any ops listed = [] → ∀ i, i < ops.size → l i = true := by
    intro listed l hz hl hr i
    induction i using Nat.strongRecOn with
    | _ i ih =>
      intro hi
      by_cases h : l i = true
      · exact h
      exfalso
      have hf : l i = false := by simpa using h
      have hm : i ∈ Region.ready .any ops listed := by
        refine mem_ready.2 ⟨by rw [Array.getD_eq_getD_getElem?, hl i hi, hf]; rfl, ops[i], by simp [hi], fun e hee hb => ?_⟩
        have hlt := hac i ops[i] (by simp [hi]) e hee hb
        rw [Array.getD_eq_getD_getElem?, hl e.on (by omega), ih e.on hlt (by omega)]; rfl
      rw [hr] at hm
      cases hm
  intro fuel
  induction fuel with
  | zero =>
    intro listed l a w hz hl hd hc hI
    have ha : ∀ i, i < ops.size → l i = true := fun i hi => by
      by_cases h : l i = true
      · exact h
      exfalso
      have h0 : ((List.range ops.size).filter fun k => !(l k)) = [] := List.eq_nil_of_length_eq_zero (by omega)
      have : i ∈ ((List.range ops.size).filter fun k => !(l k)) := by simp [hi, h]
      rw [h0] at this
      cases this
    refine ⟨?_, he l a w ha hI⟩
    refine List.eq_nil_iff_forall_not_mem.2 fun i hm => ?_
    obtain ⟨h1, o, ho, _⟩ := mem_ready.1 hm
    have hi : i < ops.size := (Array.getElem?_eq_some_iff.1 ho).1
    rw [Array.getD_eq_getD_getElem?, hl i hi, ha i hi] at h1
    cases h1
  | succ fuel ih =>
    intro listed l a w hz hl hd hc hI
    refine ⟨fun hr => he l a w (allT listed l hz hl hr) hI, fun i hm => ?_⟩
    obtain ⟨h1, o, ho, hw⟩ := mem_ready.1 hm
    have hi : i < ops.size := (Array.getElem?_eq_some_iff.1 ho).1
    have hli : l i = false := by
      rw [Array.getD_eq_getD_getElem?, hl i hi] at h1; exact h1
    have hw' : ∀ e ∈ o.after, Region.binds .any e = true → l e.on = true := fun e hee hb => by
      have hlt := hac i o ho e hee hb
      have := hw e hee hb
      rw [Array.getD_eq_getD_getElem?, hl e.on (by omega)] at this
      exact this
    refine wpOp_mono (fun a' w' hI' => ih _ (inv.upd l i) a' w' (by simp [hz]) (fun k hk => ?_) (hd.upd ho hw') ?_ hI') (hs i o ho l a w hd hli hw' hI)
    · by_cases hki : k = i
      · subst hki; rw [upd_same]; simp [hz, hk]
      · rw [upd_ne l hki, Array.getElem?_setIfInBounds_ne (Ne.symm hki)]; exact hl k hk
    · have := count_lt (l := l) hi hli
      omega

/-- no operation waits for a later one -/
def acyc (ops : Array Oper) : Bool := (List.range ops.size).all fun j => match ops[j]? with
  | some o => o.after.all fun e => !(Region.binds .any e) || decide (e.on < j)
  | none => true
theorem acyc_spec (h : acyc ops = true) : ∀ (j : Nat) (o : Oper), ops[j]? = some o → ∀ e ∈ o.after, Region.binds .any e = true → e.on < j := by
  intro j o ho e he hb
  have hj : j < ops.size := (Array.getElem?_eq_some_iff.1 ho).1
  have h1 := List.all_eq_true.1 h j (List.mem_range.2 hj)
  rw [ho] at h1
  have h2 := Array.all_eq_true_iff_forall_mem.1 h1 e he
  simpa [hb] using h2

/-- a property of each operation and its number -/
def Each (Pr : Nat → Oper → Prop) (n : Nat) (rest : List Oper) : Prop := ∀ (i : Nat) (o : Oper), rest[i]? = some o → Pr (n + i) o
theorem Each.nil {Pr : Nat → Oper → Prop} {n : Nat} : Each Pr n [] := fun i o h => by simp at h
theorem Each.cons {Pr : Nat → Oper → Prop} {n m : Nat} {o : Oper} {rest : List Oper} (hm : n + 1 = m) (h : Pr n o) (hr : Each Pr m rest) : Each Pr n (o :: rest) := by
  intro i o' ho
  cases i with
  | zero => simp at ho; subst ho; exact h
  | succ i =>
    have := hr i o' (by simpa using ho)
    rw [← hm] at this
    rw [show n + (i + 1) = n + 1 + i by omega]
    exact this
theorem Each.all {Pr : Nat → Oper → Prop} (h : Each Pr 0 ops.toList) : ∀ (i : Nat) (o : Oper), ops[i]? = some o → Pr i o := fun i o ho => by
  have := h i o (by simpa using ho)
  rwa [Nat.zero_add] at this
theorem Down.no {l : Nat → Bool} {j : Nat} {o : Oper} (hd : Down ops l) (ho : ops[j]? = some o) {e : Edge} (he : e ∈ o.after) (hb : Region.binds .any e = true) (hl : l e.on = false) : l j = false := by
  by_cases h : l j = true
  · rw [hd j o ho h e he hb] at hl; cases hl
  · simpa using h

/-- what the operations' slots hold -/
def puts (a : Act) (ds : List (Nat × Nat)) (x : Nat → Value) : Act := ds.foldl (fun a d => a.put (some d.2) (x d.1)) a

theorem puts_congr {x y : Nat → Value} : ∀ (ds : List (Nat × Nat)) (a : Act), (∀ d ∈ ds, x d.1 = y d.1) → puts a ds x = puts a ds y
  | [], _, _ => rfl
  | d :: ds, a, h => by
    show puts (a.put (some d.2) (x d.1)) ds x = puts (a.put (some d.2) (y d.1)) ds y
    rw [h d (by simp)]
    exact puts_congr ds _ fun e he => h e (by simp [he])
theorem put_back (a : Act) (d : Nat) : a.put (some d) (a.tmps.getD d undef) = a := by
  unfold Act.put
  show { a with tmps := a.tmps.setIfInBounds d (a.tmps.getD d undef) } = a
  have : a.tmps.setIfInBounds d (a.tmps.getD d undef) = a.tmps := by
    by_cases hd : d < a.tmps.size
    · rw [Array.getD_eq_getD_getElem?, Array.getElem?_eq_getElem hd, Option.getD_some]
      simp [Array.setIfInBounds, hd]
    · simp [Array.setIfInBounds, hd]
  rw [this]
theorem puts_back (a : Act) : ∀ ds : List (Nat × Nat), (ds.map Prod.fst).Nodup → ∃ x, puts a ds x = a
  | [], _ => ⟨fun _ => undef, rfl⟩
  | d :: ds, h => by
    rw [List.map_cons, List.nodup_cons] at h
    obtain ⟨x, hx⟩ := puts_back a ds h.2
    refine ⟨updv x d.1 (a.tmps.getD d.2 undef), ?_⟩
    show puts (a.put (some d.2) (updv x d.1 (a.tmps.getD d.2 undef) d.1)) ds _ = a
    rw [show updv x d.1 (a.tmps.getD d.2 undef) d.1 = a.tmps.getD d.2 undef by simp [updv], put_back,
      puts_congr (y := x) ds a fun e he => by
        have : e.1 ≠ d.1 := fun hh => h.1 (by rw [← hh]; exact List.mem_map_of_mem (f := Prod.fst) he)
        simp [updv, this], hx]

/-- THE RULE: a region whose order is drawn; F says of what has come up (l), of the values (x) and of the world what holds. -/
theorem wp_region_inv {id : Nat} {a : Act} {w : World} (hm : P.follows .mixedOrders = true) (ds : List (Nat × Nat)) (hds : (ds.map Prod.fst).Nodup)
    (F : (Nat → Bool) → (Nat → Value) → World → Prop)
    (hac : acyc ops = true)
    (h0 : ∀ x0, F (fun _ => false) x0 w.drew)
    (hs : Each (fun i o => ∀ l x w, Down ops l → l i = false → (∀ e ∈ o.after, Region.binds .any e = true → l e.on = true) → F l x w →
      ∀ K : Act → World → Prop, Hid (∀ x' w', F (inv.upd l i) x' w' → K (puts a ds x') w') → if Region.wanted o (yielded ops (puts a ds x).tmps) = true then Oper.wp P o (puts a ds x) w K Q else K ((puts a ds x).put o.dst undef) w) 0 ops.toList)
    (he : ∀ l x w, (∀ i, i < ops.size → l i = true) → F l x w → Q .normal (puts a ds x) w) : (Code.region id ops true).wp P Q a w := by
  obtain ⟨x0, ha⟩ := puts_back a ds hds
  refine wp_region_any hm ?_
  refine wpAny_inv (fun l a' w' => ∃ x, a' = puts a ds x ∧ F l x w') (acyc_spec hac) ?_ ?_ ops.size _ (fun _ => false) a _ (by simp) (fun k hk => by simp [hk]) (fun _ _ _ h => by cases h) ?_ ⟨x0, ha.symm, h0 x0⟩
  · rintro i o ho l a' w' hd hl hw ⟨x, rfl, hF⟩
    exact wpOp_step ho fun K hK => hs.all i o ho l x w' hd hl hw hF K fun x' w'' h => hK _ _ ⟨x', rfl, h⟩
  · rintro l a' w' hl ⟨x, rfl, hF⟩
    exact he l x w' hl hF
  · have := List.length_filter_le (fun k => !(fun _ => false : Nat → Bool) k) (List.range ops.size)
    simpa using this
end
end Go.Proofs.Ytfhcfeafohcjpaa.inv
