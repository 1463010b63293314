/- The shortest rule: the program's side. -/
import Derived.Test.YtfmdbgpalldjoaaLess
import Derived.ScopeJumps
import Derived.WalkMore
namespace Go.Proofs.Ytfmdbgpalldjoaa.ru
open Go.RowKit Go.Pl Go.Ru Go.Proofs.Ytfmdbgpalldjoaa.wh

def zs : List Int := List.replicate 65 0
theorem zs_len : zs.length = 65 := by simp [zs]
theorem zc_zs : Try.zeroCells51 = va zs := zc_eq
theorem zc_un : Try.zeroCells51.setIfInBounds 0 (Value.int .i64 1) = va (ca un 65) := by kernel_rfl
/-- a scope in which the run jumps ahead to one label -/
theorem wp_scope_ahead {P : Program} {a : Act} {w : World} {Q : Exit → Act → World → Prop} {c rest : Code} (l : Nat) (hf : findLabel c l = some rest)
    (first : c.wp P (Exit.jump l (fun a w => rest.wp P (Exit.noGoto Q) a w) Q) a w) : (Code.scope c).wp P Q a w := by
  refine wp_scope_jumps l (fun a w => rest.wp P (Exit.noGoto Q) a w) (fun _ _ => 0) hf first ?_
  intro a w h b k cs
  obtain ⟨e, a₁, w₁, hq, harr⟩ := h b k cs
  refine ⟨e, a₁, w₁, ?_, harr⟩
  cases e with
  | goto l' => exact absurd hq id
  | normal => exact hq
  | exit id => exact hq
  | ret => exact hq
  | panic ch => exact hq
  | outgrown => exact hq
theorem Ar.range {w : World} {g : Nat} {L : List Int} (h : Ar w g L) : w.rangeAt g 0 (L.map (Value.int .i64)) := fun j v hv => by
  rw [List.getElem?_map] at hv
  cases hz : L[j]? with
  | none => rw [hz] at hv; cases hv
  | some z =>
    rw [hz] at hv
    rw [Nat.zero_add, h.cell hz, ← Option.some.inj hv]
theorem Ar.there {w : World} {g : Nat} {L : List Int} (h : Ar w g L) (hl : L.length = 65) : w.there g 0 65 := fun j hj => by
  rw [Nat.zero_add, h.cell (at_some L j (by omega))]
  exact ⟨rfl, h.free j⟩
theorem cells_row {w : World} {g : Nat} {L L' : List Int} (h : Ar w g L) (hl : L.length = 65) (hl' : L'.length = 65) : w.setCells g 0 (va L').toList = w.setRow g (va L') := by
  have h1 := run_storeVar_row (P := Try.prog) w g _ _ _ (va L') h (by rw [va_size, hl']; exact info_r) (by rw [va_size, va_size, hl, hl']) (va_one _)
  have h2 := run_storeVar_mid (P := Try.prog) w g 0 51 (va L') (by rw [va_size, hl']; exact h.there hl) (by rw [va_size, hl']; exact info_r) (va_one _)
  rw [h1] at h2
  injection h2 with _ h2
  exact h2.symm
theorem Ar.cells {w : World} {g : Nat} {L L' : List Int} (h : Ar w g L) (hl : L.length = 65) (hl' : L'.length = 65) : Ar (w.setCells g 0 (L'.map (Value.int .i64))) g L' := by
  have := cells_row h hl hl'
  unfold va at this
  rw [List.toList_toArray] at this
  rw [this]
  exact h.row
/-- terms 1 to l -/
def cl (c : Nat → Int) (l : Nat) : List Int := (List.range l).map fun i => c (i + 1)
theorem cl_len (c : Nat → Int) (l : Nat) : (cl c l).length = l := by simp [cl]
theorem cl_get (c : Nat → Int) {l i : Nat} (h : i < l) : (cl c l)[i]? = some (c (i + 1)) := by simp [cl, h]
theorem cl_in {c : Nat → Int} {p : Int} (hc : ∀ j, 0 ≤ c j ∧ c j < p) (l : Nat) : inR 0 (p - 1) (cl c l) := fun z hz => by
  obtain ⟨i, _, rfl⟩ := List.mem_map.1 hz
  have := hc (i + 1)
  omega
/-- the numbers k - l to k - 1 -/
def bl (A : List Int) (k l : Nat) : List Int := (A.drop (k - l)).take l
theorem bl_len {A : List Int} {k l : Nat} (h1 : l ≤ k) (h2 : k ≤ A.length) : (bl A k l).length = l := by
  rw [bl, List.length_take, List.length_drop]; omega
theorem bl_get {A : List Int} {k l i : Nat} (h : i < l) : (bl A k l)[i]? = A[k - l + i]? := by
  rw [bl, List.getElem?_take, if_pos h, List.getElem?_drop]
theorem bl_in {A : List Int} {p : Int} (hA : inR 0 (p - 1) A) (k l : Nat) : inR 0 (p - 1) (bl A k l) := fun z hz => hA z (List.mem_of_mem_drop (List.mem_of_mem_take hz))
theorem ds_dc {c : Nat → Int} {A : List Int} {k l : Nat} (h1 : l ≤ k) (h2 : k ≤ A.length) : ∀ i, i ≤ l → ds (cl c l) (bl A k l) i = dc c A k i
  | 0, _ => rfl
  | i + 1, h => by
    rw [ds_succ, dc_succ, ds_dc h1 h2 i (by omega), bl_len h1 h2, at_get (cl_get c (show i < l by omega))]
    congr 2
    unfold at'
    rw [bl_get (show l - 1 - i < l by omega), show k - l + (l - 1 - i) = k - 1 - i by omega]
theorem ls_cl {w : World} {g : Nat} {c : Nat → Int} (h : Ar w g (ca c 65)) {l : Nat} (hl : l ≤ 64) : Ls w (.slice (some ⟨g, 1, none⟩) l 64) (cl c l) := by
  refine ⟨_, _, by rw [cl_len], by rw [cl_len]; omega, by rw [cl_len]; omega, fun _ => ⟨g, 1, rfl, h.lt, fun i z hz => ?_⟩⟩
  have hi : i < l := by have := (List.getElem?_eq_some_iff.1 hz).1; rw [cl_len] at this; exact this
  rw [cl_get c hi] at hz
  rw [← Option.some.inj hz, Nat.add_comm 1 i]
  exact h.cell (ca_get _ _ _ (by omega))
theorem ls_bl {w : World} {b o n cap : Nat} {A : List Int} (h : Ls w (.slice (some ⟨b, o, none⟩) n cap) A) {k l : Nat} (h1 : l ≤ k) (h2 : k ≤ A.length) (h3 : A.length ≤ 64) : Ls w (.slice (some ⟨b, o + (k - l), none⟩) l (cap - (k - l))) (bl A k l) := by
  obtain ⟨_, hc, hcell⟩ := h.use
  refine ⟨_, _, by rw [bl_len h1 h2], by rw [bl_len h1 h2]; omega, by rw [bl_len h1 h2]; omega, fun e => ?_⟩
  rw [bl_len h1 h2] at e
  obtain ⟨b', o', he, hb, hz⟩ := hcell (by omega)
  obtain ⟨rfl, rfl⟩ : b = b' ∧ o = o' := by simpa using he
  refine ⟨b, o + (k - l), rfl, hb, fun i z hi => ?_⟩
  have hi' : i < l := by have := (List.getElem?_eq_some_iff.1 hi).1; rw [bl_len h1 h2] at this; exact this
  rw [bl_get hi'] at hi
  rw [Nat.add_assoc]
  exact hz _ z hi

set_option maxRecDepth 100000 in
set_option maxHeartbeats 6400000 in
theorem ishort_any {A : List Int} {v : Value} {w : World} {p : Int} (hp : isP p = true) (hn : 1 ≤ A.length ∧ A.length ≤ 64) (hA : inR 0 (p - 1) A) (h : Ls w v A) :
    Calls Try.prog 31 #[v, .int .i64 p] w fun e w' => e = .returned (.tuple #[.agg (va (ca (sts p A A.length).c 65)), .int .i64 ((sts p A A.length).l : Int)]) ∧ Below w.heap.size w w' := by
  obtain ⟨ao, cap, rfl⟩ := id h.shape
  have hp2 := isP_le hp
  obtain ⟨_, hcap, hcc⟩ := h.use
  obtain ⟨ab, aof, rfl, hab, hac⟩ := hcc (by omega)
  obtain ⟨n, hnn⟩ : ∃ n, n = A.length := ⟨_, rfl⟩
  have HN : Hid (n = A.length) := hnn
  have HA : Hid (inR 0 (p - 1) A) := hA
  have HP : Hid (isP p = true) := hp
  have HP2 : Hid (2 ≤ p ∧ p ≤ 13) := hp2
  have HL : Hid (Ls w (.slice (some ⟨ab, aof, none⟩) n cap) A) := by rw [hnn]; exact h
  have HAC : Hid (∀ k, k < n → w.cell? ⟨ab, aof + k, none⟩ = some (.int .i64 (at' A k))) := fun k hk => hac k _ (at_some A k (by omega))
  have HAB : Hid (ab < w.heap.size) := hab
  have HST : Hid (∀ k, Ok p k (sts p A k)) := sts_ok hp2.1 A
  rw [← hnn] at hcap hn ⊢
  have hn1 := hn.1
  have hn2 := hn.2
  clear h hcc hac hab hA hp hp2 hnn hn
  have SZ := Lib.hid zs_len
  have SU := Lib.hid (ca_len un 65)
  have R1 : Hid (Ar ((((w.alloc (.cells Try.zeroCells51 51)).alloc (.cells Try.zeroCells51 51)).alloc (.cells Try.zeroCells51 51)).alloc (.cells Try.zeroCells51 51)) (w.heap.size + 1) zs ∧ Ar ((((w.alloc (.cells Try.zeroCells51 51)).alloc (.cells Try.zeroCells51 51)).alloc (.cells Try.zeroCells51 51)).alloc (.cells Try.zeroCells51 51)) (w.heap.size + 1 + 1) zs ∧ Ar ((((w.alloc (.cells Try.zeroCells51 51)).alloc (.cells Try.zeroCells51 51)).alloc (.cells Try.zeroCells51 51)).alloc (.cells Try.zeroCells51 51)) (w.heap.size + 1 + 1 + 1) zs ∧ Ar ((((w.alloc (.cells Try.zeroCells51 51)).alloc (.cells Try.zeroCells51 51)).alloc (.cells Try.zeroCells51 51)).alloc (.cells Try.zeroCells51 51)) w.heap.size zs ∧ Below w.heap.size w ((((w.alloc (.cells Try.zeroCells51 51)).alloc (.cells Try.zeroCells51 51)).alloc (.cells Try.zeroCells51 51)).alloc (.cells Try.zeroCells51 51))) := by
    rw [zc_zs]
    refine ⟨?_, ?_, ?_, ?_, new4 _ _ _ _ _⟩
    · have h := Ar.new (w.alloc (.cells (va zs) 51)) zs
      rw [World.size_alloc] at h
      exact (h.kept (new1 _ _)).kept (new1 _ _)
    · have h := Ar.new ((w.alloc (.cells (va zs) 51)).alloc (.cells (va zs) 51)) zs
      rw [World.size_alloc, World.size_alloc] at h
      exact h.kept (new1 _ _)
    · have h := Ar.new (((w.alloc (.cells (va zs) 51)).alloc (.cells (va zs) 51)).alloc (.cells (va zs) 51)) zs
      rw [World.size_alloc, World.size_alloc, World.size_alloc] at h
      exact h
    · exact (((Ar.new w _).kept (new1 _ _)).kept (new1 _ _)).kept (new1 _ _)
  have R2 : Hid (Ar (((((w.alloc (.cells Try.zeroCells51 51)).alloc (.cells Try.zeroCells51 51)).alloc (.cells Try.zeroCells51 51)).alloc (.cells Try.zeroCells51 51)).setRow (w.heap.size + 1) (va (ca un 65))) (w.heap.size + 1 + 1) zs) := R1.out.2.1.rowo (by omega) _
  have R3 : Hid (Ar ((((((w.alloc (.cells Try.zeroCells51 51)).alloc (.cells Try.zeroCells51 51)).alloc (.cells Try.zeroCells51 51)).alloc (.cells Try.zeroCells51 51)).setRow (w.heap.size + 1) (va (ca un 65))).setRow (w.heap.size + 1 + 1) (va (ca un 65))) (w.heap.size + 1 + 1 + 1) zs) := (R1.out.2.2.1.rowo (by omega) _).rowo (by omega) _
  obtain ⟨W7, hW7⟩ : ∃ x, x = ((((((w.alloc (.cells Try.zeroCells51 51)).alloc (.cells Try.zeroCells51 51)).alloc (.cells Try.zeroCells51 51)).alloc (.cells Try.zeroCells51 51)).setRow (w.heap.size + 1) (va (ca un 65))).setRow (w.heap.size + 1 + 1) (va (ca un 65))).setRow (w.heap.size + 1 + 1 + 1) (va zs) := ⟨_, rfl⟩
  have T1 : Hid (Ar W7 (w.heap.size + 1) (ca (sts p A 0).c 65)) := by
    show Ar _ _ _
    rw [hW7]
    exact ((R1.out.1.row).rowo (by omega) _).rowo (by omega) _
  have T2 : Hid (Ar W7 (w.heap.size + 1 + 1) (ca (sts p A 0).b 65)) := by
    show Ar _ _ _
    rw [hW7]
    exact ((R1.out.2.1.rowo (by omega) _).row).rowo (by omega) _
  have T3 : Hid (∃ L, L.length = 65 ∧ Ar W7 (w.heap.size + 1 + 1 + 1) L) := by
    refine ⟨_, SZ.out, ?_⟩
    rw [hW7]
    exact R3.out.row
  have T0 : Hid (Ar W7 w.heap.size zs) := by
    show Ar _ _ _
    rw [hW7]
    exact ((R1.out.2.2.2.1.rowo (by omega) _).rowo (by omega) _).rowo (by omega) _
  have TB : Hid (Below w.heap.size w W7) := by
    rw [hW7]
    exact below_row (below_row (below_row R1.out.2.2.2.2 (by omega) _) (by omega) _) (by omega) _
  go_enter Try.func31, Try.ntmps31
  go_wp2_with (first | (refine wpl_store_ar rfl (.tmp 6) (.tmp 15) rfl (w.heap.size + 1) rfl (congrArg Value.agg zc_un) (L := zs) ?_ SZ.out SU.out ?_; exact R1.out.1) | (refine wpl_store_ar rfl (.tmp 7) (.tmp 16) rfl (w.heap.size + 1 + 1) rfl (congrArg Value.agg zc_un) (L := zs) ?_ SZ.out SU.out ?_; exact R2.out) | (refine wpl_store_ar rfl (.tmp 8) (.tmp 17) rfl (w.heap.size + 1 + 1 + 1) rfl (congrArg Value.agg zc_zs) (L := zs) ?_ SZ.out SZ.out ?_; exact R3.out))
  rw [← hW7]
  clear hW7 R1 R2 R3
  go_loopw [9, 10, 12, 20] (fun t9 t10 t12 t20 wr => ∃ k : Nat, k ≤ n ∧ t9 = .int .i64 ((sts p A k).l : Int) ∧ t10 = .int .i64 ((sts p A k).m : Int) ∧ t12 = .int .i64 (sts p A k).x ∧ t20 = .int .i64 (k : Int) ∧ Hid (Ar wr (w.heap.size + 1) (ca (sts p A k).c 65)) ∧ Hid (Ar wr (w.heap.size + 1 + 1) (ca (sts p A k).b 65)) ∧ Hid (∃ L, L.length = 65 ∧ Ar wr (w.heap.size + 1 + 1 + 1) L) ∧ Hid (Ar wr w.heap.size zs) ∧ Hid (Below w.heap.size w wr)) (fun _ _ _ t _ => n - (intOf t).toNat)
  case atStart => exact ⟨0, by omega, rfl, rfl, rfl, rfl, T1, T2, T3, T0, TB⟩
  case round =>
    obtain ⟨k, hk, rfl, rfl, rfl, rfl, a1, a2, a3, a0, hb⟩ := hrel
    clear T1 T2 T3 T0 TB
    obtain ⟨⟨c, b, l, m, x⟩, hs⟩ : ∃ s, s = sts p A k := ⟨_, rfl⟩
    have HO : Hid (Ok p k ⟨c, b, l, m, x⟩) := by rw [hs]; exact HST.out k
    have HSS : Hid (sts p A (k + 1) = st p A k ⟨c, b, l, m, x⟩) := by rw [hs]; exact sts_succ p A k
    rw [← hs] at a1 a2 ⊢
    have HSK : Hid (sts p A k = ⟨c, b, l, m, x⟩) := hs.symm
    dsimp only at a1 a2 ⊢
    have hlk : l ≤ k := HO.out.l
    have hm1 : 1 ≤ m := HO.out.m1
    have hm2 : m ≤ k + 1 := HO.out.m2
    have hx1 : 0 < x ∧ x < p := HO.out.x
    have hp13 := HP2.out.2
    clear hs
    by_cases hlt : k < n
    · have e1 : wr.cell? ⟨ab, aof + k, none⟩ = some (.int .i64 (at' A k)) := (hb.out.cell (p := ⟨ab, aof + k, none⟩) HAB.out).trans (HAC.out k hlt)
      have hz := HA.out.at (by have := HP2.out; omega) (by have := HP2.out; omega) k
      have HLr : Hid (Ls wr (.slice (some ⟨ab, aof, none⟩) n cap) A) := HL.out.below hb.out
      have HC1 : Hid (Ls wr (.slice (some ⟨w.heap.size + 1, 1, none⟩) l 64) (cl c l)) := ls_cl a1.out (by omega)
      have HB1 : Hid (Ls wr (.slice (some ⟨ab, aof + (k - l), none⟩) l (cap - (k - l))) (bl A k l)) := ls_bl HLr.out hlk (by have := HN.out; omega) (by have := HN.out; omega)
      have bdr : Hid (Below wr.heap.size wr wr.drew) := (Below.refl _ _).drew
      have HSUM : Hid (∀ W ad, ad = some (⟨ab, aof + (k - l), none⟩ : Addr) → Below wr.heap.size wr W → Calls Try.prog 37 #[.slice (some ⟨w.heap.size + 1, 1, none⟩) l 64, .slice ad l (cap - (k - l)), .int .i64 p] W fun e w' => e = .returned (.int .i64 (md (dc c A k l) p)) ∧ Below W.heap.size W w') := fun W ad ha hW => by
        subst ha
        have h := isum_any HP.out (by rw [cl_len]; omega) (by rw [cl_len, bl_len hlk (by have := HN.out; omega)]) (cl_in HO.out.c l) (bl_in HA.out k l) (HC1.out.below hW) (HB1.out.below hW)
        rw [cl_len, ds_dc hlk (by have := HN.out; omega) l (Nat.le_refl _)] at h
        exact h
      have hmd := md_range (dc c A k l) (p := p) (by have := HP2.out; omega)
      have HMS : Hid (md (at' A k + md (dc c A k l) p) p = ms p A k ⟨c, b, l, m, x⟩) := md_add _ _ (by have := HP2.out; omega)
      have HMI := Lib.hid (ms_in HP2.out.1 A k ⟨c, b, l, m, x⟩)
      generalize at' A k = z at *
      generalize md (dc c A k l) p = t at *
      obtain ⟨d, hd⟩ : ∃ d, d = ms p A k ⟨c, b, l, m, x⟩ := ⟨_, rfl⟩
      have HD : Hid (d = ms p A k ⟨c, b, l, m, x⟩) := hd
      rw [← hd] at HMS HMI
      clear hd
      have d1 : IntKind.i64.wrap ((l : Int) + 1) = (l : Int) + 1 := IntWalk.i64_in _ (by omega)
      have d2 : IntKind.i64.wrap ((k : Int) - (l : Int)) = (k : Int) - (l : Int) := IntWalk.i64_in _ (by omega)
      have d3 : (0 : Int) ≤ (k : Int) - (l : Int) := by omega
      have d4 : (k : Int) - (l : Int) ≤ (k : Int) := by omega
      have d5 : ((k : Int) - (l : Int)).toNat = k - l := by omega
      have d6 : (k : Int) ≤ (cap : Int) := by omega
      have d7 : (1 : Int) ≤ (l : Int) + 1 := by omega
      have d8 : (l : Int) + 1 ≤ 65 := by omega
      have d9 : k - l < cap := by omega
      have d10 : k - (k - l) = l := by omega
      have HMD : Hid (∀ W, Calls Try.prog 32 #[.int .i64 (z + t), .int .i64 p] W fun e w' => e = .returned (.int .i64 d) ∧ w' = W) := fun W => by rw [← HMS.out]; exact rem_any (z + t) p ⟨by have := HP2.out; omega, by omega⟩ W
      have d11 : IntKind.i64.wrap (z + t) = z + t := IntWalk.i64_in _ (by omega)
      go_upto_region 7 with fail
      refine wp_scope_ahead 0 rfl ?_
      go_upto_region 7 with fail
      go_cut [11] (fun s wx => s = .int .i64 d ∧ Hid (Below wr.heap.size wr wx))
      case first =>
        go_region_held3 (fun w' => Hid (Below wr.heap.size wr w'))
          (first | exact bdr | exact bs)
          (first
            | (go_at_call 37; refine (HSUM.out _ _ (if_neg (by omega)) bdr.out).mono ?_; rintro e wt ⟨rfl, b⟩; have bs : Hid (Below wr.heap.size wr wt) := bdr.out.trans (b.mono bdr.out.size); clear b)
            | (go_at_call 32; refine (HMD.out _).mono ?_; rintro e w3 ⟨rfl, hw3⟩; rw [hw3]; clear hw3))
        all_goals (go_wp2_with fail; go_meet; exact ⟨rfl, bs⟩)
      case rest =>
        obtain ⟨rfl, hbs⟩ := hcut
        have A1 : Hid (Ar wc (w.heap.size + 1) (ca c 65)) := a1.out.kept hbs.out
        have A2 : Hid (Ar wc (w.heap.size + 1 + 1) (ca b 65)) := a2.out.kept hbs.out
        have A3 : Hid (∃ L, L.length = 65 ∧ Ar wc (w.heap.size + 1 + 1 + 1) L) := by obtain ⟨L, h1, h2⟩ := a3.out; exact ⟨L, h1, h2.kept hbs.out⟩
        have A0 : Hid (Ar wc w.heap.size zs) := a0.out.kept hbs.out
        have AB : Hid (Below w.heap.size w wc) := hb.out.trans (hbs.out.mono hb.out.size)
        clear a1 a2 a3 a0 hb hbs HC1 HB1 HSUM bdr HMD HLr e1 HMS d1 d2 d3 d4 d5 d6 d7 d8 d9 d10 d11
        have HLB : Hid (l ≤ 64 ∧ m ≤ 65) := ⟨by omega, by omega⟩
        by_cases hd0 : d = 0
        · have HNX : Hid (sts p A (k + 1) = ⟨c, b, l, m + 1, x⟩) := by show _ = _; rw [HSS.out, st_zero (by rw [← HD.out]; exact hd0)]
          subst hd0
          go_wp2_with fail
          go_step3
          refine ⟨rfl, ?_⟩
          go_wp2_with fail
          simp only [Exit.noGoto]
          go_wp2_with fail
          go_roundw
          case rel => exact ⟨k + 1, by omega, by rw [HNX.out], by rw [HNX.out]; go_num, by rw [HNX.out], by go_num, by rw [HNX.out]; exact A1, by rw [HNX.out]; exact A2, A3, A0, AB⟩
          case measure => simp [RowKit.intOf]; omega
        · have hdz : (d == 0) = false := by rw [beq_eq_false_iff_ne]; exact hd0
          have HD0 : Hid (ms p A k ⟨c, b, l, m, x⟩ ≠ 0) := by show _ ≠ _; rw [← HD.out]; exact hd0
          have HIV := Lib.hid (inv_bd HP.out hx1)
          obtain ⟨f, hf⟩ : ∃ f, f = d * inv x p := ⟨_, rfl⟩
          have hfb := mul_ab (A := 12) (B := 12) (a := d) (b := inv x p) (by have := HMI.out; omega) (by have := HIV.out; omega)
          have hf0 : 0 ≤ d * inv x p := Int.mul_nonneg HMI.out.1 (by have := HIV.out; omega)
          rw [← hf] at hfb hf0
          have HF : Hid (f = ms p A k ⟨c, b, l, m, x⟩ * inv x p) := by show _ = _; rw [hf, HD.out]
          have g1 : IntKind.i64.wrap (d * inv x p) = f := by rw [← hf]; exact IntWalk.i64_in _ (by omega)
          have HINV : Hid (∀ W, Calls Try.prog 68 #[.int .i64 x, .int .i64 p] W fun e w' => e = .returned (.int .i64 (inv x p)) ∧ w' = W) := fun W => iinv_any x p HP.out hx1 W
          have HLS : Hid (∀ W, Calls Try.prog 67 #[.agg (va (ca c 65)), .int .i64 f, .agg (va (ca b 65)), .int .i64 (m : Int), .int .i64 p] W fun e w' => e = .returned (.agg (va (ca (ls p c b m f) 65))) ∧ Below W.heap.size W w') := fun W => ils_any HP.out ⟨hm1, HLB.out.2⟩ ⟨by omega, by omega⟩ HO.out.c HO.out.b W
          clear hf hfb hf0 hd0
          obtain ⟨L3, hL3, A3'⟩ := A3.out
          have A3H := Lib.hid A3'
          clear A3 A3'
          obtain ⟨C, hC⟩ : ∃ C, C = ca c 65 := ⟨_, rfl⟩
          obtain ⟨Bv, hBv⟩ : ∃ Bv, Bv = ca b 65 := ⟨_, rfl⟩
          obtain ⟨C', hC'⟩ : ∃ C', C' = ca (ls p c b m f) 65 := ⟨_, rfl⟩
          have HCl : Hid (C.length = 65 ∧ Bv.length = 65 ∧ C'.length = 65) := ⟨by rw [hC, ca_len], by rw [hBv, ca_len], by rw [hC', ca_len]⟩
          have HCe : Hid (C = ca c 65 ∧ Bv = ca b 65 ∧ C' = ca (ls p c b m f) 65) := ⟨hC, hBv, hC'⟩
          rw [← hC] at A1 HLS
          rw [← hBv] at A2 HLS
          rw [← hC'] at HLS
          clear hC hBv hC'
          have KA1 : Hid (Ar (wc.setRow (w.heap.size + 1 + 1 + 1) (va C)) (w.heap.size + 1) C) := A1.out.rowo (by omega) _
          have KA2 : Hid (Ar (wc.setRow (w.heap.size + 1 + 1 + 1) (va C)) (w.heap.size + 1 + 1) Bv) := A2.out.rowo (by omega) _
          have KA3 : Hid (Ar (wc.setRow (w.heap.size + 1 + 1 + 1) (va C)) (w.heap.size + 1 + 1 + 1) C) := A3H.out.row
          have KA0 : Hid (Ar (wc.setRow (w.heap.size + 1 + 1 + 1) (va C)) w.heap.size zs) := A0.out.rowo (by omega) _
          have KAB : Hid (Below w.heap.size w (wc.setRow (w.heap.size + 1 + 1 + 1) (va C))) := below_row AB.out (by omega) _
          obtain ⟨w9, hw9⟩ : ∃ x, x = wc.setRow (w.heap.size + 1 + 1 + 1) (va C) := ⟨_, rfl⟩
          rw [← hw9] at KA1 KA2 KA3 KA0 KAB
          go_upto_region 10 with (first | (refine wpl_load_ar rfl (.tmp 6) rfl (w.heap.size + 1) rfl (L := C) ?_ HCl.out.1 ?_; exact A1.out) | (refine wpl_store_ar rfl (.tmp 8) (.tmp 42) rfl (w.heap.size + 1 + 1 + 1) rfl (L := L3) (L' := C) (by rfl) ?_ hL3 HCl.out.1 ?_; exact A3H.out))
          rw [← hw9]
          clear hw9 A1 A2 A3H A0 AB hL3
          have DB : Hid (Below w9.heap.size w9 w9.drew) := (Below.refl _ _).drew
          have SZ9 : Hid (w.heap.size + 1 + 1 + 1 < w9.heap.size) := KA3.out.lt
          have LF : Hid (∀ wt, Below w9.heap.size w9 wt → Hid (Ar (wt.setRow (w.heap.size + 1) (va C')) (w.heap.size + 1) C') ∧ Hid (Ar (wt.setRow (w.heap.size + 1) (va C')) (w.heap.size + 1 + 1) Bv) ∧ Hid (Ar (wt.setRow (w.heap.size + 1) (va C')) (w.heap.size + 1 + 1 + 1) C) ∧ Hid (Ar (wt.setRow (w.heap.size + 1) (va C')) w.heap.size zs) ∧ Hid (Below w.heap.size w (wt.setRow (w.heap.size + 1) (va C')))) := fun wt hb =>
            ⟨(KA1.out.kept hb).row, (KA2.out.kept hb).rowo (by omega) _, (KA3.out.kept hb).rowo (by omega) _, (KA0.out.kept hb).rowo (by omega) _, below_row (KAB.out.trans (hb.mono KAB.out.size)) (by omega) _⟩
          simp only [Act.put, List.setIfInBounds_toArray, List.set_cons_zero, List.set_cons_succ]
          go_cut [48] (fun s wx => s = .int .i64 f ∧ Hid (Ar wx (w.heap.size + 1) C') ∧ Hid (Ar wx (w.heap.size + 1 + 1) Bv) ∧ Hid (Ar wx (w.heap.size + 1 + 1 + 1) C) ∧ Hid (Ar wx w.heap.size zs) ∧ Hid (Below w.heap.size w wx))
          case first =>
            refine wp_region_any (by kernel_rfl) ?_
            try (change wpAny _ _ _ _ _ _ _ (World.drew _))
            refine wpAny_take (i := 1) (oi := { dst := some 44, op := Op.move (Operand.tmp 11), type := 2, pos := "l07_series.go:428", after := #[], guard := none }) (v := .int .i64 d) rfl (by kernel_rfl) (by kernel_rfl) (by kernel_rfl) (fun _ _ _ h => h) (Or.inl ⟨by rfl, ?_⟩) ?_
            · intro w; go_simp
            try simp only [Act.put, List.setIfInBounds_toArray, List.set_cons_zero, List.set_cons_succ]
            refine wpAny_take (i := 2) (oi := { dst := some 45, op := Op.move (Operand.tmp 12), type := 2, pos := "l07_series.go:428", after := #[], guard := none }) (v := .int .i64 x) rfl (by kernel_rfl) (by kernel_rfl) (by kernel_rfl) (fun _ _ _ h => h) (Or.inl ⟨by rfl, ?_⟩) ?_
            · intro w; go_simp
            try simp only [Act.put, List.setIfInBounds_toArray, List.set_cons_zero, List.set_cons_succ]
            refine wpAny_take (i := 3) (oi := { dst := some 46, op := Op.move (Operand.tmp 1), type := 2, pos := "l07_series.go:428", after := #[], guard := none }) (v := .int .i64 p) rfl (by kernel_rfl) (by kernel_rfl) (by kernel_rfl) (fun _ _ _ h => h) (Or.inl ⟨by rfl, ?_⟩) ?_
            · intro w; go_simp
            try simp only [Act.put, List.setIfInBounds_toArray, List.set_cons_zero, List.set_cons_succ]
            refine wpAny_take (i := 7) (oi := { dst := some 50, op := Op.move (Operand.tmp 10), type := 3, pos := "l07_series.go:428", after := #[], guard := none }) (v := .int .i64 (m : Int)) rfl (by kernel_rfl) (by kernel_rfl) (by kernel_rfl) (fun _ _ _ h => h) (Or.inl ⟨by rfl, ?_⟩) ?_
            · intro w; go_simp
            try simp only [Act.put, List.setIfInBounds_toArray, List.set_cons_zero, List.set_cons_succ]
            refine wpAny_take (i := 8) (oi := { dst := some 51, op := Op.move (Operand.tmp 1), type := 2, pos := "l07_series.go:428", after := #[], guard := none }) (v := .int .i64 p) rfl (by kernel_rfl) (by kernel_rfl) (by kernel_rfl) (fun _ _ _ h => h) (Or.inl ⟨by rfl, ?_⟩) ?_
            · intro w; go_simp
            try simp only [Act.put, List.setIfInBounds_toArray, List.set_cons_zero, List.set_cons_succ]
            refine wpAny_ready (rs := [0, 4, 6]) (by kernel_rfl) (by simp) ?_
            refine AllReady.cons (o := { dst := some 43, op := Op.load 51 (Operand.tmp 6), type := 51, pos := "l07_series.go:428", after := #[], guard := none }) rfl (fun K hK => ?_) ?_
            · rw [if_pos (by rfl)]
              refine wp_load_ar (.tmp 6) rfl (w.heap.size + 1) rfl (L := C) KA1.out HCl.out.1 ?_
              refine hK _ _ ?_
              clear hK K
              try simp only [Act.put, List.setIfInBounds_toArray, List.set_cons_zero, List.set_cons_succ]
              refine wpAny_ready (rs := [4, 6]) (by kernel_rfl) (by simp) ?_
              refine AllReady.cons (o := { dst := some 47, op := Op.call { callee := Callee.value (Operand.func 68), args := #[Operand.tmp 45, Operand.tmp 46], argTypes := #[2, 2] }, type := 2, pos := "l07_series.go:428", after := #[{ on := 2, ground := Ground.data }, { on := 3, ground := Ground.data }], guard := none }) rfl (fun K hK => ?_) ?_
              · go_simp
                go_at_call 68
                refine (HINV.out _).mono ?_
                rintro e w0 ⟨rfl, hw0⟩
                rw [hw0]
                clear hw0
                first | (refine hK _ _ ?_; clear hK K) | skip
                try simp only [Act.put, List.setIfInBounds_toArray, List.set_cons_zero, List.set_cons_succ]
                refine wpAny_take (i := 5) (oi := { dst := some 48, op := Op.binOp BinOp.mul 2 (Operand.tmp 44) (Operand.tmp 47) 2, type := 2, pos := "l07_series.go:428", after := #[{ on := 1, ground := Ground.data }, { on := 4, ground := Ground.data }], guard := none }) (v := .int .i64 f) rfl (by kernel_rfl) (by kernel_rfl) (by kernel_rfl) (fun _ _ _ h => h) (Or.inl ⟨by rfl, ?_⟩) ?_
                · intro w; go_simp
                try simp only [Act.put, List.setIfInBounds_toArray, List.set_cons_zero, List.set_cons_succ]
                refine wpAny_ready (rs := [6]) (by kernel_rfl) (by simp) ?_
                refine AllReady.cons (o := { dst := some 49, op := Op.load 51 (Operand.tmp 7), type := 51, pos := "l07_series.go:428", after := #[], guard := none }) rfl (fun K hK => ?_) ?_
                · rw [if_pos (by rfl)]
                  refine wp_load_ar (.tmp 7) rfl (w.heap.size + 1 + 1) rfl (L := Bv) KA2.out HCl.out.2.1 ?_
                  refine hK _ _ ?_
                  clear hK K
                  try simp only [Act.put, List.setIfInBounds_toArray, List.set_cons_zero, List.set_cons_succ]
                  refine wpAny_ready (rs := [9]) (by kernel_rfl) (by simp) ?_
                  refine AllReady.cons (o := { dst := some 52, op := Op.call { callee := Callee.value (Operand.func 67), args := #[Operand.tmp 43, Operand.tmp 48, Operand.tmp 49, Operand.tmp 50, Operand.tmp 51], argTypes := #[51, 2, 51, 3, 2] }, type := 51, pos := "l07_series.go:428", after := #[{ on := 0, ground := Ground.data }, { on := 5, ground := Ground.data }, { on := 6, ground := Ground.data }, { on := 7, ground := Ground.data }, { on := 8, ground := Ground.data }, { on := 4, ground := Ground.chain }], guard := none }) rfl (fun K hK => ?_) ?_
                  · go_simp
                    go_at_call 67
                    refine (HLS.out _).mono ?_
                    rintro e wt ⟨rfl, bt⟩
                    have bs : Hid (Below w9.heap.size w9 wt) := DB.out.trans (bt.mono DB.out.size)
                    first | (refine hK _ _ ?_; clear hK K) | skip
                    clear bt
                    try simp only [Act.put, List.setIfInBounds_toArray, List.set_cons_zero, List.set_cons_succ]
                    refine wpAny_ready (rs := [10]) (by kernel_rfl) (by simp) ?_
                    refine AllReady.cons (o := { dst := none, op := Op.store 51 (Operand.tmp 6) (Operand.tmp 52), type := 0, pos := "l07_series.go:428", after := #[{ on := 9, ground := Ground.data }, { on := 9, ground := Ground.chain }, { on := 0, ground := Ground.phase }, { on := 1, ground := Ground.phase }, { on := 2, ground := Ground.phase }, { on := 3, ground := Ground.phase }, { on := 4, ground := Ground.phase }, { on := 5, ground := Ground.phase }, { on := 6, ground := Ground.phase }, { on := 7, ground := Ground.phase }, { on := 8, ground := Ground.phase }, { on := 9, ground := Ground.phase }], guard := none }) rfl (fun K hK => ?_) ?_
                    · rw [if_pos (by rfl)]
                      refine wp_store_ar (.tmp 6) (.tmp 52) rfl (w.heap.size + 1) rfl (L := C) (L' := C') rfl (KA1.out.kept bs.out) HCl.out.1 HCl.out.2.2 ?_
                      refine hK _ _ ?_
                      clear hK K
                      try simp only [Act.put]
                      refine wpAny_done (by kernel_rfl) ?_ _
                      (go_wp2_with fail; go_meet; exact ⟨rfl, LF.out _ bs.out⟩)
                    exact AllReady.nil
                  exact AllReady.nil
                exact AllReady.nil
              refine AllReady.cons (o := { dst := some 49, op := Op.load 51 (Operand.tmp 7), type := 51, pos := "l07_series.go:428", after := #[], guard := none }) rfl (fun K hK => ?_) ?_
              · rw [if_pos (by rfl)]
                refine wp_load_ar (.tmp 7) rfl (w.heap.size + 1 + 1) rfl (L := Bv) KA2.out HCl.out.2.1 ?_
                refine hK _ _ ?_
                clear hK K
                try simp only [Act.put, List.setIfInBounds_toArray, List.set_cons_zero, List.set_cons_succ]
                refine wpAny_ready (rs := [4]) (by kernel_rfl) (by simp) ?_
                refine AllReady.cons (o := { dst := some 47, op := Op.call { callee := Callee.value (Operand.func 68), args := #[Operand.tmp 45, Operand.tmp 46], argTypes := #[2, 2] }, type := 2, pos := "l07_series.go:428", after := #[{ on := 2, ground := Ground.data }, { on := 3, ground := Ground.data }], guard := none }) rfl (fun K hK => ?_) ?_
                · go_simp
                  go_at_call 68
                  refine (HINV.out _).mono ?_
                  rintro e w0 ⟨rfl, hw0⟩
                  rw [hw0]
                  clear hw0
                  first | (refine hK _ _ ?_; clear hK K) | skip
                  try simp only [Act.put, List.setIfInBounds_toArray, List.set_cons_zero, List.set_cons_succ]
                  refine wpAny_take (i := 5) (oi := { dst := some 48, op := Op.binOp BinOp.mul 2 (Operand.tmp 44) (Operand.tmp 47) 2, type := 2, pos := "l07_series.go:428", after := #[{ on := 1, ground := Ground.data }, { on := 4, ground := Ground.data }], guard := none }) (v := .int .i64 f) rfl (by kernel_rfl) (by kernel_rfl) (by kernel_rfl) (fun _ _ _ h => h) (Or.inl ⟨by rfl, ?_⟩) ?_
                  · intro w; go_simp
                  try simp only [Act.put, List.setIfInBounds_toArray, List.set_cons_zero, List.set_cons_succ]
                  refine wpAny_ready (rs := [9]) (by kernel_rfl) (by simp) ?_
                  refine AllReady.cons (o := { dst := some 52, op := Op.call { callee := Callee.value (Operand.func 67), args := #[Operand.tmp 43, Operand.tmp 48, Operand.tmp 49, Operand.tmp 50, Operand.tmp 51], argTypes := #[51, 2, 51, 3, 2] }, type := 51, pos := "l07_series.go:428", after := #[{ on := 0, ground := Ground.data }, { on := 5, ground := Ground.data }, { on := 6, ground := Ground.data }, { on := 7, ground := Ground.data }, { on := 8, ground := Ground.data }, { on := 4, ground := Ground.chain }], guard := none }) rfl (fun K hK => ?_) ?_
                  · go_simp
                    go_at_call 67
                    refine (HLS.out _).mono ?_
                    rintro e wt ⟨rfl, bt⟩
                    have bs : Hid (Below w9.heap.size w9 wt) := DB.out.trans (bt.mono DB.out.size)
                    first | (refine hK _ _ ?_; clear hK K) | skip
                    clear bt
                    try simp only [Act.put, List.setIfInBounds_toArray, List.set_cons_zero, List.set_cons_succ]
                    refine wpAny_ready (rs := [10]) (by kernel_rfl) (by simp) ?_
                    refine AllReady.cons (o := { dst := none, op := Op.store 51 (Operand.tmp 6) (Operand.tmp 52), type := 0, pos := "l07_series.go:428", after := #[{ on := 9, ground := Ground.data }, { on := 9, ground := Ground.chain }, { on := 0, ground := Ground.phase }, { on := 1, ground := Ground.phase }, { on := 2, ground := Ground.phase }, { on := 3, ground := Ground.phase }, { on := 4, ground := Ground.phase }, { on := 5, ground := Ground.phase }, { on := 6, ground := Ground.phase }, { on := 7, ground := Ground.phase }, { on := 8, ground := Ground.phase }, { on := 9, ground := Ground.phase }], guard := none }) rfl (fun K hK => ?_) ?_
                    · rw [if_pos (by rfl)]
                      refine wp_store_ar (.tmp 6) (.tmp 52) rfl (w.heap.size + 1) rfl (L := C) (L' := C') rfl (KA1.out.kept bs.out) HCl.out.1 HCl.out.2.2 ?_
                      refine hK _ _ ?_
                      clear hK K
                      try simp only [Act.put]
                      refine wpAny_done (by kernel_rfl) ?_ _
                      (go_wp2_with fail; go_meet; exact ⟨rfl, LF.out _ bs.out⟩)
                    exact AllReady.nil
                  exact AllReady.nil
                exact AllReady.nil
              exact AllReady.nil
            refine AllReady.cons (o := { dst := some 47, op := Op.call { callee := Callee.value (Operand.func 68), args := #[Operand.tmp 45, Operand.tmp 46], argTypes := #[2, 2] }, type := 2, pos := "l07_series.go:428", after := #[{ on := 2, ground := Ground.data }, { on := 3, ground := Ground.data }], guard := none }) rfl (fun K hK => ?_) ?_
            · go_simp
              go_at_call 68
              refine (HINV.out _).mono ?_
              rintro e w0 ⟨rfl, hw0⟩
              rw [hw0]
              clear hw0
              first | (refine hK _ _ ?_; clear hK K) | skip
              try simp only [Act.put, List.setIfInBounds_toArray, List.set_cons_zero, List.set_cons_succ]
              refine wpAny_take (i := 5) (oi := { dst := some 48, op := Op.binOp BinOp.mul 2 (Operand.tmp 44) (Operand.tmp 47) 2, type := 2, pos := "l07_series.go:428", after := #[{ on := 1, ground := Ground.data }, { on := 4, ground := Ground.data }], guard := none }) (v := .int .i64 f) rfl (by kernel_rfl) (by kernel_rfl) (by kernel_rfl) (fun _ _ _ h => h) (Or.inl ⟨by rfl, ?_⟩) ?_
              · intro w; go_simp
              try simp only [Act.put, List.setIfInBounds_toArray, List.set_cons_zero, List.set_cons_succ]
              refine wpAny_ready (rs := [0, 6]) (by kernel_rfl) (by simp) ?_
              refine AllReady.cons (o := { dst := some 43, op := Op.load 51 (Operand.tmp 6), type := 51, pos := "l07_series.go:428", after := #[], guard := none }) rfl (fun K hK => ?_) ?_
              · rw [if_pos (by rfl)]
                refine wp_load_ar (.tmp 6) rfl (w.heap.size + 1) rfl (L := C) KA1.out HCl.out.1 ?_
                refine hK _ _ ?_
                clear hK K
                try simp only [Act.put, List.setIfInBounds_toArray, List.set_cons_zero, List.set_cons_succ]
                refine wpAny_ready (rs := [6]) (by kernel_rfl) (by simp) ?_
                refine AllReady.cons (o := { dst := some 49, op := Op.load 51 (Operand.tmp 7), type := 51, pos := "l07_series.go:428", after := #[], guard := none }) rfl (fun K hK => ?_) ?_
                · rw [if_pos (by rfl)]
                  refine wp_load_ar (.tmp 7) rfl (w.heap.size + 1 + 1) rfl (L := Bv) KA2.out HCl.out.2.1 ?_
                  refine hK _ _ ?_
                  clear hK K
                  try simp only [Act.put, List.setIfInBounds_toArray, List.set_cons_zero, List.set_cons_succ]
                  refine wpAny_ready (rs := [9]) (by kernel_rfl) (by simp) ?_
                  refine AllReady.cons (o := { dst := some 52, op := Op.call { callee := Callee.value (Operand.func 67), args := #[Operand.tmp 43, Operand.tmp 48, Operand.tmp 49, Operand.tmp 50, Operand.tmp 51], argTypes := #[51, 2, 51, 3, 2] }, type := 51, pos := "l07_series.go:428", after := #[{ on := 0, ground := Ground.data }, { on := 5, ground := Ground.data }, { on := 6, ground := Ground.data }, { on := 7, ground := Ground.data }, { on := 8, ground := Ground.data }, { on := 4, ground := Ground.chain }], guard := none }) rfl (fun K hK => ?_) ?_
                  · go_simp
                    go_at_call 67
                    refine (HLS.out _).mono ?_
                    rintro e wt ⟨rfl, bt⟩
                    have bs : Hid (Below w9.heap.size w9 wt) := DB.out.trans (bt.mono DB.out.size)
                    first | (refine hK _ _ ?_; clear hK K) | skip
                    clear bt
                    try simp only [Act.put, List.setIfInBounds_toArray, List.set_cons_zero, List.set_cons_succ]
                    refine wpAny_ready (rs := [10]) (by kernel_rfl) (by simp) ?_
                    refine AllReady.cons (o := { dst := none, op := Op.store 51 (Operand.tmp 6) (Operand.tmp 52), type := 0, pos := "l07_series.go:428", after := #[{ on := 9, ground := Ground.data }, { on := 9, ground := Ground.chain }, { on := 0, ground := Ground.phase }, { on := 1, ground := Ground.phase }, { on := 2, ground := Ground.phase }, { on := 3, ground := Ground.phase }, { on := 4, ground := Ground.phase }, { on := 5, ground := Ground.phase }, { on := 6, ground := Ground.phase }, { on := 7, ground := Ground.phase }, { on := 8, ground := Ground.phase }, { on := 9, ground := Ground.phase }], guard := none }) rfl (fun K hK => ?_) ?_
                    · rw [if_pos (by rfl)]
                      refine wp_store_ar (.tmp 6) (.tmp 52) rfl (w.heap.size + 1) rfl (L := C) (L' := C') rfl (KA1.out.kept bs.out) HCl.out.1 HCl.out.2.2 ?_
                      refine hK _ _ ?_
                      clear hK K
                      try simp only [Act.put]
                      refine wpAny_done (by kernel_rfl) ?_ _
                      (go_wp2_with fail; go_meet; exact ⟨rfl, LF.out _ bs.out⟩)
                    exact AllReady.nil
                  exact AllReady.nil
                exact AllReady.nil
              refine AllReady.cons (o := { dst := some 49, op := Op.load 51 (Operand.tmp 7), type := 51, pos := "l07_series.go:428", after := #[], guard := none }) rfl (fun K hK => ?_) ?_
              · rw [if_pos (by rfl)]
                refine wp_load_ar (.tmp 7) rfl (w.heap.size + 1 + 1) rfl (L := Bv) KA2.out HCl.out.2.1 ?_
                refine hK _ _ ?_
                clear hK K
                try simp only [Act.put, List.setIfInBounds_toArray, List.set_cons_zero, List.set_cons_succ]
                refine wpAny_ready (rs := [0]) (by kernel_rfl) (by simp) ?_
                refine AllReady.cons (o := { dst := some 43, op := Op.load 51 (Operand.tmp 6), type := 51, pos := "l07_series.go:428", after := #[], guard := none }) rfl (fun K hK => ?_) ?_
                · rw [if_pos (by rfl)]
                  refine wp_load_ar (.tmp 6) rfl (w.heap.size + 1) rfl (L := C) KA1.out HCl.out.1 ?_
                  refine hK _ _ ?_
                  clear hK K
                  try simp only [Act.put, List.setIfInBounds_toArray, List.set_cons_zero, List.set_cons_succ]
                  refine wpAny_ready (rs := [9]) (by kernel_rfl) (by simp) ?_
                  refine AllReady.cons (o := { dst := some 52, op := Op.call { callee := Callee.value (Operand.func 67), args := #[Operand.tmp 43, Operand.tmp 48, Operand.tmp 49, Operand.tmp 50, Operand.tmp 51], argTypes := #[51, 2, 51, 3, 2] }, type := 51, pos := "l07_series.go:428", after := #[{ on := 0, ground := Ground.data }, { on := 5, ground := Ground.data }, { on := 6, ground := Ground.data }, { on := 7, ground := Ground.data }, { on := 8, ground := Ground.data }, { on := 4, ground := Ground.chain }], guard := none }) rfl (fun K hK => ?_) ?_
                  · go_simp
                    go_at_call 67
                    refine (HLS.out _).mono ?_
                    rintro e wt ⟨rfl, bt⟩
                    have bs : Hid (Below w9.heap.size w9 wt) := DB.out.trans (bt.mono DB.out.size)
                    first | (refine hK _ _ ?_; clear hK K) | skip
                    clear bt
                    try simp only [Act.put, List.setIfInBounds_toArray, List.set_cons_zero, List.set_cons_succ]
                    refine wpAny_ready (rs := [10]) (by kernel_rfl) (by simp) ?_
                    refine AllReady.cons (o := { dst := none, op := Op.store 51 (Operand.tmp 6) (Operand.tmp 52), type := 0, pos := "l07_series.go:428", after := #[{ on := 9, ground := Ground.data }, { on := 9, ground := Ground.chain }, { on := 0, ground := Ground.phase }, { on := 1, ground := Ground.phase }, { on := 2, ground := Ground.phase }, { on := 3, ground := Ground.phase }, { on := 4, ground := Ground.phase }, { on := 5, ground := Ground.phase }, { on := 6, ground := Ground.phase }, { on := 7, ground := Ground.phase }, { on := 8, ground := Ground.phase }, { on := 9, ground := Ground.phase }], guard := none }) rfl (fun K hK => ?_) ?_
                    · rw [if_pos (by rfl)]
                      refine wp_store_ar (.tmp 6) (.tmp 52) rfl (w.heap.size + 1) rfl (L := C) (L' := C') rfl (KA1.out.kept bs.out) HCl.out.1 HCl.out.2.2 ?_
                      refine hK _ _ ?_
                      clear hK K
                      try simp only [Act.put]
                      refine wpAny_done (by kernel_rfl) ?_ _
                      (go_wp2_with fail; go_meet; exact ⟨rfl, LF.out _ bs.out⟩)
                    exact AllReady.nil
                  exact AllReady.nil
                exact AllReady.nil
              exact AllReady.nil
            refine AllReady.cons (o := { dst := some 49, op := Op.load 51 (Operand.tmp 7), type := 51, pos := "l07_series.go:428", after := #[], guard := none }) rfl (fun K hK => ?_) ?_
            · rw [if_pos (by rfl)]
              refine wp_load_ar (.tmp 7) rfl (w.heap.size + 1 + 1) rfl (L := Bv) KA2.out HCl.out.2.1 ?_
              refine hK _ _ ?_
              clear hK K
              try simp only [Act.put, List.setIfInBounds_toArray, List.set_cons_zero, List.set_cons_succ]
              refine wpAny_ready (rs := [0, 4]) (by kernel_rfl) (by simp) ?_
              refine AllReady.cons (o := { dst := some 43, op := Op.load 51 (Operand.tmp 6), type := 51, pos := "l07_series.go:428", after := #[], guard := none }) rfl (fun K hK => ?_) ?_
              · rw [if_pos (by rfl)]
                refine wp_load_ar (.tmp 6) rfl (w.heap.size + 1) rfl (L := C) KA1.out HCl.out.1 ?_
                refine hK _ _ ?_
                clear hK K
                try simp only [Act.put, List.setIfInBounds_toArray, List.set_cons_zero, List.set_cons_succ]
                refine wpAny_ready (rs := [4]) (by kernel_rfl) (by simp) ?_
                refine AllReady.cons (o := { dst := some 47, op := Op.call { callee := Callee.value (Operand.func 68), args := #[Operand.tmp 45, Operand.tmp 46], argTypes := #[2, 2] }, type := 2, pos := "l07_series.go:428", after := #[{ on := 2, ground := Ground.data }, { on := 3, ground := Ground.data }], guard := none }) rfl (fun K hK => ?_) ?_
                · go_simp
                  go_at_call 68
                  refine (HINV.out _).mono ?_
                  rintro e w0 ⟨rfl, hw0⟩
                  rw [hw0]
                  clear hw0
                  first | (refine hK _ _ ?_; clear hK K) | skip
                  try simp only [Act.put, List.setIfInBounds_toArray, List.set_cons_zero, List.set_cons_succ]
                  refine wpAny_take (i := 5) (oi := { dst := some 48, op := Op.binOp BinOp.mul 2 (Operand.tmp 44) (Operand.tmp 47) 2, type := 2, pos := "l07_series.go:428", after := #[{ on := 1, ground := Ground.data }, { on := 4, ground := Ground.data }], guard := none }) (v := .int .i64 f) rfl (by kernel_rfl) (by kernel_rfl) (by kernel_rfl) (fun _ _ _ h => h) (Or.inl ⟨by rfl, ?_⟩) ?_
                  · intro w; go_simp
                  try simp only [Act.put, List.setIfInBounds_toArray, List.set_cons_zero, List.set_cons_succ]
                  refine wpAny_ready (rs := [9]) (by kernel_rfl) (by simp) ?_
                  refine AllReady.cons (o := { dst := some 52, op := Op.call { callee := Callee.value (Operand.func 67), args := #[Operand.tmp 43, Operand.tmp 48, Operand.tmp 49, Operand.tmp 50, Operand.tmp 51], argTypes := #[51, 2, 51, 3, 2] }, type := 51, pos := "l07_series.go:428", after := #[{ on := 0, ground := Ground.data }, { on := 5, ground := Ground.data }, { on := 6, ground := Ground.data }, { on := 7, ground := Ground.data }, { on := 8, ground := Ground.data }, { on := 4, ground := Ground.chain }], guard := none }) rfl (fun K hK => ?_) ?_
                  · go_simp
                    go_at_call 67
                    refine (HLS.out _).mono ?_
                    rintro e wt ⟨rfl, bt⟩
                    have bs : Hid (Below w9.heap.size w9 wt) := DB.out.trans (bt.mono DB.out.size)
                    first | (refine hK _ _ ?_; clear hK K) | skip
                    clear bt
                    try simp only [Act.put, List.setIfInBounds_toArray, List.set_cons_zero, List.set_cons_succ]
                    refine wpAny_ready (rs := [10]) (by kernel_rfl) (by simp) ?_
                    refine AllReady.cons (o := { dst := none, op := Op.store 51 (Operand.tmp 6) (Operand.tmp 52), type := 0, pos := "l07_series.go:428", after := #[{ on := 9, ground := Ground.data }, { on := 9, ground := Ground.chain }, { on := 0, ground := Ground.phase }, { on := 1, ground := Ground.phase }, { on := 2, ground := Ground.phase }, { on := 3, ground := Ground.phase }, { on := 4, ground := Ground.phase }, { on := 5, ground := Ground.phase }, { on := 6, ground := Ground.phase }, { on := 7, ground := Ground.phase }, { on := 8, ground := Ground.phase }, { on := 9, ground := Ground.phase }], guard := none }) rfl (fun K hK => ?_) ?_
                    · rw [if_pos (by rfl)]
                      refine wp_store_ar (.tmp 6) (.tmp 52) rfl (w.heap.size + 1) rfl (L := C) (L' := C') rfl (KA1.out.kept bs.out) HCl.out.1 HCl.out.2.2 ?_
                      refine hK _ _ ?_
                      clear hK K
                      try simp only [Act.put]
                      refine wpAny_done (by kernel_rfl) ?_ _
                      (go_wp2_with fail; go_meet; exact ⟨rfl, LF.out _ bs.out⟩)
                    exact AllReady.nil
                  exact AllReady.nil
                exact AllReady.nil
              refine AllReady.cons (o := { dst := some 47, op := Op.call { callee := Callee.value (Operand.func 68), args := #[Operand.tmp 45, Operand.tmp 46], argTypes := #[2, 2] }, type := 2, pos := "l07_series.go:428", after := #[{ on := 2, ground := Ground.data }, { on := 3, ground := Ground.data }], guard := none }) rfl (fun K hK => ?_) ?_
              · go_simp
                go_at_call 68
                refine (HINV.out _).mono ?_
                rintro e w0 ⟨rfl, hw0⟩
                rw [hw0]
                clear hw0
                first | (refine hK _ _ ?_; clear hK K) | skip
                try simp only [Act.put, List.setIfInBounds_toArray, List.set_cons_zero, List.set_cons_succ]
                refine wpAny_take (i := 5) (oi := { dst := some 48, op := Op.binOp BinOp.mul 2 (Operand.tmp 44) (Operand.tmp 47) 2, type := 2, pos := "l07_series.go:428", after := #[{ on := 1, ground := Ground.data }, { on := 4, ground := Ground.data }], guard := none }) (v := .int .i64 f) rfl (by kernel_rfl) (by kernel_rfl) (by kernel_rfl) (fun _ _ _ h => h) (Or.inl ⟨by rfl, ?_⟩) ?_
                · intro w; go_simp
                try simp only [Act.put, List.setIfInBounds_toArray, List.set_cons_zero, List.set_cons_succ]
                refine wpAny_ready (rs := [0]) (by kernel_rfl) (by simp) ?_
                refine AllReady.cons (o := { dst := some 43, op := Op.load 51 (Operand.tmp 6), type := 51, pos := "l07_series.go:428", after := #[], guard := none }) rfl (fun K hK => ?_) ?_
                · rw [if_pos (by rfl)]
                  refine wp_load_ar (.tmp 6) rfl (w.heap.size + 1) rfl (L := C) KA1.out HCl.out.1 ?_
                  refine hK _ _ ?_
                  clear hK K
                  try simp only [Act.put, List.setIfInBounds_toArray, List.set_cons_zero, List.set_cons_succ]
                  refine wpAny_ready (rs := [9]) (by kernel_rfl) (by simp) ?_
                  refine AllReady.cons (o := { dst := some 52, op := Op.call { callee := Callee.value (Operand.func 67), args := #[Operand.tmp 43, Operand.tmp 48, Operand.tmp 49, Operand.tmp 50, Operand.tmp 51], argTypes := #[51, 2, 51, 3, 2] }, type := 51, pos := "l07_series.go:428", after := #[{ on := 0, ground := Ground.data }, { on := 5, ground := Ground.data }, { on := 6, ground := Ground.data }, { on := 7, ground := Ground.data }, { on := 8, ground := Ground.data }, { on := 4, ground := Ground.chain }], guard := none }) rfl (fun K hK => ?_) ?_
                  · go_simp
                    go_at_call 67
                    refine (HLS.out _).mono ?_
                    rintro e wt ⟨rfl, bt⟩
                    have bs : Hid (Below w9.heap.size w9 wt) := DB.out.trans (bt.mono DB.out.size)
                    first | (refine hK _ _ ?_; clear hK K) | skip
                    clear bt
                    try simp only [Act.put, List.setIfInBounds_toArray, List.set_cons_zero, List.set_cons_succ]
                    refine wpAny_ready (rs := [10]) (by kernel_rfl) (by simp) ?_
                    refine AllReady.cons (o := { dst := none, op := Op.store 51 (Operand.tmp 6) (Operand.tmp 52), type := 0, pos := "l07_series.go:428", after := #[{ on := 9, ground := Ground.data }, { on := 9, ground := Ground.chain }, { on := 0, ground := Ground.phase }, { on := 1, ground := Ground.phase }, { on := 2, ground := Ground.phase }, { on := 3, ground := Ground.phase }, { on := 4, ground := Ground.phase }, { on := 5, ground := Ground.phase }, { on := 6, ground := Ground.phase }, { on := 7, ground := Ground.phase }, { on := 8, ground := Ground.phase }, { on := 9, ground := Ground.phase }], guard := none }) rfl (fun K hK => ?_) ?_
                    · rw [if_pos (by rfl)]
                      refine wp_store_ar (.tmp 6) (.tmp 52) rfl (w.heap.size + 1) rfl (L := C) (L' := C') rfl (KA1.out.kept bs.out) HCl.out.1 HCl.out.2.2 ?_
                      refine hK _ _ ?_
                      clear hK K
                      try simp only [Act.put]
                      refine wpAny_done (by kernel_rfl) ?_ _
                      (go_wp2_with fail; go_meet; exact ⟨rfl, LF.out _ bs.out⟩)
                    exact AllReady.nil
                  exact AllReady.nil
                exact AllReady.nil
              exact AllReady.nil
            exact AllReady.nil
          case rest =>
            obtain ⟨rfl, B1, B2, B3, B00, BB⟩ := hcut
            have HCS : Hid (ca (ls p c b m (ms p A k ⟨c, b, l, m, x⟩ * inv x p)) 65 = C') := by show _ = _; rw [← HF.out, HCe.out.2.2]
            have HCB : Hid (ca c 65 = C ∧ ca b 65 = Bv) := ⟨HCe.out.1.symm, HCe.out.2.1.symm⟩
            clear KA1 KA2 KA3 KA0 KAB LF HLS HINV DB g1 SZ9
            by_cases h2 : 2 * l ≤ k
            · have HNX : Hid (sts p A (k + 1) = { c := ls p c b m (ms p A k ⟨c, b, l, m, x⟩ * inv x p), b := c, l := k + 1 - l, m := 1, x := d }) := by show _ = _; rw [HSS.out, st_long HD0.out h2, HD.out]
              have E1 : Hid (Ar (wc.setRow (w.heap.size + 1 + 1) (va C)) (w.heap.size + 1) C') := B1.out.rowo (by omega) _
              have E2 : Hid (Ar (wc.setRow (w.heap.size + 1 + 1) (va C)) (w.heap.size + 1 + 1) C) := B2.out.row
              have E3 : Hid (∃ L, L.length = 65 ∧ Ar (wc.setRow (w.heap.size + 1 + 1) (va C)) (w.heap.size + 1 + 1 + 1) L) := ⟨C, HCl.out.1, B3.out.rowo (by omega) _⟩
              have E0 : Hid (Ar (wc.setRow (w.heap.size + 1 + 1) (va C)) w.heap.size zs) := B00.out.rowo (by omega) _
              have EB : Hid (Below w.heap.size w (wc.setRow (w.heap.size + 1 + 1) (va C))) := below_row BB.out (by omega) _
              have hkl : (k : Int) + 1 - (l : Int) = ((k + 1 - l : Nat) : Int) := by omega
              have HKL : Hid ((k : Int) + 1 - (l : Int) = ((k + 1 - l : Nat) : Int)) := hkl
              clear hkl
              go_wp2_with (first | (refine wpl_load_ar rfl (.tmp 8) rfl (w.heap.size + 1 + 1 + 1) rfl (L := C) ?_ HCl.out.1 ?_; exact B3.out) | (refine wpl_store_ar rfl (.tmp 7) (.tmp 61) rfl (w.heap.size + 1 + 1) rfl (L := Bv) (L' := C) (by rfl) ?_ HCl.out.2.1 HCl.out.1 ?_; exact B2.out))
              simp only [Exit.jump]
              go_wp2_with fail
              go_roundw
              case rel => exact ⟨k + 1, by omega, by rw [HNX.out]; exact congrArg (Value.int .i64) HKL.out, by rw [HNX.out]; rfl, by rw [HNX.out], by go_num, by rw [HNX.out]; show Hid (Ar _ _ (ca (ls p c b m (ms p A k ⟨c, b, l, m, x⟩ * inv x p)) 65)); rw [HCS.out]; exact E1, by rw [HNX.out]; show Hid (Ar _ _ (ca c 65)); rw [HCB.out.1]; exact E2, E3, E0, EB⟩
              case measure => simp [RowKit.intOf]; omega
            · have HNX : Hid (sts p A (k + 1) = { c := ls p c b m (ms p A k ⟨c, b, l, m, x⟩ * inv x p), b := b, l := l, m := m + 1, x := x }) := by show _ = _; rw [HSS.out, st_same HD0.out h2]
              have E3 : Hid (∃ L, L.length = 65 ∧ Ar wc (w.heap.size + 1 + 1 + 1) L) := ⟨C, HCl.out.1, B3.out⟩
              go_wp2_with fail
              go_step3
              refine ⟨rfl, ?_⟩
              go_wp2_with fail
              simp only [Exit.noGoto]
              go_wp2_with fail
              go_roundw
              case rel => exact ⟨k + 1, by omega, by rw [HNX.out], by rw [HNX.out]; go_num, by rw [HNX.out], by go_num, by rw [HNX.out]; show Hid (Ar _ _ (ca (ls p c b m (ms p A k ⟨c, b, l, m, x⟩ * inv x p)) 65)); rw [HCS.out]; exact B1, by rw [HNX.out]; show Hid (Ar _ _ (ca b 65)); rw [HCB.out.2]; exact B2, E3, B00, BB⟩
              case measure => simp [RowKit.intOf]; omega
    · obtain rfl : k = n := by omega
      have HCk : Hid (ca (sts p A k).c 65 = ca c 65 ∧ (sts p A k).l = l) := by rw [HSK.out]; exact ⟨rfl, rfl⟩
      obtain ⟨C, hC⟩ : ∃ C, C = ca c 65 := ⟨_, rfl⟩
      have HCl : Hid (C.length = 65) := by show _ = _; rw [hC, ca_len]
      have HCe : Hid (va (ca (sts p A k).c 65) = va C ∧ (sts p A k).l = l) := ⟨by rw [HCk.out.1, hC], HCk.out.2⟩
      rw [← hC] at a1
      clear hC
      have AR : Hid (Ar (wr.setRow w.heap.size (va C)) w.heap.size C) := a0.out.row
      have HB : Hid (Below w.heap.size w (wr.setRow w.heap.size (va C))) := below_row hb.out (Nat.le_refl _) _
      have hrow := run_loadVar_row (P := Try.prog) (wr.setRow w.heap.size (va C)) w.heap.size 51 51 (va C) (0, 0) _ AR.out Try.underlying51 rfl (by rw [va_size, HCl.out]; exact info_r)
      have HR := Lib.hid hrow
      clear hrow
      go_wp2_with (first | (refine wpl_load_ar rfl (.tmp 6) rfl (w.heap.size + 1) rfl (L := C) ?_ HCl.out ?_; exact a1.out) | (refine wpl_store_ar rfl (.tmp 4) (.tmp 66) rfl w.heap.size rfl (L := zs) (L' := C) (by rfl) ?_ SZ.out HCl.out ?_; exact a0.out))
      refine bodyPost_ret (v := .tuple #[.agg (va C), .int .i64 (l : Int)]) (by simp [results, Try.results31, asAddr, HR.out]) rfl ?_
      exact ⟨by rw [HCe.out.1, HCe.out.2], HB.out⟩
end Go.Proofs.Ytfmdbgpalldjoaa.ru
