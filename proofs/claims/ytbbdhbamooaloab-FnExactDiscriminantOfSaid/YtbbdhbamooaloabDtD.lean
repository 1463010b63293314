/- Resultants: the program's determinant, over sets of columns. -/
import Derived.Test.YtbbdhbamooaloabDtC
namespace Go.Proofs.Ytbbdhbamooaloab.res
open Go.RowKit Go.Pl Go.Proofs.Ytbbdhbamooaloab.wh

/-- what the program's bits tell of a set and a column -/
theorem bit_facts : ∀ c : Nat, c < 8 → ∀ s : Nat, s < 256 → (bits BinOp.and IntKind.i64 (s : Int) ((2 ^ c : Nat) : Int) = if s.testBit c = true then ((2 ^ c : Nat) : Int) else 0) ∧
    (s.testBit c = true → sg ((cols s).length - 1 + cnt s c) = if (cols (s / 2 ^ c)).length % 2 = 0 then -1 else 1) := by decide +kernel
theorem cols_facts : ∀ n : Nat, n < 9 → ∀ s : Nat, s < 2 ^ n → (cols s).length ≤ n ∧ (1 ≤ s → 1 ≤ (cols s).length) := by decide +kernel
theorem bit_high : ∀ c : Nat, c < 8 → ∀ n : Nat, n < 9 → ∀ s : Nat, s < 2 ^ n → n ≤ c → s.testBit c = false := by decide +kernel
theorem cols_all : ∀ n : Nat, n < 9 → cols (2 ^ n - 1) = List.range n ∧ 2 ^ n ≤ 256 ∧ 1 ≤ 2 ^ n ∧ wrap64 ((2 : Int) ^ n) = ((2 ^ n : Nat) : Int) := by decide +kernel

/-- the parts, up to the set s, whose own part is z so far -/
def pl (rs : List (List Int)) (M s : Nat) (z : Int) : List Int := (List.range M).map fun t => if t < s then pt rs t else if t = s then z else 0
theorem pl_len (rs : List (List Int)) (M s : Nat) (z : Int) : (pl rs M s z).length = M := by simp [pl]
theorem pl_get (rs : List (List Int)) {M : Nat} (s : Nat) (z : Int) {t : Nat} (h : t < M) : (pl rs M s z)[t]? = some (if t < s then pt rs t else if t = s then z else 0) := by
  unfold pl
  rw [List.getElem?_map, List.getElem?_range h]
  rfl
theorem pl_set (rs : List (List Int)) {M s : Nat} (z z' : Int) (h : s < M) : (pl rs M s z).set s z' = pl rs M s z' := by
  refine List.ext_getElem? fun t => ?_
  by_cases ht : t < M
  · by_cases e : t = s
    · subst e
      rw [List.getElem?_set_self (by rw [pl_len]; exact h), pl_get rs t z' ht, if_neg (by omega), if_pos rfl]
    · rw [List.getElem?_set_ne (fun e' => e e'.symm), pl_get rs s z ht, pl_get rs s z' ht, if_neg e, if_neg e]
  · rw [List.getElem?_eq_none (by rw [List.length_set, pl_len]; omega), List.getElem?_eq_none (by rw [pl_len]; omega)]
theorem pl_next (rs : List (List Int)) (M s : Nat) : pl rs M s (pt rs s) = pl rs M (s + 1) 0 := by
  refine List.ext_getElem? fun t => ?_
  by_cases ht : t < M
  · rw [pl_get rs s _ ht, pl_get rs (s + 1) _ ht]
    congr 1
    by_cases h1 : t < s
    · rw [if_pos h1, if_pos (by omega)]
    · rw [if_neg h1]
      by_cases h2 : t = s
      · rw [if_pos h2, if_pos (by omega), h2]
      · rw [if_neg h2, if_neg (by omega)]; simp
  · rw [List.getElem?_eq_none (by rw [pl_len]; omega), List.getElem?_eq_none (by rw [pl_len]; omega)]
theorem pl_start (rs : List (List Int)) {M : Nat} : (List.replicate M (0 : Int)).set 0 1 = pl rs M 1 0 := by
  refine List.ext_getElem? fun t => ?_
  by_cases ht : t < M
  · rw [pl_get rs 1 0 ht]
    by_cases e : t = 0
    · subst e
      rw [List.getElem?_set_self (by simp; omega), if_pos (by omega), pt_zero]
    · rw [List.getElem?_set_ne (by omega), if_neg (by omega), List.getElem?_replicate_of_lt ht]; simp
  · rw [List.getElem?_eq_none (by simp; omega), List.getElem?_eq_none (by rw [pl_len]; omega)]
/-- what a column adds -/
def tm (rs : List (List Int)) (r : List Int) (k s c : Nat) : Int := if s.testBit c = true then sg (k + cnt s c) * (at' r c * pt rs (s - 2 ^ c)) else 0
theorem pt_tm {rs : List (List Int)} {N s k : Nat} {r : List Int} (hN : rs.length = N) (hN8 : N ≤ 8) (hs : s < 2 ^ N) (hk : (cols s).length = k + 1) (hr : rs[k]? = some r) : pt rs s = sm (tm rs r k s) N := by
  have h256 := (cols_all N (by omega)).2.1
  have hkN := (cols_facts N (by omega) s hs).1
  rw [pt_go (by omega) hk (by omega), hr]
  rw [← sm_more (f := tm rs r k s) (m := N) 8 hN8 fun c h1 h2 => by unfold tm; rw [bit_high c h2 N (by omega) s hs h1]; rfl]
  rfl
theorem pt_bd {rs : List (List Int)} (hb : Rb 20 rs) {t : Nat} (h7 : (cols t).length ≤ 7) : -2684354560000000 ≤ pt rs t ∧ pt rs t ≤ 2684354560000000 := by
  unfold pt
  have h := dt_bd (rs.take (cols t).length) (cols t) (fun r hr => hb r (List.mem_of_mem_take hr)) (by omega)
  have h2 : 160 ^ (rs.take (cols t).length).length ≤ 160 ^ 7 := Nat.pow_le_pow_right (by omega) (by rw [List.length_take]; omega)
  have h3 : 160 ^ 7 = 2684354560000000 := by decide
  rw [h3] at h2
  omega
theorem tm_bd {rs : List (List Int)} (hb : Rb 20 rs) {r : List Int} (hr : r ∈ rs) {k s : Nat} (hs : s < 256) (hk : (cols s).length ≤ 8) (c : Nat) (hc : c < 8) : -53687091200000000 ≤ tm rs r k s c ∧ tm rs r k s c ≤ 53687091200000000 := by
  unfold tm
  split
  · next h =>
    obtain ⟨_, f2, _, _⟩ := set_facts s hs c hc h
    have h1 := pt_bd (rs := rs) hb (t := s - 2 ^ c) (by omega)
    have h2 := mul_le (hb r hr c) (B := 2684354560000000) h1
    rcases sg_cases (k + cnt s c) with e | e <;> rw [e]
    · rw [Int.one_mul]; omega
    · rw [Int.neg_mul, Int.one_mul]; omega
  · omega

set_option maxRecDepth 100000 in
set_option maxHeartbeats 8000000 in
theorem det_any {v : Value} {rs : List (List Int)} {N : Nat} {w : World} (h : RdWs w w.heap.size v rs) (hN : rs.length = N) (hN8 : 2 ≤ N ∧ N ≤ 8) (hl : ∀ r ∈ rs, r.length = N) (hb : Rb 20 rs) :
    Calls Try.prog 48 #[v] w fun e w' => e = .returned (.int .i64 (dt rs (List.range N))) ∧ Below w.heap.size w w' := by
  obtain ⟨i2, hi2, hx0, hx1, hx2⟩ := info_parts info_i
  obtain ⟨_, cap, rfl, _, hcap, hq⟩ := h
  obtain ⟨b0, f0, rfl, hb0, hrow⟩ := hq (by omega)
  rw [hN] at hcap ⊢
  obtain ⟨hall, hM256, hM1, hwM⟩ := cols_all N (by omega)
  obtain ⟨M, hM⟩ : ∃ M, M = 2 ^ N := ⟨_, rfl⟩
  have HM : Hid (M = 2 ^ N) := hM
  rw [← hM] at hall hM256 hM1 hwM
  have HD : Hid (pt rs (M - 1) = dt rs (List.range N)) := by
    show _ = _
    unfold pt
    rw [hall, List.length_range, List.take_of_length_le (by omega)]
  have HL : Hid (∀ r ∈ rs, r.length = N) := hl
  have HRB : Hid (Rb 20 rs) := hb
  have HN : Hid (rs.length = N) := hN
  have HR : Hid (∀ wr, Below w.heap.size w wr → ∀ k r, rs[k]? = some r → ∃ br fr cr, wr.cell? ⟨b0, f0 + k, none⟩ = some (.slice (some ⟨br, fr, none⟩) N cr) ∧ br < w.heap.size ∧ ∀ wx, Below w.heap.size w wx → ∀ c : Nat, c < N → wx.cell? ⟨br, fr + c, none⟩ = some (.int .i64 (at' r c))) := fun wr b k r hk => by
    obtain ⟨s, e1, e2⟩ := hrow k r hk
    obtain ⟨_, cr, rfl, _, _, hq⟩ := e2
    have hrl := hl r (List.mem_of_getElem? hk)
    obtain ⟨br, fr, rfl, q1, q2⟩ := hq (by omega)
    rw [hrl] at e1
    exact ⟨br, fr, cr, (b.cell (p := ⟨b0, f0 + k, none⟩) hb0).trans e1, q1, fun wx bx c hc => (bx.cell (p := ⟨br, fr + c, none⟩) q1).trans (q2 c _ (at_some r c (by omega)))⟩
  have hM3 : 3 ≤ M := by
    have : 2 ^ 2 ≤ 2 ^ N := Nat.pow_le_pow_right (by omega) hN8.1
    omega
  clear hrow hq hl hb hN hM hall
  go_enter Try.func48, Try.ntmps48
  go_wp2_with (first
    | (refine wpList_make_full _ rfl (.tmp 12) (.tmp 12) 31 rfl w.heap.size 2 i2 (.int .i64 0) 1 Try.underlying31 hi2 hx0 hx1 .i64 .i64 _ _ M rfl rfl (by first | exact hwM | rfl) (by first | exact hwM | rfl) (by rw [hx2]; omega) (by unfold maxLen; omega) (Nat.le_refl _) ?_; intro w1 hown hgrow; have K0 : Hid (Bk w1 w.heap.size (List.replicate M 0)) := bk_of_made hown; have B0 : Hid (Below w.heap.size w w1) := (Below.refl _ _).grown hgrow (Nat.le_refl _) (by intro j hj; cases hj); have c0 : w1.cell? ⟨w.heap.size, 0, none⟩ = some (.int .i64 0) := K0.out.cell (List.getElem?_replicate_of_lt (by omega)); have f0' : w1.frozen? ⟨w.heap.size, 0, none⟩ = false := K0.out.free 0; clear hown hgrow))
  have K1 : Hid (Bk (w1.setCell ⟨w.heap.size, 0, none⟩ (.int .i64 1)) w.heap.size (pl rs M 1 0)) := by rw [← pl_start rs]; exact K0.out.set 0 1
  have B1 : Hid (Below w.heap.size w (w1.setCell ⟨w.heap.size, 0, none⟩ (.int .i64 1))) := B0.out.setCell (Nat.le_refl _) _
  clear K0 B0 c0 f0'
  go_loopw [4] (fun q wr => ∃ s : Nat, 1 ≤ s ∧ s ≤ M ∧ q = .int .i64 (s : Int) ∧ Hid (Bk wr w.heap.size (pl rs M s 0)) ∧ Hid (Below w.heap.size w wr)) (fun q _ => M - (intOf q).toNat)
  case atStart => exact ⟨1, by omega, by omega, rfl, K1, B1⟩
  case round =>
    obtain ⟨s, hs1, hsM, rfl, hK, hB⟩ := hrel
    obtain ⟨wq, hwq⟩ : ∃ x, x = wr := ⟨_, rfl⟩
    subst hwq
    clear K1 B1
    by_cases hlt : s < M
    · have hcf := cols_facts N (by omega) s (by have := HM.out; omega)
      obtain ⟨k, hk⟩ : ∃ k, (cols s).length = k + 1 := ⟨(cols s).length - 1, by have := hcf.2 hs1; omega⟩
      have HK : Hid ((cols s).length = k + 1) := hk
      have hkN : k < N := by omega
      obtain ⟨r, hr⟩ : ∃ r, rs[k]? = some r := ⟨rs[k]'(by have := HN.out; omega), List.getElem?_eq_getElem _⟩
      have HRK : Hid (rs[k]? = some r) := hr
      have HRM : Hid (r ∈ rs) := List.mem_of_getElem? hr
      obtain ⟨br, fr, cr, e0, hbr, hel⟩ := HR.out _ hB.out k r hr
      have EL : Hid (∀ wx, Below w.heap.size w wx → ∀ c : Nat, c < N → wx.cell? ⟨br, fr + c, none⟩ = some (.int .i64 (at' r c))) := hel
      clear hr hel hcf
      have H256 : Hid (s < 256) := by show _ < _; omega
      go_wp2_with fail
      refine (ones_any s H256.out wq).mono ?_
      rintro e w2 ⟨rfl, hw2⟩
      rw [hw2, HK.out]
      clear hw2 w2 hk
      go_wp2_with fail
      go_loopw [31] (fun q wr => ∃ c : Nat, c ≤ N ∧ q = .int .i64 (c : Int) ∧ Hid (Bk wr w.heap.size (pl rs M s (sm (tm rs r k s) c))) ∧ Hid (Below w.heap.size w wr)) (fun q _ => N - (intOf q).toNat)
      case atStart => exact ⟨0, by omega, rfl, hK, hB⟩
      case round =>
        obtain ⟨c, hcN, rfl, hK2, hB2⟩ := hrel
        obtain ⟨wx, hwx⟩ : ∃ x, x = wr := ⟨_, rfl⟩
        subst hwx
        by_cases hltc : c < N
        · have ex := EL.out _ hB2.out c hltc
          obtain ⟨x, hx⟩ : ∃ x, at' r c = x := ⟨_, rfl⟩
          have HX : Hid (at' r c = x) := hx
          have hxb : -20 ≤ x ∧ x ≤ 20 := by rw [← hx]; exact HRB.out r HRM.out c
          rw [hx] at ex
          obtain ⟨_, hc256, hc1, hwc⟩ := cols_all c (by omega)
          obtain ⟨B, hBd⟩ : ∃ B, B = 2 ^ c := ⟨_, rfl⟩
          have HBD : Hid (B = 2 ^ c) := hBd
          rw [← hBd] at hc256 hc1 hwc
          have hbf := bit_facts c (by omega) s H256.out
          rw [← hBd] at hbf
          clear hx hBd
          cases hbit : s.testBit c with
          | false =>
            have hand : bits BinOp.and IntKind.i64 (s : Int) (B : Int) = 0 := by rw [hbf.1, if_neg (by rw [hbit]; decide)]
            have NK : Hid (Bk wx w.heap.size (pl rs M s (sm (tm rs r k s) (c + 1)))) := by
              have e : sm (tm rs r k s) (c + 1) = sm (tm rs r k s) c := by
                rw [sm_succ]; unfold tm; rw [if_neg (by rw [hbit]; decide), Int.add_zero]
              rw [e]; exact hK2.out
            clear hbf hK2 hbit
            go_wp2_with fail
            go_roundw
            case rel => exact ⟨c + 1, by omega, by go_num, NK, hB2⟩
            case measure => simp [intOf]; omega
          | true =>
            have hand : bits BinOp.and IntKind.i64 (s : Int) (B : Int) = (B : Int) := by rw [hbf.1, if_pos hbit]
            have hsgn := hbf.2 hbit
            rw [HK.out, Nat.add_sub_cancel] at hsgn
            obtain ⟨_, f2, _, f4⟩ := set_facts s H256.out c (by omega) hbit
            rw [← HBD.out] at f2 f4
            have hB0 : ((B : Int) == 0) = false := by rw [beq_eq_false_iff_ne]; omega
            obtain ⟨D, hD⟩ : ∃ D, s = B + D := ⟨s - B, by omega⟩
            have HDD : Hid (s = B + D) := hD
            have q1 : (s : Int) - B = D := by omega
            have hDs : D < s := by omega
            have hDM : D < M := by omega
            have c1 : wx.cell? ⟨w.heap.size, D, none⟩ = some (.int .i64 (pt rs D)) := hK2.out.cell (by rw [pl_get rs s _ hDM, if_pos hDs])
            have c2 : wx.cell? ⟨w.heap.size, s, none⟩ = some (.int .i64 (sm (tm rs r k s) c)) := hK2.out.cell (by rw [pl_get rs s _ hlt, if_neg (by omega), if_pos rfl])
            have f9 : wx.frozen? ⟨w.heap.size, s, none⟩ = false := hK2.out.free s
            obtain ⟨P, hP⟩ : ∃ P, pt rs D = P := ⟨_, rfl⟩
            have bP : -2684354560000000 ≤ P ∧ P ≤ 2684354560000000 := by
              rw [← hP]
              refine pt_bd HRB.out ?_
              have := HK.out
              rw [show s - B = D by omega] at f2
              omega
            have TM : Hid (tm rs r k s c = (if (cols (s / B)).length % 2 = 0 then -1 else 1) * (x * P)) := by
              show _ = _
              unfold tm
              rw [if_pos hbit, HX.out, ← HBD.out, show s - B = D by omega, hP, hsgn, HBD.out]
            have SB : Hid (∀ j, j ≤ N → -429496729600000000 ≤ sm (tm rs r k s) j ∧ sm (tm rs r k s) j ≤ 429496729600000000) := fun j hj => by
              have h1 := sm_bd (f := tm rs r k s) (M := 53687091200000000) j fun i hi => by
                have := tm_bd (rs := rs) HRB.out HRM.out (k := k) (s := s) H256.out (by have := HK.out; omega) i (by omega)
                omega
              have h2 : (j : Int) * 53687091200000000 ≤ 8 * 53687091200000000 := Int.mul_le_mul_of_nonneg_right (by omega) (by decide)
              omega
            have bxP := mul_le hxb (B := 2684354560000000) bP
            have sb0 := SB.out c (by omega)
            have sb1 := SB.out (c + 1) (by omega)
            rw [sm_succ] at sb1
            obtain ⟨S, hS⟩ : ∃ S, sm (tm rs r k s) c = S := ⟨_, rfl⟩
            have HS : Hid (sm (tm rs r k s) c = S) := hS
            rw [hP] at c1
            rw [hS] at c2 sb0 sb1
            obtain ⟨E, hE⟩ : ∃ E, s / B = E := ⟨_, rfl⟩
            have HEE : Hid (s / B = E) := hE
            have hE256 : E < 256 := by rw [← hE]; exact Nat.lt_of_le_of_lt (Nat.div_le_self _ _) H256.out
            have hEz : (s : Int) / (B : Int) = (E : Int) := by rw [← hE]; exact (Int.natCast_ediv s B).symm
            have hEp : (s : Int) / 2 ^ c = (E : Int) := by rw [← hEz, HBD.out]; simp
            rw [hE] at TM
            obtain ⟨n, hn⟩ : ∃ n, (cols E).length = n := ⟨_, rfl⟩
            have HNN : Hid ((cols E).length = n) := hn
            rw [hn] at TM
            have NEXT : Hid (∀ y, tm rs r k s c = y → Bk (wx.setCell ⟨w.heap.size, s, none⟩ (.int .i64 (S + y))) w.heap.size (pl rs M s (sm (tm rs r k s) (c + 1)))) := fun y hy => by
              have t := hK2.out.set s (S + y)
              rw [pl_set rs _ _ hlt] at t
              rw [sm_succ, HS.out, hy]
              exact t
            have NB : Hid (∀ y, Below w.heap.size w (wx.setCell ⟨w.heap.size, s, none⟩ (.int .i64 y))) := fun y => hB2.out.setCell (Nat.le_refl _) _
            clear hbf hsgn f2 f4 hbit hD hP hS hE hn SB hK2
            by_cases hpar : n % 2 = 0
            · have tme : Hid (tm rs r k s c = -(x * P)) := by
                have t := TM.out
                rw [if_pos hpar, Int.neg_mul, Int.one_mul] at t
                exact t
              have N9 : Hid _ := NEXT.out _ tme.out
              have N8 : Hid _ := NB.out (S + -(x * P))
              rw [tme.out] at sb1
              have q4 : (n : Int) % 2 = 0 := by omega
              have q3 : Int.tmod (n : Int) 2 = 0 := by rw [Int.tmod_eq_emod_of_nonneg (by omega)]; exact q4
              clear TM NEXT NB
              go_wp2_with fail
              refine (ones_any E hE256 wx).mono ?_
              rintro e w2 ⟨rfl, hw2⟩
              rw [hw2, HNN.out]
              clear hw2 w2
              go_wp2_with fail
              go_roundw
              case rel => exact ⟨c + 1, by omega, by go_num, N9, N8⟩
              case measure => simp [intOf]; omega
            · have tme : Hid (tm rs r k s c = x * P) := by
                have t := TM.out
                rw [if_neg hpar, Int.one_mul] at t
                exact t
              have N9 : Hid _ := NEXT.out _ tme.out
              have N8 : Hid _ := NB.out (S + x * P)
              rw [tme.out] at sb1
              have q4 : (n : Int) % 2 = 1 := by omega
              have q3 : Int.tmod (n : Int) 2 = 1 := by rw [Int.tmod_eq_emod_of_nonneg (by omega)]; exact q4
              clear TM NEXT NB
              go_wp2_with fail
              refine (ones_any E hE256 wx).mono ?_
              rintro e w2 ⟨rfl, hw2⟩
              rw [hw2, HNN.out]
              clear hw2 w2
              go_wp2_with fail
              go_roundw
              case rel => exact ⟨c + 1, by omega, by go_num, N9, N8⟩
              case measure => simp [intOf]; omega
        · obtain rfl : N = c := by omega
          have NK : Hid (Bk wx w.heap.size (pl rs M (s + 1) 0)) := by
            rw [← pl_next, pt_tm HN.out hN8.2 (by have := HM.out; omega) HK.out HRK.out]
            exact hK2.out
          clear hK2
          go_wp2_with fail
          go_roundw
          case rel => exact ⟨s + 1, by omega, by omega, by go_num, NK, hB2⟩
          case measure => simp [intOf]; omega
    · obtain rfl : M = s := by omega
      have LS : Hid (Ls wq (.slice (some ⟨w.heap.size, 0, none⟩) M M) (pl rs M M 0)) := by
        have t := hK.out.own (by rw [pl_len]; omega)
        rw [pl_len] at t
        exact t.ls (by have := hK.out.lt; omega)
      have LZ : Hid ((pl rs M M 0)[(pl rs M M 0).length - 1]? = some (dt rs (List.range N))) := by
        show _ = _
        rw [pl_len, pl_get rs M 0 (by omega), if_pos (by omega), HD.out]
      go_wp2_with fail
      refine (last_any LS.out LZ.out).mono ?_
      rintro e w2 ⟨rfl, hw2⟩
      rw [hw2]
      clear hw2 w2
      go_wp2_with fail
      go_ret
      exact ⟨rfl, hB.out⟩
end Go.Proofs.Ytbbdhbamooaloab.res
