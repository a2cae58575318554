/- Contracts: impl.IsTorus, both TorusPlace functions. Conditions: a torus whose rows are slices that are not nil. -/
import Derived.Test.YteimfdpkodcfbaaTor4
import Derived.Test.YteimfdpkodcfbaaIdxS
import Derived.BigQuiet
namespace Go.Proofs.Yteimfdpkodcfbaa
open Go.RowKit Go.Maps
set_option linter.unusedVariables false
set_option maxRecDepth 4000

theorem sitsT {w : World} {B : Nat} {v : Value} {xs : List Int} (h : Own w B v xs) (h0 : 0 < xs.length) : Sits w v xs := by
  obtain ⟨g, n, c, rfl⟩ := Own.shape h h0
  exact h.sits
theorem sq_clo {n c pb : Nat} {ws : List Int} {vb : Value} {w1 : World} (hc : w1.cell? ⟨pb, 0, none⟩ = some vb) (hlt : pb < w1.heap.size) (hb : Sits w1 vb bs4) :
    ∀ (W : World) (x : Value) (B : Nat) (ys : List Int), (∃ l ∈ sqsL n c, ys = pkL ws l) → Own W B x ys → Below w1.heap.size w1 W → Calls Try.prog 148 #[x, .pointer (some ⟨pb, 0, none⟩)] W fun e w' => e = .returned (.tuple #[.int .i64 (rkS ys), .bool (okS ys)]) ∧ Below W.heap.size W w' := by
  intro W x B ys hys ho hbel
  obtain ⟨l, hl, rfl⟩ := hys
  have hlen : (pkL ws l).length = 4 := by
    obtain ⟨p, _, rfl⟩ := List.mem_map.1 hl
    rw [pkL_length]; rfl
  exact sqRank_any pb x vb _ W ((hbel.cell (by exact hlt)).trans hc) (hb.below hbel) (sitsT ho (by omega))
theorem once_T {L : List (List Int)} {n c : Nat} (hI : TuI L n c) : (decide (L.flatten.length = 16) && lyB rkS okS (sqsL n c) L.flatten) = wiB L n c := by
  rw [decide_eq_true hI.flat, Bool.true_and, hI.once]
theorem impl_IsTorus_any (v : Value) (L : List (List Int)) (w : World) (h : SitsL w v L) :
    Calls Try.prog 47 #[.agg #[v]] w fun e w' => e = .returned (.tuple #[.bool (itR L), .bool (tuB L)]) ∧ Below w.heap.size w w' := by
  obtain ⟨b, off, c, rfl⟩ := sitsL_shape h
  obtain ⟨w1, hw1⟩ : ∃ w1, w1 = w.alloc (.cells #[.slice (some ⟨b, off, none⟩) L.length c] 48) := ⟨_, rfl⟩
  have HW1 := hid hw1
  have hB1 : Below w.heap.size w w1 := by rw [hw1]; exact (Below.refl _ _).alloc (Nat.le_refl _) _
  have HB1 := hid hB1
  have HS1 := hid (show w1.heap.size = w.heap.size + 1 by rw [hw1]; simp)
  have HX0 := hid (show w1.cell? ⟨w.heap.size, 0, none⟩ = some (.slice (some ⟨b, off, none⟩) L.length c) by rw [hw1]; simp)
  have HSI := hid (h.below hB1)
  clear hw1 hB1 h
  cases ht : tuB L with
  | false =>
    have HR := hid (itR_no ht)
    go_enter Try.func47, Try.ntmps47
    go_wp2_with (first
      | (go_at_call 106; (rw [← HW1.out]); (refine (numbersOf_any _ L _ HSI.out).mono ?_); (rintro e w2 ⟨u2, rfl, _, hb2⟩); (rw [ht]); (have HB2 := hid (Below_chain HB1.out hb2)); (clear hb2))
      | fail)
    go_ret2
    exact ⟨ret_bbT HR.out.symm rfl, HB2.out⟩
  | true =>
    have HR := hid (itR_yes ht)
    have hI := tuB_iff.1 ht
    have HI := hid hI
    have HNM := hid ((nmR_yes ht))
    have HFL := hid hI.flat
    have HON := hid (once_T hI)
    have HPR := hid hI.prod
    have HPL := hid (sq_placed hI.prod)
    have HL16 := hid (sqsL_len L.length (16 / L.length))
    clear hI
    go_enter Try.func47, Try.ntmps47
    go_wp2_with (first
      | (go_at_call 106; (rw [← HW1.out]); (refine (numbersOf_any _ L _ HSI.out).mono ?_); (rintro e w2 ⟨u2, rfl, ho2, hb2⟩); (rw [ht]); (rw [HNM.out] at ho2); (have HU2 := hid (sitsT ho2 (by rw [HFL.out]; omega))); (have HB2 := hid (Below_chain HB1.out hb2)); (have x0 : w2.cell? ⟨w.heap.size, 0, none⟩ = some (.slice (some ⟨b, off, none⟩) L.length c) := (hb2.cell (by show w.heap.size < w1.heap.size; rw [HS1.out]; omega)).trans HX0.out); (clear ho2 hb2))
      | (go_at_call 91; (refine (ind_S rkS okS g 16 _ (sqsL L.length (16 / L.length)) L.flatten ⟨pb, 0, none⟩ _ HL16.out HL3.out (HU2.out.below HB3r.out) (by omega) (by omega) HPL.out (fun l _ => rkS_wf _) (by rw [HFL.out]; omega) (sq_clo HC3.out HLT3.out HV3.out)).mono ?_); (rintro e w4 ⟨rfl, _, hb4⟩); (rw [HON.out]); (have HB4 := hid (Below_chain HB3.out hb4)); (clear hb4))
      | (go_at_call 107; (refine (squaresOf_any L.length (16 / L.length) _ HPR.out).mono ?_); (rintro e w3 ⟨g, pb, vb, rfl, hl3, hc3, hlt3, hv3, hb3⟩); (have HL3 := hid hl3); (have HC3 := hid hc3); (have HLT3 := hid hlt3); (have HV3 := hid hv3); (have HB3r := hid hb3); (have HB3 := hid (Below_chain HB2.out hb3)); (clear hl3 hc3 hlt3 hv3 hb3))
      | fail)
    go_ret2
    exact ⟨ret_bbT HR.out.symm rfl, HB4.out⟩
def tpO (L : List (List Int)) (ws : List Int) : Bool := itR L && okS ws
def tpI (L : List (List Int)) (ws : List Int) : Int := if tpO L ws = true then ((plT L L.length (16 / L.length) ws / (16 / L.length) : Nat) : Int) else 0
def tpJ (L : List (List Int)) (ws : List Int) : Int := if tpO L ws = true then ((plT L L.length (16 / L.length) ws % (16 / L.length) : Nat) : Int) else 0
theorem tp_no {L : List (List Int)} {ws : List Int} (h : tpO L ws = false) : tpI L ws = 0 ∧ tpJ L ws = 0 := by
  unfold tpI tpJ
  rw [if_neg (by rw [h]; simp), if_neg (by rw [h]; simp)]
  exact ⟨rfl, rfl⟩
theorem tp_yes {L : List (List Int)} {ws : List Int} (h : tpO L ws = true) : tpI L ws = ((plT L L.length (16 / L.length) ws / (16 / L.length) : Nat) : Int) ∧ tpJ L ws = ((plT L L.length (16 / L.length) ws % (16 / L.length) : Nat) : Int) := by
  unfold tpI tpJ
  rw [if_pos h, if_pos h]
  exact ⟨rfl, rfl⟩
theorem tpO_no {L : List (List Int)} {ws : List Int} (h : itR L = false) : tpO L ws = false := by unfold tpO; rw [h]; rfl
theorem ret_nnb9 {a a' d d' : Int} {b b' : Bool} (h : a = a') (h2 : d = d') (h3 : b = b') : Ending.returned (.tuple #[.int .i64 a, .int .i64 d, .bool b]) = .returned (.tuple #[.int .i64 a', .int .i64 d', .bool b']) := by rw [h, h2, h3]
theorem impl_TorusPlace_any (v u : Value) (L : List (List Int)) (ws : List Int) (w : World) (h : SitsL w v L) (hu : Sits w u ws) :
    Calls Try.prog 54 #[.agg #[v], u] w fun e w' => e = .returned (.tuple #[.int .i64 (tpI L ws), .int .i64 (tpJ L ws), .bool (tpO L ws)]) ∧ Below w.heap.size w w' := by
  obtain ⟨b, off, c, rfl⟩ := sitsL_shape h
  have hus := hu
  obtain ⟨bu, ou, cu, rfl, _⟩ := hus
  obtain ⟨w1, hw1⟩ : ∃ w1, w1 = w.alloc (.cells #[.slice (some ⟨b, off, none⟩) L.length c] 48) := ⟨_, rfl⟩
  have HW1 := hid hw1
  have hB1 : Below w.heap.size w w1 := by rw [hw1]; exact (Below.refl _ _).alloc (Nat.le_refl _) _
  have HB1 := hid hB1
  have HS1 := hid (show w1.heap.size = w.heap.size + 1 by rw [hw1]; simp)
  have HX0 := hid (show w1.cell? ⟨w.heap.size, 0, none⟩ = some (.slice (some ⟨b, off, none⟩) L.length c) by rw [hw1]; simp)
  have HSI := hid (h.below hB1)
  have HUW := hid (hu.below hB1)
  clear hw1 hB1 h hu
  cases ht : tuB L with
  | false =>
    have HK := hid (tpO_no (ws := ws) (itR_no ht))
    have HR := hid (tp_no HK.out)
    go_enter Try.func54, Try.ntmps54
    go_wp2_with (first
      | (go_at_call 106; (rw [← HW1.out]); (refine (numbersOf_any _ L _ HSI.out).mono ?_); (rintro e w2 ⟨u2, rfl, _, hb2⟩); (rw [ht]); (have HB2 := hid (Below_chain HB1.out hb2)); (clear hb2))
      | fail)
    go_ret3
    exact ⟨ret_nnb9 HR.out.1.symm HR.out.2.symm HK.out.symm, HB2.out⟩
  | true =>
    have hI := tuB_iff.1 ht
    have HNM := hid ((nmR_yes ht))
    have HFL := hid hI.flat
    have HON := hid (show (decide (L.flatten.length = 16) && lyB rkS okS (sqsL L.length (16 / L.length)) L.flatten && okS ws) = tpO L ws by rw [once_T hI, ← itR_yes ht]; rfl)
    have HPR := hid hI.prod
    have HPL := hid (sq_placed hI.prod)
    have HL16 := hid (sqsL_len L.length (16 / L.length))
    have HIX := hid (show (decide (L.flatten.length = 16) && lyB rkS okS (sqsL L.length (16 / L.length)) L.flatten) = true → okS ws = true → plT L L.length (16 / L.length) ws < 16 ∧ rkT rkS (sqsL L.length (16 / L.length)) L.flatten (plT L L.length (16 / L.length) ws) = rkS ws from fun h1 h2 => by
      rw [once_T hI] at h1
      obtain ⟨k1, k2, _⟩ := plT_is hI h1 h2
      exact ⟨k1, by rw [hI.rkT k1, k2]⟩)
    have hn1 := hI.n1
    obtain ⟨n, hn⟩ : ∃ n, n = L.length := ⟨_, rfl⟩
    obtain ⟨cc, hcc⟩ : ∃ cc, cc = 16 / n := ⟨_, rfl⟩
    have hn0 : ¬ n = 0 := by omega
    have hn0i : ¬ (n : Int) = 0 := by omega
    have hc0 : ¬ cc = 0 := by rw [hcc, hn]; omega
    have hc0i : ¬ (cc : Int) = 0 := by omega
    have hcc16 : cc ≤ 16 := by rw [hcc, hn]; omega
    have hqi : (16 : Int) / (n : Int) = (cc : Int) := by rw [hcc, Int.natCast_ediv]; rfl
    have hqi2 : (16 : Int).tdiv (n : Int) = (cc : Int) := by rw [Int.tdiv_eq_ediv_of_nonneg (by omega), hqi]
    have HNN := hid hn
    have HCC := hid (show 16 / L.length = cc by rw [hcc, hn])
    rw [HCC.out] at HON HPR HPL HL16 HIX
    rw [← hn] at HX0 HSI HON HPR HPL HL16 HIX HW1 ⊢
    obtain ⟨P, hP⟩ : ∃ P, P = plT L n cc ws := ⟨_, rfl⟩
    rw [← hP] at HIX
    have HTY := hid (fun (h : tpO L ws = true) => (show tpI L ws = ((P / cc : Nat) : Int) ∧ tpJ L ws = ((P % cc : Nat) : Int) by
      have := tp_yes h
      rw [HCC.out, ← hn, ← hP] at this
      exact this))
    have HWS := hid (show (Lit.int .i64 (rkS ws)).wf = true from rkS_wf ws)
    clear hI hn hcc hn1
    cases hk : tpO L ws with
    | false =>
      rw [hk] at HON
      have HR := hid (tp_no hk)
      have hz1 : (0 : Int) / (cc : Int) = 0 := Int.zero_ediv _
      have hz2 : (0 : Int).tdiv (cc : Int) = 0 := Int.zero_tdiv _
      have hz3 : (0 : Int) % (cc : Int) = 0 := Int.zero_emod _
      have hz4 : (0 : Int).tmod (cc : Int) = 0 := Int.zero_tmod _
      have HI0 := hid (show ixR false P = 0 from rfl)
      clear hP
      go_enter Try.func54, Try.ntmps54
      go_wp2_with (first
        | (go_at_call 106; (rw [← HW1.out]); (refine (numbersOf_any _ L _ HSI.out).mono ?_); (rintro e w2 ⟨u2, rfl, ho2, hb2⟩); (rw [ht]); (rw [HNM.out] at ho2); (have HU2 := hid (sitsT ho2 (by rw [HFL.out]; omega))); (have HUW2 := hid (HUW.out.below hb2)); (have HB2 := hid (Below_chain HB1.out hb2)); (have HX2 := hid ((hb2.cell (p := ⟨w.heap.size, 0, none⟩) (by show w.heap.size < w1.heap.size; rw [HS1.out]; omega)).trans HX0.out)); (have HSZ2 := hid (show w.heap.size < w2.heap.size from Nat.lt_of_lt_of_le (by rw [HS1.out]; omega) hb2.size)); (have x0 := HX2.out); (clear ho2 hb2))
        | (go_at_call 95; (refine (idx_S rkS okS g 16 P _ _ (sqsL n cc) L.flatten ws ⟨pb, 0, none⟩ _ HL16.out HL3.out (HU2.out.below HB3r.out) (by omega) (by omega) HPL.out (fun l _ => rkS_wf _) (by rw [HFL.out]; omega) (sq_clo HC3.out HLT3.out HV3.out) (fun W hb => sqRank_any pb _ vb ws W ((hb.cell (by exact HLT3.out)).trans HC3.out) (HV3.out.below hb) ((HUW2.out.below HB3r.out).below hb)) HWS.out HIX.out).mono ?_); (rintro e w4 ⟨rfl, hb4⟩); (rw [HON.out, HI0.out]); (have HB4 := hid (Below_chain HB3.out hb4)); (have x4 : w4.cell? ⟨w.heap.size, 0, none⟩ = some (.slice (some ⟨b, off, none⟩) n c) := ((Below_chain HB3r.out hb4).cell (by exact HSZ2.out)).trans HX2.out); (clear hb4))
        | (go_at_call 107; (refine (squaresOf_any n cc _ HPR.out).mono ?_); (rintro e w3 ⟨g, pb, vb, rfl, hl3, hc3, hlt3, hv3, hb3⟩); (have HL3 := hid hl3); (have HC3 := hid hc3); (have HLT3 := hid hlt3); (have HV3 := hid hv3); (have HB3r := hid hb3); (have HB3 := hid (Below_chain HB2.out hb3)); (clear hl3 hc3 hlt3 hv3 hb3))
        | fail)
      go_quiet (fail)
      go_wp2_with fail
      go_ret3
      exact ⟨ret_nnb9 HR.out.1.symm HR.out.2.symm rfl, below_drewN HB4.out _⟩
    | true =>
      rw [hk] at HON
      have HR := hid (HTY.out hk)
      have hP16 : P < 16 := (plT_is (tuB_iff.1 ht) (by
        unfold tpO at hk
        rw [Bool.and_eq_true, itR_yes ht] at hk
        exact hk.1) (by
        unfold tpO at hk
        rw [Bool.and_eq_true] at hk
        exact hk.2)).1 |> (fun h => by rw [HCC.out, ← HNN.out, ← hP] at h; exact h)
      obtain ⟨pi, hpi⟩ : ∃ pi, pi = P / cc := ⟨_, rfl⟩
      obtain ⟨pj, hpj⟩ : ∃ pj, pj = P % cc := ⟨_, rfl⟩
      rw [← hpi, ← hpj] at HR
      have d1 : (P : Int) / (cc : Int) = (pi : Int) := by rw [hpi, Int.natCast_ediv]
      have d1' : (P : Int).tdiv (cc : Int) = (pi : Int) := by rw [Int.tdiv_eq_ediv_of_nonneg (by omega), d1]
      have d2 : (P : Int) % (cc : Int) = (pj : Int) := by rw [hpj, Int.natCast_emod]
      have d2' : (P : Int).tmod (cc : Int) = (pj : Int) := by rw [Int.tmod_eq_emod_of_nonneg (by omega), d2]
      have HI0 := hid (show ixR true P = (P : Int) from rfl)
      have hpi16 : pi ≤ 16 := by rw [hpi]; exact Nat.le_trans (Nat.div_le_self _ _) (by omega)
      clear hP hpi hpj
      go_enter Try.func54, Try.ntmps54
      go_wp2_with (first
        | (go_at_call 106; (rw [← HW1.out]); (refine (numbersOf_any _ L _ HSI.out).mono ?_); (rintro e w2 ⟨u2, rfl, ho2, hb2⟩); (rw [ht]); (rw [HNM.out] at ho2); (have HU2 := hid (sitsT ho2 (by rw [HFL.out]; omega))); (have HUW2 := hid (HUW.out.below hb2)); (have HB2 := hid (Below_chain HB1.out hb2)); (have HX2 := hid ((hb2.cell (p := ⟨w.heap.size, 0, none⟩) (by show w.heap.size < w1.heap.size; rw [HS1.out]; omega)).trans HX0.out)); (have HSZ2 := hid (show w.heap.size < w2.heap.size from Nat.lt_of_lt_of_le (by rw [HS1.out]; omega) hb2.size)); (have x0 := HX2.out); (clear ho2 hb2))
        | (go_at_call 95; (refine (idx_S rkS okS g 16 P _ _ (sqsL n cc) L.flatten ws ⟨pb, 0, none⟩ _ HL16.out HL3.out (HU2.out.below HB3r.out) (by omega) (by omega) HPL.out (fun l _ => rkS_wf _) (by rw [HFL.out]; omega) (sq_clo HC3.out HLT3.out HV3.out) (fun W hb => sqRank_any pb _ vb ws W ((hb.cell (by exact HLT3.out)).trans HC3.out) (HV3.out.below hb) ((HUW2.out.below HB3r.out).below hb)) HWS.out HIX.out).mono ?_); (rintro e w4 ⟨rfl, hb4⟩); (rw [HON.out, HI0.out]); (have HB4 := hid (Below_chain HB3.out hb4)); (have x4 : w4.cell? ⟨w.heap.size, 0, none⟩ = some (.slice (some ⟨b, off, none⟩) n c) := ((Below_chain HB3r.out hb4).cell (by exact HSZ2.out)).trans HX2.out); (clear hb4))
        | (go_at_call 107; (refine (squaresOf_any n cc _ HPR.out).mono ?_); (rintro e w3 ⟨g, pb, vb, rfl, hl3, hc3, hlt3, hv3, hb3⟩); (have HL3 := hid hl3); (have HC3 := hid hc3); (have HLT3 := hid hlt3); (have HV3 := hid hv3); (have HB3r := hid hb3); (have HB3 := hid (Below_chain HB2.out hb3)); (clear hl3 hc3 hlt3 hv3 hb3))
        | fail)
      go_quiet (fail)
      go_wp2_with fail
      go_ret3
      exact ⟨ret_nnb9 HR.out.1.symm HR.out.2.symm rfl, below_drewN HB4.out _⟩
set_option maxHeartbeats 2000000 in
theorem spec_TorusPlace_any (v u : Value) (L : List (List Int)) (ws : List Int) (w : World) (h : SitsL w v L) (hu : Sits w u ws) :
    Calls Try.prog 53 #[.agg #[v], u] w fun e w' => e = .returned (.tuple #[.int .i64 (tpI L ws), .int .i64 (tpJ L ws), .bool (tpO L ws)]) ∧ Below w.heap.size w w' := by
  obtain ⟨b, off, c, rfl⟩ := sitsL_shape h
  have hus := hu
  obtain ⟨bu, ou, cu, rfl, _, _, _, _⟩ := hus
  obtain ⟨w1, hw1⟩ : ∃ w1, w1 = w.alloc (.cells #[.slice (some ⟨b, off, none⟩) L.length c] 48) := ⟨_, rfl⟩
  have HW1 := hid hw1
  have hB1 : Below w.heap.size w w1 := by rw [hw1]; exact (Below.refl _ _).alloc (Nat.le_refl _) _
  have HB1 := hid hB1
  have HS1 := hid (show w1.heap.size = w.heap.size + 1 by rw [hw1]; simp)
  have HX0 := hid (show w1.cell? ⟨w.heap.size, 0, none⟩ = some (.slice (some ⟨b, off, none⟩) L.length c) by rw [hw1]; simp)
  have HSI := hid (h.below hB1)
  have HUW := hid (hu.below hB1)
  clear hw1 hB1 h hu
  cases ht : tuB L with
  | false =>
    have HK := hid (tpO_no (ws := ws) (itR_no ht))
    have HR := hid (tp_no HK.out)
    go_enter Try.func53, Try.ntmps53
    go_wp2_with (first
      | (go_at_call 103; (rw [← HW1.out]); (refine (suTorus_any _ L _ HSI.out).mono ?_); (rintro e w2 ⟨rfl, hb2⟩); (rw [ht]); (have HB2 := hid (Below_chain HB1.out hb2)); (clear hb2))
      | fail)
    go_ret3
    exact ⟨ret_nnb9 HR.out.1.symm HR.out.2.symm HK.out.symm, HB2.out⟩
  | true =>
    have hI := tuB_iff.1 ht
    obtain ⟨n, hn⟩ : ∃ n, n = L.length := ⟨_, rfl⟩
    obtain ⟨cc, hcc⟩ : ∃ cc, cc = 16 / n := ⟨_, rfl⟩
    have HCC := hid (show 16 / L.length = cc by rw [hcc, hn])
    rw [HCC.out, ← hn] at hI
    have HI := hid hI
    have HNN := hid hn
    have hn1 := hI.n1
    have HIT := hid (show itR L = wiB L n cc by rw [itR_yes ht, HCC.out, ← hn])
    rw [← hn] at HX0 HSI HW1 ⊢
    have HTN := hid (fun (h : tpO L ws = false) => tp_no h)
    have HTY := hid (fun (h : tpO L ws = true) => (show tpI L ws = ((plT L n cc ws / cc : Nat) : Int) ∧ tpJ L ws = ((plT L n cc ws % cc : Nat) : Int) by
      have := tp_yes h
      rw [HCC.out, ← hn] at this
      exact this))
    clear hI hn hcc
    cases hwi : wiB L n cc with
    | false =>
      have HK := hid (tpO_no (ws := ws) (HIT.out.trans hwi))
      have HR := hid (HTN.out HK.out)
      go_enter Try.func53, Try.ntmps53
      go_wp2_with (first
        | (go_at_call 103; (rw [← HW1.out]); (refine (suTorus_any _ L _ HSI.out).mono ?_); (rintro e w2 ⟨rfl, hb2⟩); (rw [ht]); (have HB2 := hid (Below_chain HB1.out hb2)); (have HSJ := hid (HSI.out.below hb2)); (have x0 : w2.cell? ⟨w.heap.size, 0, none⟩ = some (.slice (some ⟨b, off, none⟩) n c) := (hb2.cell (by show w.heap.size < w1.heap.size; rw [HS1.out]; omega)).trans HX0.out); (clear hb2))
        | (go_at_call 104; (refine (suWindows_any b off c n cc L _ HI.out HSJ.out).mono ?_); (rintro e w3 ⟨rfl, hb3⟩); (rw [hwi]); (have HB3 := hid (Below_chain HB2.out hb3)); (clear hb3))
        | fail)
      go_ret3
      exact ⟨ret_nnb9 HR.out.1.symm HR.out.2.symm HK.out.symm, HB3.out⟩
    | true =>
      have HOK := hid (show tpO L ws = okS ws by unfold tpO; rw [HIT.out, hwi]; rfl)
      have HWI := hid hwi
      clear hwi
      obtain ⟨m, hm⟩ : ∃ m, m = ws.length := ⟨_, rfl⟩
      have HM := hid hm
      rw [← hm] at HUW ⊢
      clear hm
      by_cases h4 : m = 4
      · have hne : ((m : Int) != 4) = false := by rw [h4]; rfl
        have H4 := hid h4
        clear h4
        cases hbl : belowB ws 2 with
        | false =>
          have HAL := hid (show allTo ws.length (fun i => inB (ws.getD i 0) 0 1) = false from hbl)
          have HK := hid (show tpO L ws = false by rw [HOK.out, okS_iff, hbl, Bool.and_false])
          have HR := hid (HTN.out HK.out)
          clear hbl
          go_enter Try.func53, Try.ntmps53
          go_wp2_with (first
            | (go_at_call 103; (rw [← HW1.out]); (refine (suTorus_any _ L _ HSI.out).mono ?_); (rintro e w2 ⟨rfl, hb2⟩); (rw [ht]); (have HB2 := hid (Below_chain HB1.out hb2)); (have HSJ := hid (HSI.out.below hb2)); (have HUW2 := hid (HUW.out.below hb2)); (have x0 : w2.cell? ⟨w.heap.size, 0, none⟩ = some (.slice (some ⟨b, off, none⟩) n c) := (hb2.cell (by show w.heap.size < w1.heap.size; rw [HS1.out]; omega)).trans HX0.out); (clear hb2))
            | (go_at_call 104; (refine (suWindows_any b off c n cc L _ HI.out HSJ.out).mono ?_); (rintro e w3 ⟨rfl, hb3⟩); (rw [HWI.out]); (have HB3 := hid (Below_chain HB2.out hb3)); (have HUW3 := hid (HUW2.out.below hb3)); (clear hb3))
            | (go_at_call 110; (refine (l1All_any _ ws _ _ _ HUW3.out).mono ?_); (rintro e w' ⟨rfl, rfl⟩); (rw [HAL.out]))
            | fail)
          go_ret3
          exact ⟨ret_nnb9 HR.out.1.symm HR.out.2.symm HK.out.symm, HB3.out⟩
        | true =>
          have HAL := hid (show allTo ws.length (fun i => inB (ws.getD i 0) 0 1) = true from hbl)
          have hok : okS ws = true := by rw [okS_iff, hbl, Bool.and_true]; exact decide_eq_true (by rw [← HM.out]; exact H4.out)
          have HK := hid (show tpO L ws = true by rw [HOK.out, hok])
          have HR := hid (HTY.out HK.out)
          obtain ⟨P, hP⟩ : ∃ P, P = plT L n cc ws := ⟨_, rfl⟩
          have hpl := plT_is HI.out HWI.out hok
          rw [← hP] at HR hpl
          have HPL := hid hpl
          have HPR := hid HI.out.prod
          have HIX := hid (fun (i j : Nat) (hj : j < cc) => wnT_at (L := L) (n := n) (c := cc) (i := i) (j := j) hj)
          clear hbl hok hP hpl
          go_enter Try.func53, Try.ntmps53
          go_wp2_with (first
            | (go_at_call 103; (rw [← HW1.out]); (refine (suTorus_any _ L _ HSI.out).mono ?_); (rintro e w2 ⟨rfl, hb2⟩); (rw [ht]); (have HB2 := hid (Below_chain HB1.out hb2)); (have HSJ := hid (HSI.out.below hb2)); (have HUW2 := hid (HUW.out.below hb2)); (have HX2 := hid ((hb2.cell (p := ⟨w.heap.size, 0, none⟩) (by show w.heap.size < w1.heap.size; rw [HS1.out]; omega)).trans HX0.out)); (have HSZ2 := hid (show w.heap.size < w2.heap.size from Nat.lt_of_lt_of_le (by rw [HS1.out]; omega) hb2.size)); (have x0 := HX2.out); (clear hb2))
            | (go_at_call 104; (refine (suWindows_any b off c n cc L _ HI.out HSJ.out).mono ?_); (rintro e w3 ⟨rfl, hb3⟩); (rw [HWI.out]); (have HB3 := hid (Below_chain HB2.out hb3)); (have HUW3 := hid (HUW2.out.below hb3)); (have HSK := hid (HSJ.out.below hb3)); (have HX3 := hid ((hb3.cell (p := ⟨w.heap.size, 0, none⟩) (by exact HSZ2.out)).trans HX2.out)); (have HSZ3 := hid (show w.heap.size < w3.heap.size from Nat.lt_of_lt_of_le HSZ2.out hb3.size)); (have x3 := HX3.out); (clear hb3))
            | (go_at_call 110; (refine (l1All_any _ ws _ _ _ HUW3.out).mono ?_); (rintro e w' ⟨rfl, rfl⟩); (rw [HAL.out]))
            | fail)
          clear x0 x3
          go_loopw [7, 8, 31] (fun _ _ i wr => ∃ k : Nat, i = .int .i64 (k : Int) ∧ k ≤ n ∧ (∀ q, q < k * cc → wnT L n cc q ≠ ws) ∧ Below w3.heap.size w3 wr) (fun _ _ i _ => n - (intOf i).toNat)
          case atStart => exact ⟨0, rfl, Nat.zero_le _, fun q hq => by omega, Below.refl _ _⟩
          case round =>
            obtain ⟨k, rfl, hk, hno, hbel⟩ := hrel
            have HNO := hid hno
            have HB := hid hbel
            clear hno hbel
            by_cases hlt : k < n
            · obtain ⟨bi, oi, ci, hri⟩ := HI.out.trow (HSK.out.below HB.out) hlt
              have y0 := hri.cell
              have q1 := hri.cap
              have q2 := hri.capm
              obtain ⟨wo, rfl⟩ : ∃ wo : World, wo = wr := ⟨_, rfl⟩
              clear hri
              go_wp2_with fail
              go_loopw [9, 38] (fun _ j wr => ∃ y : Nat, j = .int .i64 (y : Int) ∧ y ≤ cc ∧ (∀ q, q < k * cc + y → wnT L n cc q ≠ ws) ∧ Below w3.heap.size w3 wr) (fun _ j _ => cc - (intOf j).toNat)
              case atStart => exact ⟨0, rfl, Nat.zero_le _, HNO.out, HB.out⟩
              case round =>
                obtain ⟨y, rfl, hy, hno, hbel⟩ := hrel
                have HNO2 := hid hno
                have HB2 := hid hbel
                clear hno hbel
                by_cases hyc : y < cc
                · have x0 : wr.cell? ⟨w.heap.size, 0, none⟩ = some (.slice (some ⟨b, off, none⟩) n c) := (HB2.out.cell (p := ⟨w.heap.size, 0, none⟩) (by exact HSZ3.out)).trans HX3.out
                  have HSW := hid (suWindow_any b off c n cc k y L wr HI.out (HSK.out.below HB2.out) hlt hyc)
                  have HIX2 := hid (HIX.out k y hyc)
                  have HUW4 := hid (HUW3.out.below HB2.out)
                  have HLT16 := hid (tor_lt HPR.out hlt hyc)
                  have HWL := hid (show 0 < (winT L n cc k y).length by simp [winT])
                  have HDIV := hid (show (k * cc + y) / cc = k ∧ (k * cc + y) % cc = y from ⟨by rw [Nat.mul_comm, Nat.mul_add_div (by omega), Nat.div_eq_of_lt hyc, Nat.add_zero], by rw [Nat.mul_comm, Nat.mul_add_mod, Nat.mod_eq_of_lt hyc]⟩)
                  by_cases heq : winT L n cc k y = ws
                  · have HD := hid (decide_eq_true heq)
                    have HPE := hid (show P = k * cc + y by
                      have h1 := HPL.out
                      rcases Nat.lt_trichotomy P (k * cc + y) with q | q | q
                      · exact absurd h1.2.1 (HNO2.out P q)
                      · exact q
                      · exact absurd (by rw [HIX2.out]; exact heq) (h1.2.2 _ q))
                    clear heq
                    go_wp2_with (first
                      | (go_at_call 112; (refine HSW.out.mono ?_); (rintro e w5 ⟨u5, rfl, ho5, hb5⟩); (have HO5 := hid (sitsT ho5 HWL.out)); (have HUW5 := hid (HUW4.out.below hb5)); (have HB5 := hid (Below_chain HB2.out hb5)); (clear ho5 hb5))
                      | (go_at_call 111; (refine (l1Same_any _ _ (winT L n cc k y) ws _ HO5.out.reads HUW5.out.reads).mono ?_); (rintro e w6 ⟨rfl, hb6⟩); (rw [HD.out]); (have HB6 := hid (Below_chain HB3.out (Below_chain HB5.out hb6))); (clear hb6))
                      | fail)
                    go_ret3
                    exact ⟨ret_nnb9 (by rw [HR.out.1, HPE.out, HDIV.out.1]) (by rw [HR.out.2, HPE.out, HDIV.out.2]) HK.out.symm, HB6.out⟩
                  · have HD := hid (decide_eq_false heq)
                    have HNX := hid (show ∀ q, q < k * cc + (y + 1) → wnT L n cc q ≠ ws from fun q hq => by
                      by_cases e : q = k * cc + y
                      · rw [e, HIX2.out]; exact heq
                      · exact HNO2.out q (by omega))
                    clear heq
                    go_wp2_with (first
                      | (go_at_call 112; (refine HSW.out.mono ?_); (rintro e w5 ⟨u5, rfl, ho5, hb5⟩); (have HO5 := hid (sitsT ho5 HWL.out)); (have HUW5 := hid (HUW4.out.below hb5)); (have HB5 := hid (Below_chain HB2.out hb5)); (clear ho5 hb5))
                      | (go_at_call 111; (refine (l1Same_any _ _ (winT L n cc k y) ws _ HO5.out.reads HUW5.out.reads).mono ?_); (rintro e w6 ⟨rfl, hb6⟩); (rw [HD.out]); (have HB6 := hid (Below_chain HB5.out hb6)); (clear hb6))
                      | fail)
                    go_roundw
                    case rel => exact ⟨y + 1, by go_num, hyc, HNX.out, HB6.out⟩
                    case measure => simp [intOf]; omega
                · have HNX := hid (show ∀ q, q < (k + 1) * cc → wnT L n cc q ≠ ws from fun q hq => HNO2.out q (by rw [Nat.succ_mul] at hq; omega))
                  go_wp2_with fail
                  go_roundw
                  case rel => exact ⟨k + 1, by go_num, hlt, HNX.out, HB2.out⟩
                  case measure => simp [intOf]; omega
            · exfalso
              have h1 := HPL.out
              exact HNO.out P (by rw [show k = n by omega, HPR.out]; exact h1.1) h1.2.1
      · have hne : ((m : Int) != 4) = true := by simp; omega
        have HK := hid (show tpO L ws = false by rw [HOK.out, okS_iff, decide_eq_false (by rw [← HM.out]; exact h4), Bool.false_and])
        have HR := hid (HTN.out HK.out)
        clear h4
        go_enter Try.func53, Try.ntmps53
        go_wp2_with (first
          | (go_at_call 103; (rw [← HW1.out]); (refine (suTorus_any _ L _ HSI.out).mono ?_); (rintro e w2 ⟨rfl, hb2⟩); (rw [ht]); (have HB2 := hid (Below_chain HB1.out hb2)); (have HSJ := hid (HSI.out.below hb2)); (have x0 : w2.cell? ⟨w.heap.size, 0, none⟩ = some (.slice (some ⟨b, off, none⟩) n c) := (hb2.cell (by show w.heap.size < w1.heap.size; rw [HS1.out]; omega)).trans HX0.out); (clear hb2))
          | (go_at_call 104; (refine (suWindows_any b off c n cc L _ HI.out HSJ.out).mono ?_); (rintro e w3 ⟨rfl, hb3⟩); (rw [HWI.out]); (have HB3 := hid (Below_chain HB2.out hb3)); (clear hb3))
          | fail)
        go_ret3
        exact ⟨ret_nnb9 HR.out.1.symm HR.out.2.symm HK.out.symm, HB3.out⟩
end Go.Proofs.Yteimfdpkodcfbaa
