/- Contracts: leadThroughAll, impl.IsExchangeList, impl.IsAdjacentList and impl.IsRoundExchange. Conditions: the slice is not nil, nor are its rows, and it reads as a list of lists. -/
import Derived.Test.YtijjdidljoicfaaEx2
import Derived.Test.YtijjdidljoicfaaComs
import Derived.Test.YtijjdidljoicfaaOnceK
namespace Go.Proofs.Ytijjdidljoicfaa
open Go.RowKit
set_option linter.unusedVariables false

def ltV (m n k : Int) (L : List (List Int)) : Bool := chOk n k L && (chaB n.toNat k.toNat L && allTo L.length (ldAt m L))
set_option maxHeartbeats 1000000 in
theorem leadThroughAll_any (p : Addr) (m n k : Int) (v : Value) (L : List (List Int)) (w : World) (hc : w.cell? p = some (.int .i64 m)) (h : SitsL w v L) :
    Calls Try.prog 77 #[exV p, .int .i64 n, .int .i64 k, v] w fun e w' => e = .returned (.tuple #[.bool (ltV m n k L), .bool (chOk n k L)]) ∧ Below w.heap.size w w' := by
  have hba : Below w.heap.size w (w.alloc (exO1 p)) := (Below.refl w.heap.size w).alloc (Nat.le_refl _) _
  have HBA := hid hba
  have HCP := hid (cell_below hc hba)
  have HX0 := hid (ex_cell w p)
  have HS := hid (h.below hba)
  obtain ⟨b, off, c, rfl, hc1, hm, hb0, _⟩ := h
  clear hba hc
  unfold exV
  cases hs : szB n k with
  | false =>
    have HO := hid (show chOk n k L = false by rw [chOk, hs]; rfl)
    have HV := hid (show ltV m n k L = false by rw [ltV, HO.out]; rfl)
    have HSZ := hid hs
    clear hs
    go_enter Try.func77, Try.ntmps77
    go_wp2_with (first | (go_at_call 65; refine (isChoice_any n k _).mono ?_; rintro e w1 ⟨rfl, rfl⟩; rw [HSZ.out]) | fail)
    go_ret2
    exact ⟨ret_bb3 HV.out.symm HO.out.symm, HBA.out⟩
  | true =>
    have HSZ := hid hs
    cases hcl : chlB n L with
    | false =>
      have HO := hid (show chOk n k L = false by rw [chOk, hcl, Bool.and_false])
      have HV := hid (show ltV m n k L = false by rw [ltV, HO.out]; rfl)
      have HCL := hid hcl
      clear hs hcl
      go_enter Try.func77, Try.ntmps77
      go_wp2_with (first | (go_at_call 65; refine (isChoice_any n k _).mono ?_; rintro e w1 ⟨rfl, rfl⟩; rw [HSZ.out]) | (go_at_call 109; refine (areCombinations_any n _ L _ HS.out).mono ?_; rintro e w1 ⟨rfl, hb1⟩; rw [HCL.out]; have HB1 := hid (Below_chain HBA.out hb1); clear hb1) | fail)
      go_ret2
      exact ⟨ret_bb3 HV.out.symm HO.out.symm, HB1.out⟩
    | true =>
      have HCL := hid hcl
      have HO := hid (show chOk n k L = true by rw [chOk, hs, hcl]; rfl)
      obtain ⟨N, K, rfl, rfl, hN, hK⟩ := szB_nat hs
      have HFW := hid (few_of_chl hcl)
      have hcc := hcl
      simp only [chlB, Bool.and_eq_true, decide_eq_true_eq] at hcc
      have hL := hcc.2.2
      have HCB := hid (show ∀ l ∈ L, combB (N : Int) l = true from fun l hl => by
        obtain ⟨i, hi, rfl⟩ := List.mem_iff_getElem.1 hl
        have := (allTo_iff _ _).1 hcc.1 i hi
        rw [combAt, getDL2 hi] at this
        exact this)
      cases ha : chaB N K L with
      | false =>
        have HV := hid (show ltV m (N : Int) (K : Int) L = false by rw [ltV, HO.out, Int.toNat_natCast, Int.toNat_natCast, ha]; rfl)
        have HA := hid ha
        clear hs hcl hcc ha
        go_enter Try.func77, Try.ntmps77
        go_wp2_with (first
          | (go_at_call 65; refine (isChoice_any _ _ _).mono ?_; rintro e w1 ⟨rfl, rfl⟩; rw [HSZ.out])
          | (go_at_call 109; refine (areCombinations_any _ _ L _ HS.out).mono ?_; rintro e w1 ⟨rfl, hb1⟩; rw [HCL.out]; have HB1 := hid (Below_chain HBA.out hb1); have HS1 := hid (HS.out.below hb1); clear hb1)
          | (go_at_call 110; refine (areAllOnce_any N K hN hK _ L _ HS1.out hL HCB.out).mono ?_; rintro e w2 ⟨rfl, hb2⟩; rw [HA.out]; have HB2 := hid (Below_chain HB1.out hb2); clear hb2)
          | fail)
        go_ret2
        exact ⟨ret_bb3 HV.out.symm HO.out.symm, HB2.out⟩
      | true =>
        have HV := hid (show ltV m (N : Int) (K : Int) L = allTo L.length (ldAt m L) by rw [ltV, HO.out, Int.toNat_natCast, Int.toNat_natCast, ha]; rfl)
        have HA := hid ha
        obtain ⟨q, hq⟩ : ∃ q, q = allTo L.length (ldAt m L) := ⟨_, rfl⟩
        have HQ := hid hq
        clear hs hcl hcc ha hq
        go_enter Try.func77, Try.ntmps77
        go_wp2_with (first
          | (go_at_call 65; refine (isChoice_any _ _ _).mono ?_; rintro e w1 ⟨rfl, rfl⟩; rw [HSZ.out])
          | (go_at_call 109; refine (areCombinations_any _ _ L _ HS.out).mono ?_; rintro e w1 ⟨rfl, hb1⟩; rw [HCL.out]; have HB1 := hid (Below_chain HBA.out hb1); have HS1 := hid (HS.out.below hb1); have HC1 := hid (cell_below HCP.out hb1); have HX1 := hid (cell_below HX0.out hb1); clear hb1)
          | (go_at_call 110; refine (areAllOnce_any N K hN hK _ L _ HS1.out hL HCB.out).mono ?_; rintro e w2 ⟨rfl, hb2⟩; rw [HA.out]; have HB2 := hid (Below_chain HB1.out hb2); have HS2 := hid (HS1.out.below hb2); have HC2 := hid (cell_below HC1.out hb2); have hx2 := cell_below HX1.out hb2; clear hb2)
          | (go_at_call 111; refine (leadAlong_any p m _ L _ HC2.out HS2.out HFW.out hL).mono ?_; rintro e w3 ⟨rfl, hb3⟩; rw [← HQ.out]; have HB3 := hid (Below_chain HB2.out hb3); clear hb3)
          | fail)
        go_ret2
        exact ⟨ret_bb3 (HQ.out.trans HV.out.symm) HO.out.symm, HB3.out⟩
theorem exO_mem {a b : List Int} (h : exB a b = true) : exO a b ∈ a ∧ exI a b ∈ b := by
  rw [exO, exI, if_pos h, if_pos h]
  simp only [exB, Bool.and_eq_true, decide_eq_true_eq] at h
  obtain ⟨x, hx⟩ := List.length_eq_one_iff.1 h.1
  obtain ⟨y, hy⟩ := List.length_eq_one_iff.1 h.2
  rw [hx, hy]
  refine ⟨(List.mem_filter.1 (show x ∈ missL a b by rw [hx]; simp)).1, (List.mem_filter.1 (show y ∈ missL b a by rw [hy]; simp)).1⟩
theorem comb_range {n : Int} {l : List Int} (h : combB n l = true) : ∀ x ∈ l, 0 ≤ x ∧ x < n := by
  intro x hx
  obtain ⟨i, hi, rfl⟩ := List.mem_iff_getElem.1 hx
  have h1 := (Rises_comb h).1.1 i hi
  have h2 := (Rises_comb h).2.2
  rw [getD_at hi] at h1
  omega
theorem ap_abs (a b : Int) : apV a b = absW (a - b) := by
  unfold apV absW
  split <;> omega
theorem ld_near1 (a b : List Int) : ldP 1 a b = nearP 1 a b := by rw [ldP, nearP, ap_abs]
theorem ld_nearN {n : Int} {a b : List Int} (hn : n ≤ 12) (ha : combB n a = true) (hb : combB n b = true) : ldP 12 a b = nearP n a b := by
  rw [ldP, nearP, ← ap_abs]
  cases hx : exB a b with
  | false => rfl
  | true =>
    have h1 := comb_range ha _ (exO_mem hx).1
    have h2 := comb_range hb _ (exO_mem hx).2
    rw [decide_eq_true (show apV (exO a b) (exI a b) ≤ 12 by unfold apV; omega), decide_eq_true (show apV (exO a b) (exI a b) ≤ n by unfold apV; omega)]
theorem allTo_congr {n : Nat} {f g : Nat → Bool} (h : ∀ i, i < n → f i = g i) : allTo n f = allTo n g := by
  rw [Bool.eq_iff_iff, allTo_iff, allTo_iff]
  exact ⟨fun H i hi => by rw [← h i hi]; exact H i hi, fun H i hi => by rw [h i hi]; exact H i hi⟩
theorem lt_far1 (n k : Int) (L : List (List Int)) : ltV 1 n k L = chV far1 n k L := by
  unfold ltV chV nearL far1
  rw [allTo_congr (g := nearAt 1 L) (fun i hi => by unfold ldAt nearAt; rw [ld_near1])]
theorem lt_farN (n k : Int) (L : List (List Int)) : ltV 12 n k L = chV farN n k L := by
  unfold ltV chV nearL farN
  cases hc : chOk n k L with
  | false => rfl
  | true =>
    have hcl : chlB n L = true := by rw [chOk, Bool.and_eq_true] at hc; exact hc.2
    simp only [chlB, Bool.and_eq_true, decide_eq_true_eq] at hcl
    have hn := inB_iff.1 hcl.2.1
    have hcb := (allTo_iff _ _).1 hcl.1
    rw [allTo_congr (g := nearAt n L) (fun i hi => by
      unfold ldAt nearAt
      by_cases h0 : i = 0
      · subst h0; rfl
      · have h1 := hcb (i - 1) (by omega)
        have h2 := hcb i hi
        rw [combAt] at h1 h2
        rw [ld_nearN hn.2 h1 h2])]
theorem impl_IsExchangeList_any (n k : Int) (v : Value) (L : List (List Int)) (w : World) (h : SitsL w v L) :
    Calls Try.prog 39 #[.int .i64 n, .int .i64 k, v] w fun e w' => e = .returned (.tuple #[.bool (chV farN n k L), .bool (chOk n k L)]) ∧ Below w.heap.size w w' := by
  have HS := hid h
  have HV := hid (lt_farN n k L)
  obtain ⟨b, off, c, rfl, _, _, _, _⟩ := h
  go_enter Try.func39, Try.ntmps39
  go_wp2_with (first
    | (go_at_call 76; refine (anyExchanges_any _).mono ?_; rintro e w1 ⟨p, rfl, hc1, hb1⟩; unfold exV; have HC1 := hid hc1; have HB1 := hid hb1; have HS1 := hid (HS.out.below hb1); clear hc1 hb1)
    | (go_at_call 77; refine (leadThroughAll_any p 12 n k _ L _ HC1.out HS1.out).mono ?_; rintro e w2 ⟨rfl, hb2⟩; rw [HV.out]; have HB2 := hid (Below_chain HB1.out hb2); clear hb2)
    | fail)
  go_ret2
  exact ⟨rfl, HB2.out⟩
end Go.Proofs.Ytijjdidljoicfaa
