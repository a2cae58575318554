/- Contracts: leadThroughAll, impl.IsExchangeList, impl.IsAdjacentList and impl.IsRoundExchange. Conditions: the slice is not nil, nor are its rows, and it reads as a list of lists. -/
import Derived.Test.YtkphbelgamfmnaaEx2
import Derived.Test.YtkphbelgamfmnaaComs
import Derived.Test.YtkphbelgamfmnaaOnceK
import Derived.Test.YtkphbelgamfmnaaOnE
namespace Go.Proofs.Ytkphbelgamfmnaa
open Go.RowKit
set_option linter.unusedVariables false

def ltV (m n k : Int) (L : List (List Int)) : Bool := chOk n k L && (chaB n.toNat k.toNat L && allTo L.length (ldAt m L))
theorem metGC {f g : Nat → Int} {k : Nat} {r : Int} (h : ∀ j, j < k → f j = g j) : metG f k r = metB g k r := by
  rw [Bool.eq_iff_iff, metG_iff, metB_iff]
  exact ⟨fun ⟨j, hj, e⟩ => ⟨j, hj, by rw [← h j hj]; exact e⟩, fun ⟨j, hj, e⟩ => ⟨j, hj, by rw [h j hj]; exact e⟩⟩
theorem on_cha {n k : Nat} {L : List (List Int)} (hn : n ≤ 12) (hk : k ≤ n) (hc : ∀ l ∈ L, combB n l = true) : onA colRes (ceB k) (binom n k) L = chaB n k L := by
  rw [← all_once hn hk hc, onA]
  refine congrArg _ ?_
  have hcl : ∀ j, j < L.length → combB n (L.getD j []) = true := fun j hj => by rw [getDL2 hj]; exact hc _ (List.getElem_mem hj)
  have key : ∀ j, j < L.length → ceB k (L.getD j []) = decide ((L.getD j []).length = k) := fun j hj => by rw [ceB, comb12 hn (hcl j hj), Bool.true_and]
  have key2 : ∀ j, j < L.length → (L.getD j []).length = k → colRes (L.getD j []) = crk k L j := fun j hj h => colRes_crk hn rfl (hcl j hj) h
  rw [Bool.eq_iff_iff, allTo_iff, allTo_iff]
  constructor
  · intro h
    have hd : ∀ i, i < L.length → (L.getD i []).length = k := fun i hi => by
      have := h i hi
      rw [onG, Bool.and_eq_true, key i hi, decide_eq_true_eq] at this
      exact this.1
    intro i hi
    have := h i hi
    rw [onG, Bool.and_eq_true, key2 i hi (hd i hi), metGC (g := crk k L) (fun j hj => key2 j (by omega) (hd j (by omega)))] at this
    rw [oneK, decide_eq_true (hd i hi), Bool.true_and]
    exact this.2
  · intro h
    have hd : ∀ i, i < L.length → (L.getD i []).length = k := fun i hi => by
      have := h i hi
      rw [oneK, Bool.and_eq_true, decide_eq_true_eq] at this
      exact this.1
    intro i hi
    have := h i hi
    rw [oneK, Bool.and_eq_true] at this
    rw [onG, key i hi, decide_eq_true (hd i hi), key2 i hi (hd i hi), metGC (g := crk k L) (fun j hj => key2 j (by omega) (hd j (by omega))), Bool.true_and]
    exact this.2
theorem on_lt {n k : Nat} {l : List Int} (hn : n ≤ 12) (hc : combB n l = true) (h : ceB k l = true) : 0 ≤ colRes l ∧ colRes l < ((binom n k : Nat) : Int) := by
  rw [ceB, Bool.and_eq_true, decide_eq_true_eq] at h
  have h1 := colRes_crk (L := [l]) (i := 0) hn rfl hc h.2
  have h2 := crk_lt (L := [l]) (i := 0) (k := k) hc h.2
  have h3 : colRes l = crk k [l] 0 := h1
  rw [h3]; exact h2
abbrev kBox (k : Int) : Obj := .cells #[.int .i64 k] 3
theorem k_box (w : World) (k : Int) : (w.alloc (kBox k)).cell? ⟨w.heap.size, 0, none⟩ = some (.int .i64 k) := by simp
set_option maxHeartbeats 1000000 in
theorem leadThroughAll_any (p : Addr) (m n k : Int) (v : Value) (L : List (List Int)) (w : World) (hc : w.cell? p = some (.int .i64 m)) (h : SitsL w v L) :
    Calls Try.prog 43 #[exV p, .int .i64 n, .int .i64 k, v] w fun e w' => e = .returned (.tuple #[.bool (ltV m n k L), .bool (chOk n k L)]) ∧ Below w.heap.size w w' := by
  have hba0 : Below w.heap.size w (w.alloc (exO1 p)) := (Below.refl w.heap.size w).alloc (Nat.le_refl _) _
  have hbk : Below (w.alloc (exO1 p)).heap.size (w.alloc (exO1 p)) ((w.alloc (exO1 p)).alloc (kBox k)) := (Below.refl _ _).alloc (Nat.le_refl _) _
  have hba : Below w.heap.size w ((w.alloc (exO1 p)).alloc (kBox k)) := Below_chain hba0 hbk
  have HBA := hid hba
  have HCP := hid (cell_below hc hba)
  have HX0 := hid (cell_below (ex_cell w p) hbk)
  have hsz1 : (w.alloc (exO1 p)).heap.size = w.heap.size + 1 := by simp
  have hck := k_box (w.alloc (exO1 p)) k
  rw [hsz1] at hck
  have HCK := hid hck
  clear hck hsz1
  have HS := hid (h.below hba)
  obtain ⟨b, off, c, rfl, hc1, hm, hb0, _⟩ := h
  clear hba hc hba0 hbk
  unfold exV
  cases hs : szB n k with
  | false =>
    have HO := hid (show chOk n k L = false by rw [chOk, hs]; rfl)
    have HV := hid (show ltV m n k L = false by rw [ltV, HO.out]; rfl)
    have HSZ := hid hs
    clear hs
    go_enter Try.func43, Try.ntmps43
    go_wp2_with (first | (go_at_call 64; refine (isChoice_any n k _).mono ?_; rintro e w1 ⟨rfl, rfl⟩; rw [HSZ.out]) | fail)
    go_ret2
    exact ⟨ret_bb3 HV.out.symm HO.out.symm, HBA.out⟩
  | true =>
    have HSZ := hid hs
    cases hcl : chlB n L with
    | false =>
      have HO := hid (show chOk n k L = false by rw [chOk, hcl, Bool.and_false])
      have HV := hid (show ltV m n k L = false by rw [ltV, HO.out]; rfl)
      have HCL := hid hcl
      clear hs hcl
      go_enter Try.func43, Try.ntmps43
      go_wp2_with (first | (go_at_call 64; refine (isChoice_any n k _).mono ?_; rintro e w1 ⟨rfl, rfl⟩; rw [HSZ.out]) | (go_at_call 65; refine (areCombinations_any n _ L _ HS.out).mono ?_; rintro e w1 ⟨rfl, hb1⟩; rw [HCL.out]; have HB1 := hid (Below_chain HBA.out hb1); clear hb1) | fail)
      go_ret2
      exact ⟨ret_bb3 HV.out.symm HO.out.symm, HB1.out⟩
    | true =>
      have HCL := hid hcl
      have HO := hid (show chOk n k L = true by rw [chOk, hs, hcl]; rfl)
      obtain ⟨N, K, rfl, rfl, hN, hK⟩ := szB_nat hs
      have HFW := hid (few_of_chl hcl)
      have hcc := hcl
      simp only [chlB, Bool.and_eq_true, decide_eq_true_eq] at hcc
      have hL := hcc.2.2
      have HCB := hid (show ∀ l ∈ L, combB (N : Int) l = true from fun l hl => by
        obtain ⟨i, hi, rfl⟩ := List.mem_iff_getElem.1 hl
        have := (allTo_iff _ _).1 hcc.1 i hi
        rw [combAt, getDL2 hi] at this
        exact this)
      have HON := hid (on_cha hN hK HCB.out)
      have HRW := hid (show ∀ l ∈ L, l.length ≤ 1048576 ∧ ∀ x ∈ l, (Lit.int .i64 x).wf = true from fun l hl => ⟨by have := (Rises_comb (HCB.out l hl)).2.1; omega, comb_wf (HCB.out l hl)⟩)
      have HLT := hid (show ∀ l ∈ L, ceB K l = true → 0 ≤ colRes l ∧ colRes l < ((binom N K : Nat) : Int) from fun l hl h => on_lt hN (HCB.out l hl) h)
      have HCH := hid (show (chooseZ N K : Int) = (binom N K : Int) by rw [chooseZ_nat N K (by omega) (by omega)])
      have hbl : binom N K ≤ 1048576 := Nat.le_trans (binom_le N (by omega) K (by omega)) (by omega)
      cases ha : chaB N K L with
      | false =>
        have HV := hid (show ltV m (N : Int) (K : Int) L = false by rw [ltV, HO.out, Int.toNat_natCast, Int.toNat_natCast, ha]; rfl)
        have HA := hid (HON.out.trans ha)
        clear hs hcl hcc ha
        go_enter Try.func43, Try.ntmps43
        go_wp2_with (first
          | (go_at_call 64; refine (isChoice_any _ _ _).mono ?_; rintro e w1 ⟨rfl, rfl⟩; rw [HSZ.out])
          | (go_at_call 65; refine (areCombinations_any _ _ L _ HS.out).mono ?_; rintro e w1 ⟨rfl, hb1⟩; rw [HCL.out]; have HB1 := hid (Below_chain HBA.out hb1); have HS1 := hid (HS.out.below hb1); have hk1 := cell_below HCK.out hb1; have HK1 := hid hk1; clear hb1)
          | (go_at_call 68; refine (choose_any _ _ _ (by omega) (by omega)).mono ?_; rintro e w2 ⟨rfl, rfl⟩; rw [HCH.out])
          | (go_at_call 36; refine (areAllOnce_E K _ _ hbl _ L _ HK1.out HS1.out HRW.out HLT.out).mono ?_; rintro e w2 ⟨rfl, hb2⟩; rw [HA.out]; have HB2 := hid (Below_chain HB1.out hb2); clear hb2)
          | fail)
        go_ret2
        exact ⟨ret_bb3 HV.out.symm HO.out.symm, HB2.out⟩
      | true =>
        have HV := hid (show ltV m (N : Int) (K : Int) L = allTo L.length (ldAt m L) by rw [ltV, HO.out, Int.toNat_natCast, Int.toNat_natCast, ha]; rfl)
        have HA := hid (HON.out.trans ha)
        obtain ⟨q, hq⟩ : ∃ q, q = allTo L.length (ldAt m L) := ⟨_, rfl⟩
        have HQ := hid hq
        clear hs hcl hcc ha hq
        go_enter Try.func43, Try.ntmps43
        go_wp2_with (first
          | (go_at_call 64; refine (isChoice_any _ _ _).mono ?_; rintro e w1 ⟨rfl, rfl⟩; rw [HSZ.out])
          | (go_at_call 65; refine (areCombinations_any _ _ L _ HS.out).mono ?_; rintro e w1 ⟨rfl, hb1⟩; rw [HCL.out]; have HB1 := hid (Below_chain HBA.out hb1); have HS1 := hid (HS.out.below hb1); have hk1 := cell_below HCK.out hb1; have HK1 := hid hk1; have HC1 := hid (cell_below HCP.out hb1); have HX1 := hid (cell_below HX0.out hb1); clear hb1)
          | (go_at_call 68; refine (choose_any _ _ _ (by omega) (by omega)).mono ?_; rintro e w2 ⟨rfl, rfl⟩; rw [HCH.out])
          | (go_at_call 36; refine (areAllOnce_E K _ _ hbl _ L _ HK1.out HS1.out HRW.out HLT.out).mono ?_; rintro e w2 ⟨rfl, hb2⟩; rw [HA.out]; have HB2 := hid (Below_chain HB1.out hb2); have HS2 := hid (HS1.out.below hb2); have HC2 := hid (cell_below HC1.out hb2); have hx2 := cell_below HX1.out hb2; clear hb2)
          | (go_at_call 69; refine (leadAlong_any p m _ L _ HC2.out HS2.out HFW.out hL).mono ?_; rintro e w3 ⟨rfl, hb3⟩; rw [← HQ.out]; have HB3 := hid (Below_chain HB2.out hb3); clear hb3)
          | fail)
        go_ret2
        exact ⟨ret_bb3 (HQ.out.trans HV.out.symm) HO.out.symm, HB3.out⟩
theorem exO_mem {a b : List Int} (h : exB a b = true) : exO a b ∈ a ∧ exI a b ∈ b := by
  rw [exO, exI, if_pos h, if_pos h]
  simp only [exB, Bool.and_eq_true, decide_eq_true_eq] at h
  obtain ⟨x, hx⟩ := List.length_eq_one_iff.1 h.1
  obtain ⟨y, hy⟩ := List.length_eq_one_iff.1 h.2
  rw [hx, hy]
  refine ⟨(List.mem_filter.1 (show x ∈ missL a b by rw [hx]; simp)).1, (List.mem_filter.1 (show y ∈ missL b a by rw [hy]; simp)).1⟩
theorem comb_range {n : Int} {l : List Int} (h : combB n l = true) : ∀ x ∈ l, 0 ≤ x ∧ x < n := by
  intro x hx
  obtain ⟨i, hi, rfl⟩ := List.mem_iff_getElem.1 hx
  have h1 := (Rises_comb h).1.1 i hi
  have h2 := (Rises_comb h).2.2
  rw [getD_at hi] at h1
  omega
theorem ld_nearN {n : Int} {a b : List Int} (hn : n ≤ 12) (ha : combB n a = true) (hb : combB n b = true) : ldP 12 a b = nearP n a b := by
  rw [ldP, nearP, ← ap_abs]
  cases hx : exB a b with
  | false => rfl
  | true =>
    have h1 := comb_range ha _ (exO_mem hx).1
    have h2 := comb_range hb _ (exO_mem hx).2
    rw [decide_eq_true (show apV (exO a b) (exI a b) ≤ 12 by unfold apV; omega), decide_eq_true (show apV (exO a b) (exI a b) ≤ n by unfold apV; omega)]
theorem allTo_congr {n : Nat} {f g : Nat → Bool} (h : ∀ i, i < n → f i = g i) : allTo n f = allTo n g := by
  rw [Bool.eq_iff_iff, allTo_iff, allTo_iff]
  exact ⟨fun H i hi => by rw [← h i hi]; exact H i hi, fun H i hi => by rw [h i hi]; exact H i hi⟩
theorem lt_far1 (n k : Int) (L : List (List Int)) : ltV 1 n k L = chV far1 n k L := by
  unfold ltV chV nearL far1
  rw [allTo_congr (g := nearAt 1 L) (fun i hi => by unfold ldAt nearAt; rw [ld_near1])]
theorem lt_farN (n k : Int) (L : List (List Int)) : ltV 12 n k L = chV farN n k L := by
  unfold ltV chV nearL farN
  cases hc : chOk n k L with
  | false => rfl
  | true =>
    have hcl : chlB n L = true := by rw [chOk, Bool.and_eq_true] at hc; exact hc.2
    simp only [chlB, Bool.and_eq_true, decide_eq_true_eq] at hcl
    have hn := inB_iff.1 hcl.2.1
    have hcb := (allTo_iff _ _).1 hcl.1
    rw [allTo_congr (g := nearAt n L) (fun i hi => by
      unfold ldAt nearAt
      by_cases h0 : i = 0
      · subst h0; rfl
      · have h1 := hcb (i - 1) (by omega)
        have h2 := hcb i hi
        rw [combAt] at h1 h2
        rw [ld_nearN hn.2 h1 h2])]
theorem impl_IsExchangeList_any (n k : Int) (v : Value) (L : List (List Int)) (w : World) (h : SitsL w v L) :
    Calls Try.prog 18 #[.int .i64 n, .int .i64 k, v] w fun e w' => e = .returned (.tuple #[.bool (chV farN n k L), .bool (chOk n k L)]) ∧ Below w.heap.size w w' := by
  have HS := hid h
  have HV := hid (lt_farN n k L)
  obtain ⟨b, off, c, rfl, _, _, _, _⟩ := h
  go_enter Try.func18, Try.ntmps18
  go_wp2_with (first
    | (go_at_call 42; refine (anyExchanges_any _).mono ?_; rintro e w1 ⟨p, rfl, hc1, hb1⟩; unfold exV; have HC1 := hid hc1; have HB1 := hid hb1; have HS1 := hid (HS.out.below hb1); clear hc1 hb1)
    | (go_at_call 43; refine (leadThroughAll_any p 12 n k _ L _ HC1.out HS1.out).mono ?_; rintro e w2 ⟨rfl, hb2⟩; rw [HV.out]; have HB2 := hid (Below_chain HB1.out hb2); clear hb2)
    | fail)
  go_ret2
  exact ⟨rfl, HB2.out⟩
theorem impl_IsAdjacentList_any (n k : Int) (v : Value) (L : List (List Int)) (w : World) (h : SitsL w v L) :
    Calls Try.prog 22 #[.int .i64 n, .int .i64 k, v] w fun e w' => e = .returned (.tuple #[.bool (chV far1 n k L), .bool (chOk n k L)]) ∧ Below w.heap.size w w' := by
  have HS := hid h
  have HV := hid (lt_far1 n k L)
  obtain ⟨b, off, c, rfl, _, _, _, _⟩ := h
  go_enter Try.func22, Try.ntmps22
  go_wp2_with (first
    | (go_at_call 45; refine (adjacentExchanges_any _).mono ?_; rintro e w1 ⟨p, rfl, hc1, hb1⟩; unfold exV; have HC1 := hid hc1; have HB1 := hid hb1; have HS1 := hid (HS.out.below hb1); clear hc1 hb1)
    | (go_at_call 43; refine (leadThroughAll_any p 1 n k _ L _ HC1.out HS1.out).mono ?_; rintro e w2 ⟨rfl, hb2⟩; rw [HV.out]; have HB2 := hid (Below_chain HB1.out hb2); clear hb2)
    | fail)
  go_ret2
  exact ⟨rfl, HB2.out⟩
end Go.Proofs.Ytkphbelgamfmnaa
