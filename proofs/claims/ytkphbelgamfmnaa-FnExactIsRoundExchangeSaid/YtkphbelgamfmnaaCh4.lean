/- Contracts: chSize, spec.IsExchangeList, spec.IsAdjacentList and spec.ComplementsOf. Conditions: the slice reads as a list of lists. -/
import Derived.Test.YtkphbelgamfmnaaCh3
namespace Go.Proofs.Ytkphbelgamfmnaa
open Go.RowKit
set_option linter.unusedVariables false

theorem ret_bb3 {a b c d : Bool} (h : a = c) (h2 : b = d) : Ending.returned (.tuple #[.bool a, .bool b]) = Ending.returned (.tuple #[.bool c, .bool d]) := by rw [h, h2]
def szB (n k : Int) : Bool := inB n 0 12 && inB k 0 n
theorem szB_nat {n k : Int} (h : szB n k = true) : ∃ N K : Nat, n = (N : Int) ∧ k = (K : Int) ∧ N ≤ 12 ∧ K ≤ N := by
  rw [szB, Bool.and_eq_true] at h
  have h1 := inB_iff.1 h.1
  have h2 := inB_iff.1 h.2
  exact ⟨n.toNat, k.toNat, by omega, by omega, by omega, by omega⟩
theorem chSize_any (n k : Int) (w : World) : Calls Try.prog 38 #[.int .i64 n, .int .i64 k] w fun e w' => e = .returned (.bool (szB n k)) ∧ w = w' := by
  cases h : inB n 0 12 with
  | true =>
    have H := hid h
    have HV := hid (show szB n k = inB k 0 n by rw [szB, h]; rfl)
    clear h
    go_enter Try.func38, Try.ntmps38
    go_wp2_with (first | (go_at_call 57; refine (raItems_any _ _).mono ?_; rintro e w' ⟨rfl, rfl⟩; rw [H.out]) | (go_at_call 46; refine (l1In_any _ _ _ _).mono ?_; rintro e w' ⟨rfl, rfl⟩) | fail)
    go_ret
    exact ⟨ret_bool HV.out.symm, rfl⟩
  | false =>
    have H := hid h
    have HV := hid (show szB n k = false by rw [szB, h]; rfl)
    clear h
    go_enter Try.func38, Try.ntmps38
    go_wp2_with (first | (go_at_call 57; refine (raItems_any _ _).mono ?_; rintro e w' ⟨rfl, rfl⟩; rw [H.out]) | fail)
    go_ret
    exact ⟨ret_bool HV.out.symm, rfl⟩
def chOk (n k : Int) (L : List (List Int)) : Bool := szB n k && chlB n L
/-- all combinations, each once, with exchanges at most so far (n itself: however far) -/
def chV (far : Int → Int) (n k : Int) (L : List (List Int)) : Bool := chOk n k L && (chaB n.toNat k.toNat L && nearL (far n) L)
def farN (n : Int) : Int := n
def far1 (_ : Int) : Int := 1
theorem spec_IsExchangeList_any (n k : Int) (v : Value) (L : List (List Int)) (base : Nat) (w : World) (h : Lists w base v L) :
    Calls Try.prog 17 #[.int .i64 n, .int .i64 k, v] w fun e w' => e = .returned (.tuple #[.bool (chV farN n k L), .bool (chOk n k L)]) ∧ Below w.heap.size w w' := by
  have HL := hid h
  cases hs : szB n k with
  | false =>
    have HO := hid (show chOk n k L = false by rw [chOk, hs]; rfl)
    have HV := hid (show chV farN n k L = false by rw [chV, HO.out]; rfl)
    have HS := hid hs
    clear hs h
    go_enter Try.func17, Try.ntmps17
    go_wp2_with (first | (go_at_call 38; refine (chSize_any n k _).mono ?_; rintro e w1 ⟨rfl, rfl⟩; rw [HS.out]) | fail)
    go_ret2
    exact ⟨ret_bb3 HV.out.symm HO.out.symm, Below.refl _ _⟩
  | true =>
    have HS := hid hs
    cases hc : chlB n L with
    | false =>
      have HO := hid (show chOk n k L = false by rw [chOk, hc, Bool.and_false])
      have HV := hid (show chV farN n k L = false by rw [chV, HO.out]; rfl)
      have HC := hid hc
      clear hs h hc
      go_enter Try.func17, Try.ntmps17
      go_wp2_with (first | (go_at_call 38; refine (chSize_any n k _).mono ?_; rintro e w1 ⟨rfl, rfl⟩; rw [HS.out]) | (go_at_call 39; refine (chLists_any n _ L _ _ HL.out).mono ?_; rintro e w1 ⟨rfl, rfl⟩; rw [HC.out]) | fail)
      go_ret2
      exact ⟨ret_bb3 HV.out.symm HO.out.symm, Below.refl _ _⟩
    | true =>
      have HC := hid hc
      have HO := hid (show chOk n k L = true by rw [chOk, hs, hc]; rfl)
      obtain ⟨N, K, rfl, rfl, hN, hK⟩ := szB_nat hs
      have HF := hid (few_of_chl hc)
      have hlen : L.length ≤ 100000 := by
        simp only [chlB, Bool.and_eq_true, decide_eq_true_eq] at hc
        omega
      cases ha : chaB N K L with
      | false =>
        have HV := hid (show chV farN (N : Int) (K : Int) L = false by rw [chV, HO.out, Int.toNat_natCast, Int.toNat_natCast, ha]; rfl)
        have HA := hid ha
        clear hs h hc ha
        go_enter Try.func17, Try.ntmps17
        go_wp2_with (first | (go_at_call 38; refine (chSize_any _ _ _).mono ?_; rintro e w1 ⟨rfl, rfl⟩; rw [HS.out]) | (go_at_call 39; refine (chLists_any _ _ L _ _ HL.out).mono ?_; rintro e w1 ⟨rfl, rfl⟩; rw [HC.out]) | (go_at_call 40; refine (chAll_any N K hN hK _ L _ _ HL.out).mono ?_; rintro e w1 ⟨rfl, hb1⟩; rw [HA.out]; have HB1 := hid hb1; clear hb1) | fail)
        go_ret2
        exact ⟨ret_bb3 HV.out.symm HO.out.symm, HB1.out⟩
      | true =>
        have HV := hid (show chV farN (N : Int) (K : Int) L = nearL (N : Int) L by rw [chV, HO.out, Int.toNat_natCast, Int.toNat_natCast, ha]; rfl)
        have HA := hid ha
        clear hs h hc ha
        go_enter Try.func17, Try.ntmps17
        go_wp2_with (first | (go_at_call 38; refine (chSize_any _ _ _).mono ?_; rintro e w1 ⟨rfl, rfl⟩; rw [HS.out]) | (go_at_call 39; refine (chLists_any _ _ L _ _ HL.out).mono ?_; rintro e w1 ⟨rfl, rfl⟩; rw [HC.out]) | (go_at_call 40; refine (chAll_any N K hN hK _ L _ _ HL.out).mono ?_; rintro e w1 ⟨rfl, hb1⟩; rw [HA.out]; have HB1 := hid hb1; have HL1 := hid (HL.out.below hb1); clear hb1) | (go_at_call 41; refine (chNear_any _ L _ _ _ HL1.out HF.out hlen).mono ?_; rintro e w2 ⟨rfl, hb2⟩; have HB2 := hid (Below_chain HB1.out hb2); clear hb2) | fail)
        go_ret2
        exact ⟨ret_bb3 HV.out.symm HO.out.symm, HB2.out⟩
theorem spec_IsAdjacentList_any (n k : Int) (v : Value) (L : List (List Int)) (base : Nat) (w : World) (h : Lists w base v L) :
    Calls Try.prog 21 #[.int .i64 n, .int .i64 k, v] w fun e w' => e = .returned (.tuple #[.bool (chV far1 n k L), .bool (chOk n k L)]) ∧ Below w.heap.size w w' := by
  have HL := hid h
  cases hs : szB n k with
  | false =>
    have HO := hid (show chOk n k L = false by rw [chOk, hs]; rfl)
    have HV := hid (show chV far1 n k L = false by rw [chV, HO.out]; rfl)
    have HS := hid hs
    clear hs h
    go_enter Try.func21, Try.ntmps21
    go_wp2_with (first | (go_at_call 38; refine (chSize_any n k _).mono ?_; rintro e w1 ⟨rfl, rfl⟩; rw [HS.out]) | fail)
    go_ret2
    exact ⟨ret_bb3 HV.out.symm HO.out.symm, Below.refl _ _⟩
  | true =>
    have HS := hid hs
    cases hc : chlB n L with
    | false =>
      have HO := hid (show chOk n k L = false by rw [chOk, hc, Bool.and_false])
      have HV := hid (show chV far1 n k L = false by rw [chV, HO.out]; rfl)
      have HC := hid hc
      clear hs h hc
      go_enter Try.func21, Try.ntmps21
      go_wp2_with (first | (go_at_call 38; refine (chSize_any n k _).mono ?_; rintro e w1 ⟨rfl, rfl⟩; rw [HS.out]) | (go_at_call 39; refine (chLists_any n _ L _ _ HL.out).mono ?_; rintro e w1 ⟨rfl, rfl⟩; rw [HC.out]) | fail)
      go_ret2
      exact ⟨ret_bb3 HV.out.symm HO.out.symm, Below.refl _ _⟩
    | true =>
      have HC := hid hc
      have HO := hid (show chOk n k L = true by rw [chOk, hs, hc]; rfl)
      obtain ⟨N, K, rfl, rfl, hN, hK⟩ := szB_nat hs
      have HF := hid (few_of_chl hc)
      have hlen : L.length ≤ 100000 := by
        simp only [chlB, Bool.and_eq_true, decide_eq_true_eq] at hc
        omega
      cases ha : chaB N K L with
      | false =>
        have HV := hid (show chV far1 (N : Int) (K : Int) L = false by rw [chV, HO.out, Int.toNat_natCast, Int.toNat_natCast, ha]; rfl)
        have HA := hid ha
        clear hs h hc ha
        go_enter Try.func21, Try.ntmps21
        go_wp2_with (first | (go_at_call 38; refine (chSize_any _ _ _).mono ?_; rintro e w1 ⟨rfl, rfl⟩; rw [HS.out]) | (go_at_call 39; refine (chLists_any _ _ L _ _ HL.out).mono ?_; rintro e w1 ⟨rfl, rfl⟩; rw [HC.out]) | (go_at_call 40; refine (chAll_any N K hN hK _ L _ _ HL.out).mono ?_; rintro e w1 ⟨rfl, hb1⟩; rw [HA.out]; have HB1 := hid hb1; clear hb1) | fail)
        go_ret2
        exact ⟨ret_bb3 HV.out.symm HO.out.symm, HB1.out⟩
      | true =>
        have HV := hid (show chV far1 (N : Int) (K : Int) L = nearL 1 L by rw [chV, HO.out, Int.toNat_natCast, Int.toNat_natCast, ha]; rfl)
        have HA := hid ha
        clear hs h hc ha
        go_enter Try.func21, Try.ntmps21
        go_wp2_with (first | (go_at_call 38; refine (chSize_any _ _ _).mono ?_; rintro e w1 ⟨rfl, rfl⟩; rw [HS.out]) | (go_at_call 39; refine (chLists_any _ _ L _ _ HL.out).mono ?_; rintro e w1 ⟨rfl, rfl⟩; rw [HC.out]) | (go_at_call 40; refine (chAll_any N K hN hK _ L _ _ HL.out).mono ?_; rintro e w1 ⟨rfl, hb1⟩; rw [HA.out]; have HB1 := hid hb1; have HL1 := hid (HL.out.below hb1); clear hb1) | (go_at_call 41; refine (chNear_any _ L _ _ _ HL1.out HF.out hlen).mono ?_; rintro e w2 ⟨rfl, hb2⟩; have HB2 := hid (Below_chain HB1.out hb2); clear hb2) | fail)
        go_ret2
        exact ⟨ret_bb3 HV.out.symm HO.out.symm, HB2.out⟩
def cmpL (n : Int) (L : List (List Int)) : List (List Int) := L.map (fun l => missL (upTo n.toNat) l)
def cmpRes (n : Int) (L : List (List Int)) : List (List Int) := if chlB n L = true then cmpL n L else []
theorem cmpRes_yes {n : Int} {L : List (List Int)} (h : chlB n L = true) : cmpRes n L = cmpL n L := by unfold cmpRes; rw [if_pos h]
theorem cmpRes_no {n : Int} {L : List (List Int)} (h : chlB n L = false) : cmpRes n L = [] := by unfold cmpRes; rw [if_neg (by rw [h]; simp)]
theorem cmp_snoc {n : Int} {L : List (List Int)} {k : Nat} (h : k < L.length) : cmpL n (L.take (k + 1)) = cmpL n (L.take k) ++ [missL (upTo n.toNat) L[k]] := by
  unfold cmpL
  rw [List.take_succ_eq_append_getElem h, List.map_append]
  rfl
theorem ret_sb5 {u : Value} {b b' : Bool} (h : b = b') : Ending.returned (.tuple #[u, .bool b]) = .returned (.tuple #[u, .bool b']) := by rw [h]
end Go.Proofs.Ytkphbelgamfmnaa
