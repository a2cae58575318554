/- Contracts: spec.RevolvingAt, RevolvingRank, NextRevolving and RevolvingList. Conditions: none; the slice reads as a list. -/
import Derived.Test.YtijjdidljoicfaaRevM
namespace Go.Proofs.Ytijjdidljoicfaa
open Go.RowKit
set_option linter.unusedVariables false

theorem revL_lens {n k : Nat} (hn : n ≤ 12) (hk : k ≤ n) : (revL n k).length ≤ 100000 ∧ ∀ l ∈ revL n k, l.length ≤ 12 :=
  ⟨Nat.le_trans (revL_bound n k) (Nat.le_trans (pow12_le hn) (by omega)), fun l hl => by rw [revL_elem n k hk l hl]; omega⟩
theorem ret_sb2 {u : Value} {b b' : Bool} (h : b = b') : Ending.returned (.tuple #[u, .bool b]) = .returned (.tuple #[u, .bool b']) := by rw [h]
theorem ret_nb2 {a b : Int} {c d : Bool} (h : a = b) (h' : c = d) : Ending.returned (.tuple #[.int .i64 a, .bool c]) = .returned (.tuple #[.int .i64 b, .bool d]) := by rw [h, h']
theorem ofRes_len {L : List (List Int)} {i : Int} (h : ∀ l ∈ L, l.length ≤ 12) : (ofRes L i).length ≤ 12 := by
  unfold ofRes; split
  · rw [List.getD_eq_getElem?_getD]
    by_cases hi : i.toNat < L.length
    · rw [List.getElem?_eq_getElem hi]; exact h _ (List.getElem_mem _)
    · rw [List.getElem?_eq_none (by omega)]; simp
  · simp
/-- RevolvingAt -/
def raB (n k r : Int) : Bool := szB n k && ofB (revL n.toNat k.toNat) r
def raRes (n k r : Int) : List Int := if szB n k = true then ofRes (revL n.toNat k.toNat) r else []
theorem bound_RevolvingAt (n k r : Int) : (raRes n k r).length ≤ 1048576 := by
  unfold raRes; split
  · rename_i h
    obtain ⟨N, K, rfl, rfl, hN, hK⟩ := szB_nat h
    have := ofRes_len (i := r) (revL_lens hN hK).2
    rw [Int.toNat_natCast, Int.toNat_natCast]; omega
  · simp
theorem spec_RevolvingAt_any (n k r : Int) (w : World) (_wn : (Lit.int .i64 n).wf = true) (_wk : (Lit.int .i64 k).wf = true) (_wr : (Lit.int .i64 r).wf = true) :
    Calls Try.prog 26 #[.int .i64 n, .int .i64 k, .int .i64 r] w fun e w' => ∃ u, e = .returned (.tuple #[u, .bool (raB n k r)]) ∧ Own w' w.heap.size u (raRes n k r) ∧ Below w.heap.size w w' := by
  cases hs : szB n k with
  | true =>
    have HS := hid hs
    obtain ⟨N, K, rfl, rfl, hN, hK⟩ := szB_nat hs
    have HB := hid (show raB (N : Int) (K : Int) r = ofB (revL N K) r by rw [raB, hs]; rfl)
    have HR := hid (show raRes (N : Int) (K : Int) r = ofRes (revL N K) r by rw [raRes, if_pos hs]; rfl)
    have HL := hid (revL_lens hN hK)
    clear hs
    go_enter Try.func26, Try.ntmps26
    go_wp2_with (first
      | (go_at_call 62; refine (chSize_any _ _ _).mono ?_; rintro e w1 ⟨rfl, rfl⟩; rw [HS.out])
      | (go_at_call 64; refine (chRevolving_any N K _ hN hK).mono ?_; rintro e w1 ⟨u, rfl, hu, hb1⟩; have HU := hid hu; have HB1 := hid hb1; clear hu hb1)
      | (go_at_call 63; refine (raOf_any _ (revL N K) r _ _ HU.out HL.out.1 HL.out.2).mono ?_; rintro e w2 ⟨u2, rfl, hu2, hb2⟩; have HU2 := hid hu2; have HB2 := hid (Below_chain HB1.out hb2); clear hu2 hb2)
      | fail)
    go_ret2
    exact ⟨_, ret_sb2 HB.out.symm, by rw [HR.out]; exact HU2.out.mono HB1.out.size, HB2.out⟩
  | false =>
    have HS := hid hs
    have HB := hid (show raB n k r = false by rw [raB, hs]; rfl)
    have HR := hid (show raRes n k r = [] by rw [raRes, if_neg (by rw [hs]; simp)])
    clear hs
    go_enter Try.func26, Try.ntmps26
    go_wp2_with (first | (go_at_call 62; refine (chSize_any _ _ _).mono ?_; rintro e w1 ⟨rfl, rfl⟩; rw [HS.out]) | fail)
    go_ret2
    exact ⟨_, ret_sb2 HB.out.symm, by rw [HR.out]; exact Own.nil _ _, Below.refl _ _⟩
/-- RevolvingRank -/
def rrV (n : Int) (xs : List Int) : Int := if combB n xs = true then placeIn xs (revL n.toNat xs.length) else 0
theorem comb_nat {n : Int} {xs : List Int} (h : combB n xs = true) : ∃ N : Nat, n = (N : Int) ∧ N ≤ 12 ∧ xs.length ≤ N := by
  have h1 := combB_elem h
  simp only [combB, Bool.and_eq_true, decide_eq_true_eq] at h
  exact ⟨n.toNat, by omega, by omega, by omega⟩
theorem spec_RevolvingRank_any (n : Int) (v : Value) (xs : List Int) (w : World) (_wn : (Lit.int .i64 n).wf = true) (h : Sits w v xs) (hl : xs.length ≤ 1048576) (_hwf : ∀ x ∈ xs, (Lit.int .i64 x).wf = true) :
    Calls Try.prog 28 #[.int .i64 n, v] w fun e w' => e = .returned (.tuple #[.int .i64 (rrV n xs), .bool (combB n xs)]) ∧ Below w.heap.size w w' := by
  have HV := hid h.reads
  obtain ⟨b, off, c, rfl, _, _, _, _⟩ := h
  cases hc : combB n xs with
  | true =>
    have HC := hid hc
    obtain ⟨N, rfl, hN, hK⟩ := comb_nat hc
    have HR := hid (show rrV (N : Int) xs = placeIn xs (revL N xs.length) by rw [rrV, if_pos hc]; rfl)
    clear hc _wn _hwf
    go_enter Try.func28, Try.ntmps28
    go_wp2_with (first
      | (go_at_call 67; refine (raCombination_any _ _ xs _ HV.out).mono ?_; rintro e w1 ⟨rfl, rfl⟩; rw [HC.out])
      | (go_at_call 64; refine (chRevolving_any N xs.length _ hN hK).mono ?_; rintro e w1 ⟨u, rfl, hu, hb1⟩; have HU := hid hu; have HB1 := hid hb1; have HV1 := hid (HV.out.below hb1); clear hu hb1)
      | (go_at_call 68; refine (raPlace_any _ _ _ xs _ _ HU.out HV1.out).mono ?_; rintro e w2 ⟨rfl, hb2⟩; have HB2 := hid (Below_chain HB1.out hb2); clear hb2)
      | fail)
    go_ret2
    exact ⟨ret_nb2 HR.out.symm rfl, HB2.out⟩
  | false =>
    have HC := hid hc
    have HR := hid (show rrV n xs = 0 by rw [rrV, if_neg (by rw [hc]; simp)])
    clear hc _wn _hwf
    go_enter Try.func28, Try.ntmps28
    go_wp2_with (first | (go_at_call 67; refine (raCombination_any _ _ xs _ HV.out).mono ?_; rintro e w1 ⟨rfl, rfl⟩; rw [HC.out]) | fail)
    go_ret2
    exact ⟨ret_nb2 HR.out.symm rfl, Below.refl _ _⟩
/-- NextRevolving -/
def nrvB (n : Int) (xs : List Int) : Bool := combB n xs && ofB (revL n.toNat xs.length) (placeIn xs (revL n.toNat xs.length) + 1)
def nrvRes (n : Int) (xs : List Int) : List Int := if combB n xs = true then ofRes (revL n.toNat xs.length) (placeIn xs (revL n.toNat xs.length) + 1) else []
theorem placeIn_le (l : List Int) : ∀ L : List (List Int), -1 ≤ placeIn l L ∧ placeIn l L < (L.length : Int)
  | [] => by simp [placeIn]
  | x :: r => by
    have := placeIn_le l r
    rw [placeIn, List.length_cons]
    split
    · omega
    · split <;> omega
theorem bound_NextRevolving (n : Int) (xs : List Int) : (nrvRes n xs).length ≤ 1048576 := by
  unfold nrvRes; split
  · rename_i h
    obtain ⟨N, rfl, hN, hK⟩ := comb_nat h
    have := ofRes_len (i := placeIn xs (revL N xs.length) + 1) (revL_lens hN hK).2
    rw [Int.toNat_natCast]; omega
  · simp
theorem spec_NextRevolving_any (n : Int) (v : Value) (xs : List Int) (w : World) (_wn : (Lit.int .i64 n).wf = true) (h : Sits w v xs) (hl : xs.length ≤ 1048576) (_hwf : ∀ x ∈ xs, (Lit.int .i64 x).wf = true) :
    Calls Try.prog 30 #[.int .i64 n, v] w fun e w' => ∃ u, e = .returned (.tuple #[u, .bool (nrvB n xs)]) ∧ Own w' w.heap.size u (nrvRes n xs) ∧ Below w.heap.size w w' := by
  have HV := hid h.reads
  obtain ⟨b, off, c, rfl, _, _, _, _⟩ := h
  cases hc : combB n xs with
  | true =>
    have HC := hid hc
    obtain ⟨N, rfl, hN, hK⟩ := comb_nat hc
    obtain ⟨R, hR⟩ : ∃ R, R = revL N xs.length := ⟨_, rfl⟩
    obtain ⟨p, hp⟩ : ∃ p, p = placeIn xs R := ⟨_, rfl⟩
    have HP := hid hp
    have HB := hid (show nrvB (N : Int) xs = ofB R (p + 1) by rw [nrvB, hc, Int.toNat_natCast, ← hR, ← hp]; rfl)
    have HRR := hid (show nrvRes (N : Int) xs = ofRes R (p + 1) by rw [nrvRes, if_pos hc, Int.toNat_natCast, ← hR, ← hp])
    have HL := hid (show R.length ≤ 100000 ∧ ∀ l ∈ R, l.length ≤ 12 by rw [hR]; exact revL_lens hN hK)
    have hpl := placeIn_le xs R
    rw [← hp] at hpl
    have hl100 := HL.out.1
    have hwp : IntKind.i64.wrap (p + 1) = p + 1 := IntWalk.i64_in _ (by omega)
    have HREV := hid (fun w' => chRevolving_any N xs.length w' hN hK)
    rw [← hR] at HREV
    clear hc _wn _hwf hR hp
    go_enter Try.func30, Try.ntmps30
    go_wp2_with (first
      | (go_at_call 67; refine (raCombination_any _ _ xs _ HV.out).mono ?_; rintro e w1 ⟨rfl, rfl⟩; rw [HC.out])
      | (go_at_call 64; refine (HREV.out _).mono ?_; rintro e w1 ⟨u, rfl, hu, hb1⟩; have HU := hid hu; have HB1 := hid hb1; have HV1 := hid (HV.out.below hb1); clear hu hb1)
      | (go_at_call 68; refine (raPlace_any _ _ R xs _ _ HU.out HV1.out).mono ?_; rintro e w2 ⟨rfl, hb2⟩; rw [← HP.out]; have HU2 := hid (HU.out.below hb2); have HB2 := hid (Below_chain HB1.out hb2); clear hb2)
      | (go_at_call 63; refine (raOf_any _ R (p + 1) _ _ HU2.out HL.out.1 HL.out.2).mono ?_; rintro e w3 ⟨u3, rfl, hu3, hb3⟩; have HU3 := hid hu3; have HB3 := hid (Below_chain HB2.out hb3); clear hu3 hb3)
      | fail)
    go_ret2
    exact ⟨_, ret_sb2 HB.out.symm, by rw [HRR.out]; exact HU3.out.mono HB2.out.size, HB3.out⟩
  | false =>
    have HC := hid hc
    have HB := hid (show nrvB n xs = false by rw [nrvB, hc]; rfl)
    have HR := hid (show nrvRes n xs = [] by rw [nrvRes, if_neg (by rw [hc]; simp)])
    clear hc _wn _hwf
    go_enter Try.func30, Try.ntmps30
    go_wp2_with (first | (go_at_call 67; refine (raCombination_any _ _ xs _ HV.out).mono ?_; rintro e w1 ⟨rfl, rfl⟩; rw [HC.out]) | fail)
    go_ret2
    exact ⟨_, ret_sb2 HB.out.symm, by rw [HR.out]; exact Own.nil _ _, Below.refl _ _⟩
/-- RevolvingList -/
def rvlRes (n k : Int) : List (List Int) := if szB n k = true then revL n.toNat k.toNat else []
theorem spec_RevolvingList_any (n k : Int) (w : World) :
    Calls Try.prog 32 #[.int .i64 n, .int .i64 k] w fun e w' => ∃ u, e = .returned (.tuple #[u, .bool (szB n k)]) ∧ Lists w' w.heap.size u (rvlRes n k) ∧ Below w.heap.size w w' := by
  cases hs : szB n k with
  | true =>
    have HS := hid hs
    obtain ⟨N, K, rfl, rfl, hN, hK⟩ := szB_nat hs
    have HR := hid (show rvlRes (N : Int) (K : Int) = revL N K by rw [rvlRes, if_pos hs]; rfl)
    clear hs
    go_enter Try.func32, Try.ntmps32
    go_wp2_with (first
      | (go_at_call 62; refine (chSize_any _ _ _).mono ?_; rintro e w1 ⟨rfl, rfl⟩; rw [HS.out])
      | (go_at_call 64; refine (chRevolving_any N K _ hN hK).mono ?_; rintro e w1 ⟨u, rfl, hu, hb1⟩; have HU := hid hu; have HB1 := hid hb1; clear hu hb1)
      | fail)
    go_ret2
    exact ⟨_, rfl, by rw [HR.out]; exact HU.out, HB1.out⟩
  | false =>
    have HS := hid hs
    have HR := hid (show rvlRes n k = [] by rw [rvlRes, if_neg (by rw [hs]; simp)])
    clear hs
    go_enter Try.func32, Try.ntmps32
    go_wp2_with (first | (go_at_call 62; refine (chSize_any _ _ _).mono ?_; rintro e w1 ⟨rfl, rfl⟩; rw [HS.out]) | fail)
    go_ret2
    exact ⟨_, rfl, by rw [HR.out]; exact Lists.nil _ _, Below.refl _ _⟩
end Go.Proofs.Ytijjdidljoicfaa
