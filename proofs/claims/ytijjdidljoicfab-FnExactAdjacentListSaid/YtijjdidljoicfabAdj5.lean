/- Facts and contracts (RevS, SrchS, AdjM, WkA, AdjJ, CRank, Nxt1, Nxt2), merged. Conditions: as told at each. -/
import Derived.Laws.CopyOwn
import Derived.Test.YtijjdidljoicfabAdj4

/- Contracts: spec.RevolvingAt, RevolvingRank, NextRevolving and RevolvingList. Conditions: none; the slice reads as a list. -/
namespace Go.Proofs.Ytijjdidljoicfab
open Go.RowKit
set_option linter.unusedVariables false

theorem revL_lens {n k : Nat} (hn : n ≤ 12) (hk : k ≤ n) : (revL n k).length ≤ 100000 ∧ ∀ l ∈ revL n k, l.length ≤ 12 :=
  ⟨Nat.le_trans (revL_bound n k) (Nat.le_trans (pow12_le hn) (by omega)), fun l hl => by rw [revL_elem n k hk l hl]; omega⟩
theorem ret_sb2 {u : Value} {b b' : Bool} (h : b = b') : Ending.returned (.tuple #[u, .bool b]) = .returned (.tuple #[u, .bool b']) := by rw [h]
theorem ret_nb2 {a b : Int} {c d : Bool} (h : a = b) (h' : c = d) : Ending.returned (.tuple #[.int .i64 a, .bool c]) = .returned (.tuple #[.int .i64 b, .bool d]) := by rw [h, h']
theorem ofRes_len {L : List (List Int)} {i : Int} (h : ∀ l ∈ L, l.length ≤ 12) : (ofRes L i).length ≤ 12 := by
  unfold ofRes; split
  · rw [List.getD_eq_getElem?_getD]
    by_cases hi : i.toNat < L.length
    · rw [List.getElem?_eq_getElem hi]; exact h _ (List.getElem_mem _)
    · rw [List.getElem?_eq_none (by omega)]; simp
  · simp
/-- RevolvingAt -/
def raB (n k r : Int) : Bool := szB n k && ofB (revL n.toNat k.toNat) r
def raRes (n k r : Int) : List Int := if szB n k = true then ofRes (revL n.toNat k.toNat) r else []
theorem bound_RevolvingAt (n k r : Int) : (raRes n k r).length ≤ 1048576 := by
  unfold raRes; split
  · rename_i h
    obtain ⟨N, K, rfl, rfl, hN, hK⟩ := szB_nat h
    have := ofRes_len (i := r) (revL_lens hN hK).2
    rw [Int.toNat_natCast, Int.toNat_natCast]; omega
  · simp
/-- RevolvingRank -/
def rrV (n : Int) (xs : List Int) : Int := if combB n xs = true then placeIn xs (revL n.toNat xs.length) else 0
theorem comb_nat {n : Int} {xs : List Int} (h : combB n xs = true) : ∃ N : Nat, n = (N : Int) ∧ N ≤ 12 ∧ xs.length ≤ N := by
  have h1 := combB_elem h
  simp only [combB, Bool.and_eq_true, decide_eq_true_eq] at h
  exact ⟨n.toNat, by omega, by omega, by omega⟩
/-- NextRevolving -/
def nrvB (n : Int) (xs : List Int) : Bool := combB n xs && ofB (revL n.toNat xs.length) (placeIn xs (revL n.toNat xs.length) + 1)
def nrvRes (n : Int) (xs : List Int) : List Int := if combB n xs = true then ofRes (revL n.toNat xs.length) (placeIn xs (revL n.toNat xs.length) + 1) else []
theorem placeIn_le (l : List Int) : ∀ L : List (List Int), -1 ≤ placeIn l L ∧ placeIn l L < (L.length : Int)
  | [] => by simp [placeIn]
  | x :: r => by
    have := placeIn_le l r
    rw [placeIn, List.length_cons]
    split
    · omega
    · split <;> omega
theorem bound_NextRevolving (n : Int) (xs : List Int) : (nrvRes n xs).length ≤ 1048576 := by
  unfold nrvRes; split
  · rename_i h
    obtain ⟨N, rfl, hN, hK⟩ := comb_nat h
    have := ofRes_len (i := placeIn xs (revL N xs.length) + 1) (revL_lens hN hK).2
    rw [Int.toNat_natCast]; omega
  · simp
/-- RevolvingList -/
def rvlRes (n k : Int) : List (List Int) := if szB n k = true then revL n.toNat k.toNat else []
end Go.Proofs.Ytijjdidljoicfab

/- Contract: spec.AdjacentList. -/
namespace Go.Proofs.Ytijjdidljoicfab
open Go.RowKit
set_option linter.unusedVariables false

/-- AdjacentList -/
def adjS (n k : Nat) : List (List Int) := srch (allL n k 0) ((allL n k 0).length - 1) [upTo k]
def adjOk (n k : Int) : Bool := inB n 0 6 && inB k 0 n && decide (absW (hlE (allL n.toNat k.toNat 0) (allL n.toNat k.toNat 0).length - hlO (allL n.toNat k.toNat 0) (allL n.toNat k.toNat 0).length) ≤ 1)
def adjRes (n k : Int) : List (List Int) := if adjOk n k = true then adjS n.toNat k.toNat else []
def adjB (n k : Int) : Bool := decide (0 < (adjRes n k).length)
theorem few_all (n k : Nat) (hn : n ≤ 12) (hk : k ≤ 12) : ∀ l ∈ allL n k 0, fewL l := by
  intro l hl
  refine ⟨by rw [allL_elem n k 0 l hl]; exact hk, fun x hx => ?_⟩
  have := allL_small n k 0 l hl x hx
  omega
theorem few_upTo (k : Nat) (hk : k ≤ 12) : fewL (upTo k) := by
  refine ⟨by rw [upTo_length]; exact hk, fun x hx => ?_⟩
  obtain ⟨i, hi, rfl⟩ := List.getElem_of_mem hx
  rw [upTo_length] at hi
  have := upTo_getD k i hi
  rw [getD_at (by rw [upTo_length]; exact hi)] at this
  omega
theorem all_six (n k : Nat) (hn : n ≤ 6) (hk : k ≤ n) : 0 < (allL n k 0).length ∧ (allL n k 0).length ≤ 100 := by
  rw [allL_len n (by omega) k 0 (by omega), Nat.sub_zero]
  have h : ∀ n ≤ 6, ∀ k ≤ n, 0 < binom n k ∧ binom n k ≤ 100 := by decide
  exact h n hn k hk
theorem Lists.pos {w : World} {B : Nat} {v : Value} {L : List (List Int)} (h : Lists w B v L) (h0 : 0 < L.length) : ∃ g c, v = .slice (some ⟨g, 0, none⟩) L.length c := by
  rcases h.form with ⟨_, rfl⟩ | ⟨g, cap, rfl, _⟩
  · simp at h0
  · exact ⟨_, _, rfl⟩
theorem few_one {l : List Int} (h : fewL l) : ∀ x ∈ [l], fewL x := by
  intro x hx
  simp at hx; subst hx; exact h
theorem spec_AdjacentList_any (n k : Int) (w : World) (_wn : (Lit.int .i64 n).wf = true) (_wk : (Lit.int .i64 k).wf = true) :
    Calls Try.prog 20 #[.int .i64 n, .int .i64 k] w fun e w' => ∃ u, e = .returned (.tuple #[u, .bool (adjB n k)]) ∧ Lists w' w.heap.size u (adjRes n k) ∧ Below w.heap.size w w' := by
  by_cases h1 : inB n 0 6 = true
  · by_cases h2 : inB k 0 n = true
    · have H1 := hid h1
      have H2 := hid h2
      have hn := inB_iff.1 h1
      have hk := inB_iff.1 h2
      obtain ⟨N, rfl⟩ : ∃ N : Nat, n = (N : Int) := ⟨n.toNat, by omega⟩
      obtain ⟨K, rfl⟩ : ∃ K : Nat, k = (K : Int) := ⟨k.toNat, by omega⟩
      have hN : N ≤ 6 := by omega
      have hK : K ≤ N := by omega
      have hN12 : N ≤ 12 := by omega
      have hK12 : K ≤ 12 := by omega
      have HOK := hid (show adjOk (N : Int) (K : Int) = decide (absW (hlE (allL N K 0) (allL N K 0).length - hlO (allL N K 0) (allL N K 0).length) ≤ 1) by rw [adjOk, h1, h2, Int.toNat_natCast, Int.toNat_natCast]; rfl)
      have HALL := hid (raAll_any N hN12 K 0)
      have HHV := hid (chHalves_any N K hN12 hK)
      have HFA := hid (few_all N K hN12 hK12)
      have HFU := hid (few_upTo K hK12)
      have HADJ := hid (show adjS N K = srch (allL N K 0) ((allL N K 0).length - 1) [upTo K] from rfl)
      obtain ⟨ha0, ha1⟩ := all_six N K hN hK
      have hlr := hl_range (allL N K 0) (allL N K 0).length
      obtain ⟨A, hA⟩ : ∃ A, A = allL N K 0 := ⟨_, rfl⟩
      rw [← hA] at HOK HALL HHV HFA HADJ ha0 ha1 hlr
      clear hA
      obtain ⟨x, hx⟩ : ∃ x, x = hlE A A.length := ⟨_, rfl⟩
      obtain ⟨y, hy⟩ : ∃ y, y = hlO A A.length := ⟨_, rfl⟩
      rw [← hx, ← hy] at HOK HHV hlr
      clear hx hy
      obtain ⟨hl1, hl2, hl3⟩ := hlr
      have hww : IntKind.i64.wrap (x - y) = x - y := IntWalk.i64_in _ (by omega)
      by_cases hab : absW (x - y) ≤ 1
      · have HOKT := hid (show adjOk (N : Int) (K : Int) = true by rw [HOK.out, decide_eq_true hab])
        have HRES := hid (show adjRes (N : Int) (K : Int) = adjS N K by rw [adjRes, if_pos HOKT.out]; rfl)
        have HB0 := hid (show adjB (N : Int) (K : Int) = decide (0 < (adjS N K).length) by rw [adjB, HRES.out])
        obtain ⟨R, hR⟩ : ∃ R, R = adjS N K := ⟨_, rfl⟩
        rw [← hR] at HADJ HRES HB0
        have HR := hid hR
        clear hR h1 h2
        go_enter Try.func20, Try.ntmps20
        go_wp2_with (first
          | (go_at_call 48; refine (l1In_any _ _ _ _).mono ?_; rintro e w1 ⟨rfl, rfl⟩; first | rw [H1.out] | rw [H2.out])
          | (go_at_call 45; refine (HHV.out _).mono ?_; rintro e w1 ⟨rfl, hb1⟩; have HB1 := hid hb1; clear hb1)
          | (go_at_call 49; refine (l1AbsW_any _ _ (by omega) (by omega)).mono ?_; rintro e w2 ⟨rfl, rfl⟩)
          | (go_at_call 51; refine (raUpTo_any K _ (by omega)).mono ?_; rintro e w2 ⟨u, rfl, hu, hb2⟩; obtain ⟨au, cu, rfl⟩ := hu.slice2; have hb2' := Below_chain HB1.out hb2; have hs2 := hb2'.size; have HB2 := hid (hb2'.alloc hs2 (.cells #[.slice au (upTo K).length cu] 28)); have HP := hid (Lists_lit (hu.mono HB1.out.size) hs2); clear hu hb2 hb2')
          | (go_at_call 52; refine (HALL.out _ (by omega) (by omega)).mono ?_; rintro e w3 ⟨a, rfl, ha, hb3⟩; obtain ⟨ga, ca, rfl⟩ := ha.pos ha0; have HP3 := hid (HP.out.below hb3); have HA3 := hid (ha.mono (show w.heap.size ≤ _ from HB2.out.size)); have hb3' := Below_chain HB2.out hb3; have hs3 := hb3'.size; have HB3 := hid hb3'; clear ha hb3 hb3')
          | (go_at_call 50; refine (chSearch_any A ga ca w.heap.size ha1 HFA.out (A.length - 1) [upTo K] _ _ (by simp; omega) (by simp) HP3.out HA3.out hs3 (few_one HFU.out)).mono ?_; rintro e w4 ⟨u4, rfl, hu4, hb4⟩; rw [← HADJ.out] at hu4; have HU4 := hid hu4; obtain ⟨ao4, c4, rfl⟩ := hu4.slice; have HB4 := hid (Below_chain HB3.out hb4); clear hu4 hb4)
          | fail)
        go_ret2
        exact ⟨_, ret_sb2 HB0.out.symm, by rw [HRES.out]; exact HU4.out, HB4.out⟩
      · have HOKT := hid (show adjOk (N : Int) (K : Int) = false by rw [HOK.out, decide_eq_false hab])
        have HRES := hid (show adjRes (N : Int) (K : Int) = [] by rw [adjRes, if_neg (by rw [HOKT.out]; simp)])
        have HB0 := hid (show adjB (N : Int) (K : Int) = false by rw [adjB, HRES.out]; rfl)
        clear h1 h2
        go_enter Try.func20, Try.ntmps20
        go_wp2_with (first
          | (go_at_call 48; refine (l1In_any _ _ _ _).mono ?_; rintro e w1 ⟨rfl, rfl⟩; first | rw [H1.out] | rw [H2.out])
          | (go_at_call 45; refine (HHV.out _).mono ?_; rintro e w1 ⟨rfl, hb1⟩; have HB1 := hid hb1; clear hb1)
          | (go_at_call 49; refine (l1AbsW_any _ _ (by omega) (by omega)).mono ?_; rintro e w2 ⟨rfl, rfl⟩)
          | fail)
        go_ret2
        exact ⟨_, ret_sb2 HB0.out.symm, by rw [HRES.out]; exact Lists.nil _ _, HB1.out⟩
    · have h2' : inB k 0 n = false := by simpa using h2
      have H1 := hid h1
      have H2 := hid h2'
      have HRES := hid (show adjRes n k = [] by rw [adjRes, if_neg (by rw [adjOk, h2', Bool.and_false]; simp)])
      have HB0 := hid (show adjB n k = false by rw [adjB, HRES.out]; rfl)
      clear h1 h2 h2' _wn _wk
      go_enter Try.func20, Try.ntmps20
      go_wp2_with (first | (go_at_call 48; refine (l1In_any _ _ _ _).mono ?_; rintro e w1 ⟨rfl, rfl⟩; first | rw [H1.out] | rw [H2.out]) | fail)
      go_ret2
      exact ⟨_, ret_sb2 HB0.out.symm, by rw [HRES.out]; exact Lists.nil _ _, Below.refl _ _⟩
  · have h1' : inB n 0 6 = false := by simpa using h1
    have H1 := hid h1'
    have HRES := hid (show adjRes n k = [] by rw [adjRes, if_neg (by rw [adjOk, h1']; simp)])
    have HB0 := hid (show adjB n k = false by rw [adjB, HRES.out]; rfl)
    clear h1 h1' _wn _wk
    go_enter Try.func20, Try.ntmps20
    go_wp2_with (first | (go_at_call 48; refine (l1In_any _ _ _ _).mono ?_; rintro e w1 ⟨rfl, rfl⟩; rw [H1.out]) | fail)
    go_ret2
    exact ⟨_, ret_sb2 HB0.out.symm, by rw [HRES.out]; exact Lists.nil _ _, Below.refl _ _⟩
end Go.Proofs.Ytijjdidljoicfab

/- Plain facts: the search for a list by adjacent exchanges over ranks finds what the search over lists finds. Conditions: no list comes twice. -/
namespace Go.Proofs.Ytijjdidljoicfab
open Go.RowKit
set_option linter.unusedVariables false

def atA (A : List (List Int)) (x : Int) : List Int := A.getD x.toNat []
def visA (p : List Int) (_ : List Int) : Bool × List Int := (false, p)
def nrA (A : List (List Int)) (y x : Int) : Bool := ldP 1 (atA A y) (atA A x)
theorem atA_inj {A : List (List Int)} (hA : A.Nodup) {x y : Int} (hx : 0 ≤ x ∧ x < A.length) (hy : 0 ≤ y ∧ y < A.length) (h : atA A x = atA A y) : x = y := by
  obtain ⟨a, rfl⟩ : ∃ a : Nat, x = a := ⟨x.toNat, by omega⟩
  obtain ⟨b, rfl⟩ : ∃ b : Nat, y = b := ⟨y.toNat, by omega⟩
  have ha : a < A.length := by omega
  have hb : b < A.length := by omega
  unfold atA at h
  rw [Int.toNat_natCast, Int.toNat_natCast, getDL2 ha, getDL2 hb] at h
  have hp := List.pairwise_iff_getElem.1 (List.nodup_iff_pairwise_ne.1 hA)
  rcases Nat.lt_trichotomy a b with h1 | h1 | h1
  · exact absurd h (hp a b ha hb h1)
  · rw [h1]
  · exact absurd h.symm (hp b a hb ha h1)
theorem stop_same {A : List (List Int)} (hA : A.Nodup) {p : List Int} {x : Int} (h0 : 0 < p.length) (hp : ∀ y ∈ p, 0 ≤ y ∧ y < A.length) (hx : 0 ≤ x ∧ x < A.length) :
    stopG (nrA A) p x = stopS (p.map (atA A)) (atA A x) := by
  have e1 : hasB p x = decide (0 ≤ placeIn (atA A x) (p.map (atA A))) := by
    rw [Bool.eq_iff_iff, hasB_iff, decide_eq_true_eq, mem_place, List.mem_map]
    exact ⟨fun h => ⟨x, h, rfl⟩, fun ⟨y, hy, e⟩ => atA_inj hA (hp y hy) hx e ▸ hy⟩
  have e2 : (p.map (atA A)).getD ((p.map (atA A)).length - 1) [] = atA A (p.getD (p.length - 1) 0) := by
    rw [List.length_map, getDL2 (by rw [List.length_map]; omega), List.getElem_map, getD_at (by omega)]
  rw [stopG, stopS, e1, e2, folG, decide_eq_false (show ¬ p.length = 0 by omega), Bool.false_or, nrA, ld_near1]
theorem wk_srch {A : List (List Int)} (hA : A.Nodup) : ∀ (m : Nat) (p : List Int), 0 < p.length → p.Nodup → (∀ x ∈ p, 0 ≤ x ∧ x < A.length) →
    (wk (stopG (nrA A)) (upTo A.length) visA m p []).1 = decide ((srch A m (p.map (atA A))).length = 0) ∧
    (wk (stopG (nrA A)) (upTo A.length) visA m p []).2.map (atA A) = srch A m (p.map (atA A)) ∧
    (wk (stopG (nrA A)) (upTo A.length) visA m p []).2.Nodup ∧ ∀ x ∈ (wk (stopG (nrA A)) (upTo A.length) visA m p []).2, 0 ≤ x ∧ x < A.length := by
  intro m
  induction m with
  | zero =>
    intro p h0 hn hp
    refine ⟨?_, rfl, hn, hp⟩
    show false = decide ((p.map (atA A)).length = 0)
    rw [List.length_map, decide_eq_false (by omega)]
  | succ m ih =>
    intro p h0 hn hp
    have key : ∀ d k, k + d = A.length →
        (wkL (stopG (nrA A)) (wk (stopG (nrA A)) (upTo A.length) visA m) p ((upTo A.length).drop k) []).1 = decide ((srL (srch A m) (p.map (atA A)) (A.drop k)).length = 0) ∧
        (wkL (stopG (nrA A)) (wk (stopG (nrA A)) (upTo A.length) visA m) p ((upTo A.length).drop k) []).2.map (atA A) = srL (srch A m) (p.map (atA A)) (A.drop k) ∧
        (wkL (stopG (nrA A)) (wk (stopG (nrA A)) (upTo A.length) visA m) p ((upTo A.length).drop k) []).2.Nodup ∧
        ∀ x ∈ (wkL (stopG (nrA A)) (wk (stopG (nrA A)) (upTo A.length) visA m) p ((upTo A.length).drop k) []).2, 0 ≤ x ∧ x < A.length := by
      intro d
      induction d with
      | zero =>
        intro k hk
        have hk' : k = A.length := by omega
        subst hk'
        have e : (upTo A.length).drop A.length = [] := List.drop_eq_nil_of_le (by rw [upTo_length]; exact Nat.le_refl _)
        rw [e, List.drop_length]
        exact ⟨rfl, rfl, List.nodup_nil, fun x hx => by simp [wkL] at hx⟩
      | succ d ihd =>
        intro k hk
        have hkA : k < A.length := by omega
        have hkU : k < (upTo A.length).length := by rw [upTo_length]; exact hkA
        have ek : (upTo A.length)[k] = (k : Int) := by rw [← getD_at hkU, upTo_getD _ _ hkA]
        have ea : atA A (k : Int) = A[k] := by unfold atA; rw [Int.toNat_natCast, getDL2 hkA]
        have hst := stop_same hA (x := (k : Int)) h0 hp ⟨by omega, by omega⟩
        have ihn := ihd (k + 1) (by omega)
        cases hs : stopG (nrA A) p (k : Int) with
        | true =>
          rw [wkL_skip hkU (by rw [ek]; exact hs), srL_skip hkA (by rw [← ea, ← hst]; exact hs)]
          exact ihn
        | false =>
          have hnin : (k : Int) ∉ p := fun h => by
            have : hasB p (k : Int) = true := hasB_iff.2 h
            rw [stopG, this] at hs
            simp at hs
          have ihm := ih (p ++ [(k : Int)]) (by simp) (by
            rw [List.nodup_append]
            refine ⟨hn, by simp, fun a ha b hb e => ?_⟩
            simp at hb
            subst hb
            exact hnin (e ▸ ha)) (fun x hx => by
            rcases List.mem_append.1 hx with h | h
            · exact hp x h
            · simp at h; subst h; omega)
          rw [List.map_append, List.map_cons, List.map_nil, ea] at ihm
          obtain ⟨r, hr⟩ : ∃ r, r = wk (stopG (nrA A)) (upTo A.length) visA m (p ++ [(k : Int)]) [] := ⟨_, rfl⟩
          rw [← hr] at ihm
          obtain ⟨b, s1⟩ := r
          obtain ⟨i1, i2, i3, i4⟩ := ihm
          cases b with
          | true =>
            have hz : (srch A m (p.map (atA A) ++ [A[k]])).length = 0 := of_decide_eq_true i1.symm
            have hs1 : s1 = [] := by
              have := congrArg List.length i2
              simp only [List.length_map] at this
              exact List.eq_nil_of_length_eq_zero (by omega)
            subst hs1
            rw [wkL_on hkU (by rw [ek]; exact hs) (by rw [ek]; exact hr.symm), srL_none hkA (by rw [← ea, ← hst]; exact hs) hz]
            exact ihn
          | false =>
            have hz : (srch A m (p.map (atA A) ++ [A[k]])).length ≠ 0 := of_decide_eq_false i1.symm
            rw [wkL_off hkU (by rw [ek]; exact hs) (by rw [ek]; exact hr.symm), srL_hit hkA (by rw [← ea, ← hst]; exact hs) hz]
            exact ⟨i1, i2, i3, i4⟩
    have h := key A.length 0 (by omega)
    rw [List.drop_zero, List.drop_zero] at h
    exact h
end Go.Proofs.Ytijjdidljoicfab

/- Contract: walk with impl.AdjacentList$1 and impl.AdjacentList$2. Conditions: what both keep is kept by appends to other rows. -/
namespace Go.Proofs.Ytijjdidljoicfab
open Go.RowKit
set_option linter.unusedVariables false

set_option maxHeartbeats 2000000 in
theorem walk_WkA {σ : Type} (ws : List Int) (vis : List Int → σ → Bool × σ) (nr : Int → Int → Bool) (ok : Int → Prop) (J : World → σ → Prop) (M gw ow cw : Nat) (N0 N1 A0 A1 : Addr)
    (hws : ∀ i (hi : i < ws.length), ok ws[i]) (hpos : 0 < ws.length) (hlen : ws.length ≤ 1024)
    (live : σ → Prop) (HL : ∀ p s s1, live s → vis p s = (true, s1) → live s1)
    (HJ : ∀ w w' row s, live s → J w s → w.grownBy w' row → (∀ k, row = some k → M ≤ k) → J w' s)
    (HW : ∀ w s, J w s → Sits w (.slice (some ⟨gw, ow, none⟩) ws.length cw) ws)
    (HN : ∀ w s y x, J w s → ok y → ok x → Calls Try.prog 55 #[.int .i64 y, .int .i64 x, .pointer (some N0), .pointer (some N1)] w fun e w' => e = .returned (.bool (nr y x)) ∧ J w' s ∧ Below w.heap.size w w')
    (HV : ∀ w s g cap p, live s → J w s → Own w M (.slice (some ⟨g, 0, none⟩) p.length cap) p → p.length = ws.length → (∀ i, i < p.length → ok (p.getD i 0)) → M ≤ w.heap.size →
      Calls Try.prog 59 #[.slice (some ⟨g, 0, none⟩) p.length cap, .pointer (some A0), .pointer (some A1)] w fun e w' => e = .returned (.bool (vis p s).1) ∧ J w' (vis p s).2 ∧ Fr M none w w') :
    ∀ (m : Nat) (p : List Int) (v : Value) (s : σ) (w : World), live s → p.length + m = ws.length → Own w M v p → J w s → (∀ i, i < p.length → ok (p.getD i 0)) → M ≤ w.heap.size →
      Calls Try.prog 57 #[.slice (some ⟨gw, ow, none⟩) ws.length cw, v, .func (.func 55) #[] #[.pointer (some N0), .pointer (some N1)], .func (.func 59) #[] #[.pointer (some A0), .pointer (some A1)]] w fun e w' =>
        e = .returned (.bool (wk (stopG nr) ws vis m p s).1) ∧ J w' (wk (stopG nr) ws vis m p s).2 ∧ Own w' M v p ∧ Fr M v.ownBlock w w' := by
  intro m
  induction m with
  | zero =>
    intro p v s w hlive hpm hown hj hsm hM
    rcases hown.form with ⟨_, h0⟩ | ⟨g, cap, rfl, hgM, hglt, _⟩
    · rw [h0] at hpm; simp at hpm; omega
    · have hbb : ((p.length : Int) == (ws.length : Int)) = true := by have : p.length = ws.length := by omega
                                                                      rw [this]; simp
      have HPL := hid (show p.length = ws.length by omega)
      have HO := hid hown
      have HJJ := hid hj
      have HSM := hid hsm
      have HLV := hid hlive
      clear hpm hown hj hsm hlive
      obtain ⟨r, hr⟩ : ∃ r, r = vis p s := ⟨_, rfl⟩
      have HR := hid hr
      have HG := hid (show wk (stopG nr) ws vis 0 p s = r from hr.symm)
      obtain ⟨b1, s1⟩ := r
      clear hr
      go_enter Try.func57, Try.ntmps57
      go_wp2_with (first | (go_at_call 59; refine (HV _ s g cap p HLV.out HJJ.out HO.out HPL.out HSM.out hM).mono ?_; rintro e w1 ⟨rfl, hj1, hf1⟩; rw [← HR.out] at hj1 ⊢; have HJ1 := hid hj1; have HF1 := hid hf1; clear hj1 hf1) | fail)
      go_ret
      rw [HG.out]
      exact ⟨rfl, HJ1.out, HO.out.fr HF1.out (.inr (by simp [Value.ownBlock])), HF1.out.any⟩
  | succ m ih =>
    intro p v s w hlive hpm hown hj hsm hM
    obtain ⟨i0, hi, hz0, hz1, hz2⟩ := info_parts Try.info3
    obtain ⟨ao, c, hv⟩ : ∃ ao c, v = .slice ao p.length c := by
      rcases hown.form with ⟨rfl, rfl⟩ | ⟨g, cap, rfl, _⟩
      · exact ⟨none, 0, rfl⟩
      · exact ⟨_, _, rfl⟩
    subst hv
    have hbb : ((p.length : Int) == (ws.length : Int)) = false := beq_false_of_ne (by omega)
    have hpl : p.length ≤ 1024 := by omega
    have HPM := hid hpm
    have HO0 := hid hown
    have HJ0 := hid hj
    have HSM := hid hsm
    have HLIVE := hid hlive
    have HWS := hid hws
    clear hpm hown hj hsm hlive hws
    go_enter Try.func57, Try.ntmps57
    go_wp2_with fail
    go_loopw [21] (fun i wr => ∃ (k : Nat) (s' : σ), k ≤ ws.length ∧ i = .int .i64 k ∧ live s' ∧ J wr s' ∧ Own wr M (.slice ao p.length c) p ∧ Fr M (Value.ownBlock (.slice ao p.length c)) w wr ∧ wkL (stopG nr) (wk (stopG nr) ws vis m) p ws s = wkL (stopG nr) (wk (stopG nr) ws vis m) p (ws.drop k) s') (fun i _ => ws.length - (intOf i).toNat)
    case atStart => exact ⟨0, s, Nat.zero_le _, rfl, HLIVE.out, HJ0.out, HO0.out, Fr.refl _ _ _, rfl⟩
    case round =>
      obtain ⟨k, s', hk, rfl, hlv, hj, hown, hfr, heq⟩ := hrel
      have HLV := hid hlv
      have HO := hid hown
      have HJJ := hid hj
      have HFR := hid hfr
      have HEQ := hid heq
      have hMr : M ≤ wr.heap.size := Nat.le_trans hM hfr.size
      have HRD := hid hown.reads
      by_cases hlt : k < ws.length
      · have hcx := (Sits.at' (HW _ _ hj)).2 k hlt
        obtain ⟨x, hx⟩ : ∃ x, x = ws[k] := ⟨_, rfl⟩
        have HOX := hid (show ok x by rw [hx]; exact HWS.out k hlt)
        have HX := hid hx
        rw [← hx] at hcx
        clear hown hj hfr heq hx hlv
        have HSX := hid (show ∀ i, i < (p ++ [x]).length → ok ((p ++ [x]).getD i 0) from fun i hi => by
          by_cases h : i < p.length
          · have e : (p ++ [x]).getD i 0 = p.getD i 0 := by simp [List.getD_eq_getElem?_getD, List.getElem?_append_left h]
            rw [e]
            exact HSM.out i h
          · have hi2 : i = p.length := by simp at hi; omega
            subst hi2
            have e : (p ++ [x]).getD p.length 0 = x := by simp [List.getD_eq_getElem?_getD]
            rw [e]
            exact HOX.out)
        have HLX := hid (show (p ++ [x]).length + m = ws.length by have := HPM.out; simp; omega)
        cases hhb : hasB p x with
        | true =>
          have HHB := hid hhb
          have HST := hid (show stopG nr p ws[k] = true by rw [← HX.out, stopG, hhb]; rfl)
          clear hhb
          go_wp2_with (first
            | (go_at_call 82; refine (Contains_any _ p x _ HRD.out).mono ?_; rintro e w1 ⟨rfl, rfl⟩; rw [HHB.out])
            | fail)
          go_roundw
          case rel => exact ⟨k + 1, s', by omega, by go_num, HLV.out, HJJ.out, HO.out, HFR.out, HEQ.out.trans (wkL_skip hlt HST.out)⟩
          case measure => simp [intOf]; omega
        | false =>
          have HHB := hid hhb
          by_cases hp0 : p.length = 0
          · have HST := hid (show stopG nr p ws[k] = false by rw [← HX.out, stopG, hhb, folG, decide_eq_true hp0]; rfl)
            have hp1 : ¬ (0 : Int) < (p.length : Int) := by omega
            have HALL := hid (wk_all (x := x) (fun a b c => HJ a b c s' HLV.out) HJJ.out HO.out hMr); have HEND := hid (wk_end (x := x) HFR.out HO.out)
            clear hhb hp0
            obtain ⟨r, hr⟩ : ∃ r, r = wk (stopG nr) ws vis m (p ++ [x]) s' := ⟨_, rfl⟩
            have HR := hid hr
            obtain ⟨b1, s1⟩ := r
            clear hr HW HV HN
            cases b1 with
            | true =>
              go_wp2_with (first
                | (go_at_call 82; refine (Contains_any _ p x _ HRD.out).mono ?_; rintro e w1 ⟨rfl, rfl⟩; rw [HHB.out])
                | (at_builtin; refine wpList_append_kept _ rfl _ _ 28 rfl M 3 i0 (.int .i64 0) 8 Try.underlying28 hi hz0 hz1 hz2 rfl _ _ _ rfl (World.ownsRow.alloc HO.out.row _) ⟨wr.heap.size, 0, none⟩ 1 (.int .i64 x) rfl (fun j y hj => new_cell1 j hj) rfl (by unfold maxLen; omega) (by omega) (by simp; omega) ?_; intro g1 cap1 w2 hown1 hgrow1 hloc1 hlt1; have HH := hid (HALL.out g1 cap1 w2 hown1 hgrow1); have HEE := hid (fun w3 => HEND.out g1 cap1 w2 w3 hgrow1 hloc1); clear hown1 hgrow1 hloc1 hlt1)
                | (go_at_call 57; refine (ih (p ++ [x]) _ s' _ HLV.out HLX.out HH.out.1 HH.out.2.1 HSX.out HH.out.2.2).mono ?_; rintro e w3 ⟨rfl, hj2, ho2, hf2⟩; rw [← HR.out] at hj2 ⊢; have HJ2 := hid hj2; have HE2 := hid (HEE.out w3 ho2 hf2); clear hj2 ho2 hf2)
                | fail)
              go_roundw
              case rel => exact ⟨k + 1, s1, by omega, by go_num, wk_live HL m _ _ _ HLV.out HR.out.symm, HJ2.out, HE2.out.1, HE2.out.2, HEQ.out.trans (wkL_on hlt HST.out (by rw [← HX.out]; exact HR.out.symm))⟩
              case measure => simp [intOf]; omega
            | false =>
              go_wp2_with (first
                | (go_at_call 82; refine (Contains_any _ p x _ HRD.out).mono ?_; rintro e w1 ⟨rfl, rfl⟩; rw [HHB.out])
                | (at_builtin; refine wpList_append_kept _ rfl _ _ 28 rfl M 3 i0 (.int .i64 0) 8 Try.underlying28 hi hz0 hz1 hz2 rfl _ _ _ rfl (World.ownsRow.alloc HO.out.row _) ⟨wr.heap.size, 0, none⟩ 1 (.int .i64 x) rfl (fun j y hj => new_cell1 j hj) rfl (by unfold maxLen; omega) (by omega) (by simp; omega) ?_; intro g1 cap1 w2 hown1 hgrow1 hloc1 hlt1; have HH := hid (HALL.out g1 cap1 w2 hown1 hgrow1); have HEE := hid (fun w3 => HEND.out g1 cap1 w2 w3 hgrow1 hloc1); clear hown1 hgrow1 hloc1 hlt1)
                | (go_at_call 57; refine (ih (p ++ [x]) _ s' _ HLV.out HLX.out HH.out.1 HH.out.2.1 HSX.out HH.out.2.2).mono ?_; rintro e w3 ⟨rfl, hj2, ho2, hf2⟩; rw [← HR.out] at hj2 ⊢; have HJ2 := hid hj2; have HE2 := hid (HEE.out w3 ho2 hf2); clear hj2 ho2 hf2)
                | fail)
              go_ret
              have HG := hid (show wk (stopG nr) ws vis (m + 1) p s = (false, s1) from HEQ.out.trans (wkL_off hlt HST.out (by rw [← HX.out]; exact HR.out.symm)))
              rw [HG.out]
              exact ⟨rfl, HJ2.out, HE2.out.1, HE2.out.2⟩
          · obtain ⟨q, hq⟩ : ∃ q, p.length = q + 1 := ⟨p.length - 1, by omega⟩
            have hqp : q < p.length := by omega
            obtain ⟨y, hy⟩ : ∃ y, y = p.getD q 0 := ⟨_, rfl⟩
            have HOY := hid (show ok y by rw [hy]; exact HSM.out q hqp)
            have HFOL := hid (show ∀ b, nr y x = b → folG nr p x = b from fun b hb => by rw [folG, decide_eq_false hp0, Bool.false_or, show p.length - 1 = q by omega, ← hy, hb])
            obtain ⟨g, rfl⟩ : ∃ g, ao = some ⟨g, 0, none⟩ := by
              rcases HO.out.form with ⟨_, hn⟩ | ⟨g, cap, e, _⟩
              · rw [hn] at hq; simp at hq
              · simp only [Value.slice.injEq] at e
                exact ⟨g, e.1⟩
            have hcy : wr.cell? ⟨g, q, none⟩ = some (.int .i64 y) := by
              rcases HO.out.form with ⟨_, hn⟩ | ⟨g', cap, e, _, _, _, _, hcell, _⟩
              · rw [hn] at hq; simp at hq
              · simp only [Value.slice.injEq, Option.some.injEq, Addr.mk.injEq] at e
                obtain ⟨⟨rfl, _, _⟩, _, _⟩ := e
                have hcq := hcell q hqp; rw [Nat.zero_add] at hcq; rw [hcq, hy, getD_at hqp]
            have hp1 : (0 : Int) < (p.length : Int) := by omega
            have hww : IntKind.i64.wrap ((p.length : Int) - 1) = (q : Int) := by rw [show (p.length : Int) - 1 = (q : Int) by omega]; exact IntWalk.i64_in _ (by omega)
            have hwq : IntKind.i64.wrap (q : Int) = (q : Int) := IntWalk.i64_in _ (by omega)
            have e0 : (0 : Int) ≤ (q : Int) := by omega
            have e1 : (q : Int) < (p.length : Int) := by omega
            have hq0 : ¬ (q : Int) < 0 := by omega
            have HQ := hid hq
            clear hp0 hq hy
            cases hnr : nr y x with
            | false =>
              have HNR := hid hnr
              have HST := hid (show stopG nr p ws[k] = true by rw [← HX.out, stopG, hhb, HFOL.out _ hnr]; rfl)
              clear hhb hnr
              go_wp2_with (first
                | (go_at_call 82; refine (Contains_any _ p x _ HRD.out).mono ?_; rintro e w1 ⟨rfl, rfl⟩; rw [HHB.out])
                | (go_at_call 55; refine (HN _ s' y x HJJ.out HOY.out HOX.out).mono ?_; rintro e w1 ⟨rfl, hj1, hb1⟩; rw [HNR.out]; have HJ1 := hid hj1; have HO1 := hid (HO.out.below hb1); have HF1 := hid (HFR.out.trans (Fr.of_below hb1)); have hM1 : M ≤ w1.heap.size := Nat.le_trans hMr hb1.size; clear hj1 hb1)
                | fail)
              go_roundw
              case rel => exact ⟨k + 1, s', by omega, by go_num, HLV.out, HJ1.out, HO1.out, HF1.out, HEQ.out.trans (wkL_skip hlt HST.out)⟩
              case measure => simp [intOf]; omega
            | true =>
              have HNR := hid hnr
              have HST := hid (show stopG nr p ws[k] = false by rw [← HX.out, stopG, hhb, HFOL.out _ hnr]; rfl)
              clear hhb hnr
              obtain ⟨r, hr⟩ : ∃ r, r = wk (stopG nr) ws vis m (p ++ [x]) s' := ⟨_, rfl⟩
              have HR := hid hr
              obtain ⟨b1, s1⟩ := r
              clear hr HW HV
              cases b1 with
              | true =>
                go_wp2_with (first
                  | (go_at_call 82; refine (Contains_any _ p x _ HRD.out).mono ?_; rintro e w1 ⟨rfl, rfl⟩; rw [HHB.out])
                  | (go_at_call 55; refine (HN _ s' y x HJJ.out HOY.out HOX.out).mono ?_; rintro e w1 ⟨rfl, hj1, hb1⟩; rw [HNR.out]; have HJ1 := hid hj1; have HO1 := hid (HO.out.below hb1); have HF1 := hid (HFR.out.trans (Fr.of_below hb1)); have hM1 : M ≤ w1.heap.size := Nat.le_trans hMr hb1.size; have HALL := hid (wk_all (x := x) (fun a b c => HJ a b c s' HLV.out) HJ1.out HO1.out hM1); have HEND := hid (wk_end (x := x) HF1.out HO1.out); clear hj1 hb1)
                  | (at_builtin; refine wpList_append_kept _ rfl _ _ 28 rfl M 3 i0 (.int .i64 0) 8 Try.underlying28 hi hz0 hz1 hz2 rfl _ _ _ rfl (World.ownsRow.alloc HO1.out.row _) ⟨w1.heap.size, 0, none⟩ 1 (.int .i64 x) rfl (fun j y hj => new_cell1 j hj) rfl (by unfold maxLen; omega) (by omega) (by simp; omega) ?_; intro g1 cap1 w2 hown1 hgrow1 hloc1 hlt1; have HH := hid (HALL.out g1 cap1 w2 hown1 hgrow1); have HEE := hid (fun w3 => HEND.out g1 cap1 w2 w3 hgrow1 hloc1); clear hown1 hgrow1 hloc1 hlt1)
                  | (go_at_call 57; refine (ih (p ++ [x]) _ s' _ HLV.out HLX.out HH.out.1 HH.out.2.1 HSX.out HH.out.2.2).mono ?_; rintro e w3 ⟨rfl, hj2, ho2, hf2⟩; rw [← HR.out] at hj2 ⊢; have HJ2 := hid hj2; have HE2 := hid (HEE.out w3 ho2 hf2); clear hj2 ho2 hf2)
                  | fail)
                go_roundw
                case rel => exact ⟨k + 1, s1, by omega, by go_num, wk_live HL m _ _ _ HLV.out HR.out.symm, HJ2.out, HE2.out.1, HE2.out.2, HEQ.out.trans (wkL_on hlt HST.out (by rw [← HX.out]; exact HR.out.symm))⟩
                case measure => simp [intOf]; omega
              | false =>
                go_wp2_with (first
                  | (go_at_call 82; refine (Contains_any _ p x _ HRD.out).mono ?_; rintro e w1 ⟨rfl, rfl⟩; rw [HHB.out])
                  | (go_at_call 55; refine (HN _ s' y x HJJ.out HOY.out HOX.out).mono ?_; rintro e w1 ⟨rfl, hj1, hb1⟩; rw [HNR.out]; have HJ1 := hid hj1; have HO1 := hid (HO.out.below hb1); have HF1 := hid (HFR.out.trans (Fr.of_below hb1)); have hM1 : M ≤ w1.heap.size := Nat.le_trans hMr hb1.size; have HALL := hid (wk_all (x := x) (fun a b c => HJ a b c s' HLV.out) HJ1.out HO1.out hM1); have HEND := hid (wk_end (x := x) HF1.out HO1.out); clear hj1 hb1)
                  | (at_builtin; refine wpList_append_kept _ rfl _ _ 28 rfl M 3 i0 (.int .i64 0) 8 Try.underlying28 hi hz0 hz1 hz2 rfl _ _ _ rfl (World.ownsRow.alloc HO1.out.row _) ⟨w1.heap.size, 0, none⟩ 1 (.int .i64 x) rfl (fun j y hj => new_cell1 j hj) rfl (by unfold maxLen; omega) (by omega) (by simp; omega) ?_; intro g1 cap1 w2 hown1 hgrow1 hloc1 hlt1; have HH := hid (HALL.out g1 cap1 w2 hown1 hgrow1); have HEE := hid (fun w3 => HEND.out g1 cap1 w2 w3 hgrow1 hloc1); clear hown1 hgrow1 hloc1 hlt1)
                  | (go_at_call 57; refine (ih (p ++ [x]) _ s' _ HLV.out HLX.out HH.out.1 HH.out.2.1 HSX.out HH.out.2.2).mono ?_; rintro e w3 ⟨rfl, hj2, ho2, hf2⟩; rw [← HR.out] at hj2 ⊢; have HJ2 := hid hj2; have HE2 := hid (HEE.out w3 ho2 hf2); clear hj2 ho2 hf2)
                  | fail)
                go_ret
                have HG := hid (show wk (stopG nr) ws vis (m + 1) p s = (false, s1) from HEQ.out.trans (wkL_off hlt HST.out (by rw [← HX.out]; exact HR.out.symm)))
                rw [HG.out]
                exact ⟨rfl, HJ2.out, HE2.out.1, HE2.out.2⟩
      · obtain rfl : k = ws.length := by omega
        clear hown hj hfr heq hlv
        go_wp2_with fail
        go_ret
        have HG := hid (show wk (stopG nr) ws vis (m + 1) p s = (true, s') from HEQ.out.trans wkL_end)
        rw [HG.out]
        exact ⟨rfl, HJJ.out, HO.out, HFR.out⟩
end Go.Proofs.Ytijjdidljoicfab

/- What AdjacentList's search finds in memory; contract of its walk. Conditions: the blocks lie in the told order. -/
namespace Go.Proofs.Ytijjdidljoicfab
open Go.RowKit
set_option linter.unusedVariables false

/-- what near and the visitor find: the ranks, what counts as near, all combinations, the box of the first list -/
structure ALJ (w0 : World) (B gw gA cA bA bAll bF : Nat) (pE : Addr) (T : Nat) (RV : Nat → Value) (A : List (List Int)) (w : World) (s : List Int) : Prop where
  sits : Sits w (.slice (some ⟨gw, 0, none⟩) (upTo T).length (upTo T).length) (upTo T)
  adj : w.cell? ⟨bA, 0, none⟩ = some (.func (.func 94) #[] #[.pointer (some pE)])
  pe : w.cell? pE = some (.int .i64 1)
  allv : w.cell? ⟨bAll, 0, none⟩ = some (.slice (some ⟨gA, 0, none⟩) T cA)
  rows : ∀ i (hi : i < A.length), i < T → w.cell? ⟨gA, i, none⟩ = some (RV i) ∧ Own w B (RV i) A[i]
  box : ∃ u, w.rowIs bF 22 1 (fun _ => u) ∧ w.ownsRow B 28 1 u s.length (s.map (fun x : Int => RV x.toNat)) ∧ (s = [] → u = .slice none 0 0)
  bel : Below B w0 w
/-- the order of the blocks -/
structure ALO (w0 : World) (B gw gA bA bAll bF M : Nat) (pE : Addr) (T : Nat) (RV : Nat → Value) (A : List (List Int)) : Prop where
  h0 : B ≤ w0.heap.size
  h1 : gw < M
  h2 : bA < M
  h3 : pE.block < M
  h4 : bAll < M
  h5 : gA < M
  h6 : bF < M
  h7 : B ≤ bF
  n1 : gw ≠ bF
  n2 : bA ≠ bF
  n3 : pE.block ≠ bF
  n4 : bAll ≠ bF
  n5 : gA ≠ bF
  rv : ∀ i, i < T → ∀ q, (RV i).ownBlock = some q → q < M ∧ q ≠ bF
  len : A.length = T
theorem Sits.grown3 {w w' : World} {row : Option Nat} {g o n c : Nat} {xs : List Int} (h : Sits w (.slice (some ⟨g, o, none⟩) n c) xs) (hg : w.grownBy w' row) (hn : some g ≠ row) : Sits w' (.slice (some ⟨g, o, none⟩) n c) xs := by
  obtain ⟨b, off, c', e, h1, h2, h3, hc⟩ := h
  simp only [Value.slice.injEq, Option.some.injEq, Addr.mk.injEq, and_true] at e
  obtain ⟨⟨rfl, rfl⟩, rfl, rfl⟩ := e
  exact ⟨g, o, c, rfl, h1, h2, Nat.lt_of_lt_of_le h3 hg.size, fun i hi => hg.cell (hc i hi) hn⟩
theorem own_ne {v : Value} {row : Option Nat} (h : ∀ q, v.ownBlock = some q → some q ≠ row) : v.ownBlock = none ∨ v.ownBlock ≠ row := by
  cases hb : v.ownBlock with
  | none => exact .inl rfl
  | some q => exact .inr (h q hb)
/-- what a grown row other than those told leaves -/
theorem ALJ.part {w0 w w' : World} {B gw gA cA bA bAll bF M : Nat} {pE : Addr} {T : Nat} {RV : Nat → Value} {A : List (List Int)} {s s' : List Int} {row : Option Nat} (o : ALO w0 B gw gA bA bAll bF M pE T RV A) (h : ALJ w0 B gw gA cA bA bAll bF pE T RV A w s) (hg : w.grownBy w' row)
    (h1 : some gw ≠ row) (h2 : some bA ≠ row) (h3 : some pE.block ≠ row) (h4 : some bAll ≠ row) (h5 : some gA ≠ row) (h6 : ∀ i, i < T → ∀ q, (RV i).ownBlock = some q → some q ≠ row) (h7 : ∀ q, row = some q → B ≤ q)
    (hbox : ∃ u, w'.rowIs bF 22 1 (fun _ => u) ∧ w'.ownsRow B 28 1 u s'.length (s'.map (fun x : Int => RV x.toNat)) ∧ (s' = [] → u = .slice none 0 0)) : ALJ w0 B gw gA cA bA bAll bF pE T RV A w' s' :=
  ⟨h.sits.grown3 hg h1, hg.cell h.adj h2, hg.cell h.pe h3, hg.cell h.allv h4, fun i hi hT => ⟨hg.cell (h.rows i hi hT).1 h5, (h.rows i hi hT).2.kept hg (own_ne (h6 i hT))⟩, hbox, h.bel.grown hg (Nat.le_trans o.h0 h.bel.size) h7⟩
theorem ALJ.kept {w0 w w' : World} {B gw gA cA bA bAll bF M : Nat} {pE : Addr} {T : Nat} {RV : Nat → Value} {A : List (List Int)} {s : List Int} {row : Option Nat} (o : ALO w0 B gw gA bA bAll bF M pE T RV A) (hs : s = []) (h : ALJ w0 B gw gA cA bA bAll bF pE T RV A w s) (hg : w.grownBy w' row) (hr : ∀ k, row = some k → M ≤ k) : ALJ w0 B gw gA cA bA bAll bF pE T RV A w' s := by
  have hne : ∀ q, q < M → some q ≠ row := fun q hq e => by have := hr q e.symm; omega
  refine h.part o hg (hne _ o.h1) (hne _ o.h2) (hne _ o.h3) (hne _ o.h4) (hne _ o.h5) (fun i hi q hq => hne _ (o.rv i hi q hq).1) (fun q hq => Nat.le_trans o.h7 (Nat.le_trans (Nat.le_of_lt o.h6) (hr q hq))) ?_
  obtain ⟨u, hb, ho, hn⟩ := h.box
  have hu := hn hs
  refine ⟨u, hb.of_block (hg.block bF hb.lt (hne _ o.h6)), ?_, hn⟩
  rw [hu, hs]
  exact World.ownsRow_nil _ _ _ _
theorem ALJ.below {w0 w w' : World} {B gw gA cA bA bAll bF : Nat} {pE : Addr} {T : Nat} {RV : Nat → Value} {A : List (List Int)} {s : List Int} (h : ALJ w0 B gw gA cA bA bAll bF pE T RV A w s) (hb : Below w.heap.size w w') (hB : B ≤ w.heap.size) : ALJ w0 B gw gA cA bA bAll bF pE T RV A w' s := by
  refine ⟨h.sits.below hb, cell_below h.adj hb, cell_below h.pe hb, cell_below h.allv hb, fun i hi hT => ⟨cell_below (h.rows i hi hT).1 hb, (h.rows i hi hT).2.below hb⟩, ?_, h.bel.trans (hb.mono hB)⟩
  obtain ⟨u, hr, ho, hn⟩ := h.box
  exact ⟨u, rowIs_below hr hb hr.lt, ownsRow_below ho hb, hn⟩
def okT (T : Nat) (x : Int) : Prop := 0 ≤ x ∧ x < T
theorem nearJ_any (w0 : World) (B gw gA cA bA bAll bF M : Nat) (pE : Addr) (T : Nat) (RV : Nat → Value) (A : List (List Int)) (o : ALO w0 B gw gA bA bAll bF M pE T RV A) (hfw : ∀ l ∈ A, fewL l) (hT : T ≤ 1000) (w : World) (s : List Int) (y x : Int) (hj : ALJ w0 B gw gA cA bA bAll bF pE T RV A w s) (hy : okT T y) (hx : okT T x) :
    Calls Try.prog 55 #[.int .i64 y, .int .i64 x, .pointer (some ⟨bA, 0, none⟩), .pointer (some ⟨bAll, 0, none⟩)] w fun e w' => e = .returned (.bool (nrA A y x)) ∧ ALJ w0 B gw gA cA bA bAll bF pE T RV A w' s ∧ Below w.heap.size w w' := by
  obtain ⟨a, rfl⟩ : ∃ a : Nat, y = a := ⟨y.toNat, by have := hy.1; omega⟩
  obtain ⟨b, rfl⟩ : ∃ b : Nat, x = b := ⟨x.toNat, by have := hx.1; omega⟩
  have ha : a < T := by have := hy.2; omega
  have hb : b < T := by have := hx.2; omega
  have hl := o.len
  obtain ⟨r1, r2⟩ := hj.rows a (by omega) ha
  obtain ⟨r3, r4⟩ := hj.rows b (by omega) hb
  refine (nearA_any A a b gA T cA pE _ _ w hj.adj hj.pe hj.allv hT ha hb _ _ _ _ r1 r3 r2.reads r4.reads (hfw _ (List.getElem_mem _)) (hfw _ (List.getElem_mem _))).mono ?_
  rintro e w' ⟨rfl, hbl⟩
  have e1 : atA A (a : Int) = A[a] := by unfold atA; rw [Int.toNat_natCast, getDL2 (by omega)]
  have e2 : atA A (b : Int) = A[b] := by unfold atA; rw [Int.toNat_natCast, getDL2 (by omega)]
  refine ⟨by rw [nrA, e1, e2], hj.below hbl (Nat.le_trans o.h0 hj.bel.size), hbl⟩
theorem visJ_any (w0 : World) (B gw gA cA bA bAll bF M : Nat) (pE : Addr) (T : Nat) (RV : Nat → Value) (A : List (List Int)) (o : ALO w0 B gw gA bA bAll bF M pE T RV A) (hT : T ≤ 1000) (w : World) (s : List Int) (g cap : Nat) (p : List Int) (hs : s = []) (hj : ALJ w0 B gw gA cA bA bAll bF pE T RV A w s) (ho : Own w M (.slice (some ⟨g, 0, none⟩) p.length cap) p)
    (hp0 : 0 < p.length) (hpl : p.length ≤ 1000) (hok : ∀ i, i < p.length → okT T (p.getD i 0)) (hM : M ≤ w.heap.size) :
    Calls Try.prog 59 #[.slice (some ⟨g, 0, none⟩) p.length cap, .pointer (some ⟨bF, 0, none⟩), .pointer (some ⟨bAll, 0, none⟩)] w fun e w' => e = .returned (.bool (visA p s).1) ∧ ALJ w0 B gw gA cA bA bAll bF pE T RV A w' (visA p s).2 ∧ Fr M none w w' := by
  subst hs
  have hl := o.len
  obtain ⟨u, hb, hown, hn⟩ := hj.box
  rw [hn rfl] at hb
  have hgM := (World.ownsRow.lt ho g rfl).1
  have h6 := o.h6
  refine (visA_any gA cA T bF ⟨bAll, 0, none⟩ RV w p g cap ho.sits (fun i hi => by have := hok i hi; rw [getD_at hi] at this; exact this) hT hpl hb hj.allv o.n4 o.n5 (by omega) (fun i hi => by
    obtain ⟨r1, r2⟩ := hj.rows i (by omega) hi
    exact ⟨r1, by obtain ⟨ao, c, e⟩ := r2.slice2; exact ⟨_, _, _, e⟩⟩)).mono ?_
  rintro e w' ⟨rfl, ⟨u', hr', ho'⟩, hg⟩
  have hBw : B ≤ w.heap.size := Nat.le_trans o.h0 hj.bel.size
  refine ⟨rfl, hj.part o hg (by simp; exact o.n1) (by simp; exact o.n2) (by simp; exact o.n3) (by simp; exact o.n4) (by simp; exact o.n5) (fun i hi q hq => by simp; exact (o.rv i hi q hq).2) (fun q hq => by simp at hq; rw [← hq]; exact o.h7) ⟨u', hr', ownsRow_mono ho' hBw, fun e => ?_⟩, ⟨hg.size, fun k hk hk2 _ => hg.block k hk2 (by simp; omega)⟩⟩
  have he : p = [] := e
  rw [he] at hp0
  simp at hp0
end Go.Proofs.Ytijjdidljoicfab

/- Contracts: both CombinationRank functions. Conditions: the slice reads as a list of at most 2^20 numbers. -/
namespace Go.Proofs.Ytijjdidljoicfab
open Go.RowKit
set_option linter.unusedVariables false

def crRes (n : Int) (xs : List Int) : Int := if combB n xs = true then (rankC n.toNat 0 xs : Int) else 0
theorem crRes_yes {n : Int} {xs : List Int} (h : combB n xs = true) : crRes n xs = rankC n.toNat 0 xs := by unfold crRes; rw [if_pos h]
theorem crRes_no {n : Int} {xs : List Int} (h : combB n xs = false) : crRes n xs = 0 := by unfold crRes; rw [if_neg (by rw [h]; simp)]
theorem ret_nb5 {n n' : Int} {b b' : Bool} (hn : n = n') (h : b = b') : Ending.returned (.tuple #[.int .i64 n, .bool b]) = .returned (.tuple #[.int .i64 n', .bool b']) := by rw [h, hn]

/-- how far the outer loop of the rank has come -/
def CrInv (N : Nat) (xs : List Int) (i rank least : Nat) : Prop := rank + rankC N least (xs.drop i) = rankC N 0 xs ∧ RF N least (xs.drop i)
theorem CrInv.step {N : Nat} {xs : List Int} {i rank least : Nat} (h : CrInv N xs i rank least) (hi : i < xs.length) :
    ∃ m : Nat, xs[i] = ((least + m : Nat) : Int) ∧ least + m < N ∧ rank + sumB N (xs.length - 1 - i) least m ≤ rankC N 0 xs ∧ CrInv N xs (i + 1) (rank + sumB N (xs.length - 1 - i) least m) (least + m + 1) := by
  obtain ⟨h1, h2⟩ := h
  rw [List.drop_eq_getElem_cons hi] at h1 h2
  obtain ⟨a1, a2, a3⟩ := h2
  obtain ⟨m, hm⟩ : ∃ m, xs[i].toNat = least + m := ⟨xs[i].toNat - least, by omega⟩
  have hx : xs[i] = ((least + m : Nat) : Int) := by omega
  rw [rankC, hm, List.length_drop, show least + m - least = m by omega, show xs.length - (i + 1) = xs.length - 1 - i by omega] at h1
  rw [hm] at a3
  exact ⟨m, hx, by omega, by omega, by omega, a3⟩
end Go.Proofs.Ytijjdidljoicfab

/- Contracts: copyOf, both NextCombination functions. Conditions: the slice reads as a list of at most 2^20 numbers. -/
namespace Go.Proofs.Ytijjdidljoicfab
open Go.RowKit
set_option linter.unusedVariables false

theorem heap_new (w : World) (o : Obj) : (w.alloc o).heap[w.heap.size]? = some o := by
  show (w.heap.push o)[w.heap.size]? = some o
  simp
theorem int_one {xs : List Int} : ∀ v ∈ xs.map (Value.int .i64), v.oneCell' = true := by
  intro v hv
  obtain ⟨x, _, rfl⟩ := List.mem_map.1 hv
  rfl
theorem copyOf_any (v : Value) (xs : List Int) (w : World) (h : Sits w v xs) (hl : xs.length ≤ 1048576) :
    Calls Try.prog 93 #[v] w fun e w' => e = .returned (.slice (some ⟨w.heap.size, 0, none⟩) xs.length xs.length) ∧ w'.rowIs w.heap.size 3 xs.length (fun i => .int .i64 (xs.getD i 0)) ∧ Below w.heap.size w w' := by
  obtain ⟨b, off, c, rfl, hc1, hm, hb, hc⟩ := h
  obtain ⟨i0, hi, hz0, hz1, hz2⟩ := info_parts Try.info3
  have hmk := run_make_ints xs.length hl w
  obtain ⟨cur, hcur⟩ : ∃ cur : List Value, cur = (madeCells #[.int .i64 0] xs.length).toList := ⟨_, rfl⟩
  have hcl : cur.length = xs.length := by rw [hcur, Array.length_toList, size_madeCells]
  have HG := hid (show (w.alloc (.cells (madeCells #[.int .i64 0] xs.length) 3)).heap[w.heap.size]? = some (.cells cur.toArray 3 (0, 0)) by rw [hcur]; exact heap_new _ _)
  have HSZ := hid (show (Try.prog.info? 3).map (·.size) = some 1 by rw [hi]; simp [hz1])
  have HN := hid (show (xs.map (Value.int .i64)).length = Nat.min xs.length xs.length by rw [List.length_map]; exact (Nat.min_self _).symm)
  have HPOS := hid (show 0 < (xs.map (Value.int .i64)).length → some (⟨w.heap.size, 0, none⟩ : Addr) = some ⟨w.heap.size, 0, none⟩ ∧ ∃ ad, some (⟨b, off, none⟩ : Addr) = some ad ∧ ∀ j v, (xs.map (Value.int .i64))[j]? = some v → (w.alloc (.cells (madeCells #[.int .i64 0] xs.length) 3)).cell? (ad.add j) = some v from
    fun _ => ⟨rfl, _, rfl, Sits.src (n := 0) (c := 0) (fun i hi => by rw [World.cell?_alloc_past _ _ _ hb]; exact hc i hi)⟩)
  have HFIT := hid (show 0 + (xs.map (Value.int .i64)).length ≤ cur.length by simp [hcl])
  have HSPL := hid (show splice cur 0 (xs.map (Value.int .i64)) = xs.map (Value.int .i64) by simp [splice, hcl])
  have HB := hid ((Below.refl w.heap.size w).alloc (Nat.le_refl _) (.cells (madeCells #[.int .i64 0] xs.length) 3))
  clear hc hcur hcl
  go_enter Try.func93, Try.ntmps93
  go_wp2_with (first
    | (with_reducible refine wpList_copy_splice rfl (.tmp 7) (.tmp 8) 28 28 rfl 3 Try.underlying28 HSZ.out _ _ _ _ _ _ rfl rfl w.heap.size 0 cur 3 HG.out (xs.map (Value.int .i64)) HN.out HPOS.out HFIT.out int_one w.heap.size w HB.out (Nat.le_refl _) ?_; intro w' hsp hbel; have HBEL := hid hbel; clear hbel)
    | fail)
  go_ret
  refine ⟨rfl, ⟨(xs.map (Value.int .i64)).toArray, by rw [← HSPL.out]; exact hsp.out, by simp, fun i hi => by simp [hi]⟩, HBEL.out⟩
theorem nxB_no {n : Int} {xs : List Int} (h : combB n xs = false) : nxB n xs = false := by rw [nxB, h]; rfl
theorem bound_NextCombination (n : Int) (xs : List Int) : (nxRes n xs).length ≤ 1048576 := by
  by_cases h : nxB n xs = true
  · rw [nxRes_yes h]
    simp only [nxB, Bool.and_eq_true] at h
    obtain ⟨c1, c2, c3, c4⟩ := RF_comb h.1
    cases hs : succC n.toNat xs with
    | none => simp
    | some ys =>
      have := ((succC_rank n.toNat (by omega) xs 0 c2 c1).1 ys hs).2.1
      rw [Option.getD_some, this]; omega
  · rw [nxRes_no (by simpa using h)]; simp
end Go.Proofs.Ytijjdidljoicfab

/- Contract: impl.NextCombination. Conditions: the slice reads as a list of at most 2^20 numbers. -/
namespace Go.Proofs.Ytijjdidljoicfab
open Go.RowKit
set_option linter.unusedVariables false

theorem succC_prefix (n : Nat) {s s' : List Int} (h : succC n s = some s') : ∀ p : List Int, succC n (p ++ s) = some (p ++ s')
  | [] => h
  | x :: p => by rw [List.cons_append, succC, succC_prefix n h p]; rfl
theorem RF_get {n : Nat} : ∀ (xs : List Int) (f : Nat), RF n f xs → ∀ i, i < xs.length → (f : Int) ≤ xs.getD i 0 ∧ xs.getD i 0 + ((xs.length : Int) - i) ≤ n
  | x :: t, f, h, 0, _ => by
    obtain ⟨h1, h2, h3⟩ := h
    simp only [List.getD_cons_zero, List.length_cons]
    by_cases ht : 0 < t.length
    · have := RF_len t _ h3 ht; omega
    · omega
  | x :: t, f, h, i + 1, hi => by
    obtain ⟨h1, h2, h3⟩ := h
    have := RF_get t _ h3 i (by simp at hi; omega)
    simp only [List.getD_cons_succ, List.length_cons]
    omega
/-- the elements up from j stand as high as they can -/
def NxTop (n : Nat) (xs : List Int) (k : Nat) : Prop := succC n (xs.drop k) = none
theorem NxTop.start (n : Nat) (xs : List Int) : NxTop n xs xs.length := by unfold NxTop; rw [List.drop_length]; rfl
theorem NxTop.step {n : Nat} {xs : List Int} {j : Nat} (h : NxTop n xs (j + 1)) (hj : j < xs.length) (hx : xs[j] = (n : Int) - xs.length + j) : NxTop n xs j := by
  unfold NxTop at h ⊢
  rw [List.drop_eq_getElem_cons hj, succC, h]
  have : ¬ (xs[j] + 1 + ((xs.drop (j + 1)).length : Int) < n) := by rw [List.length_drop, hx]; omega
  simp only [this, if_false]
theorem NxTop.found {n : Nat} {xs : List Int} {j : Nat} (h : NxTop n xs (j + 1)) (hj : j < xs.length) (hx : xs[j] < (n : Int) - xs.length + j) : succC n xs = some (xs.take j ++ upFrom (xs[j] + 1) (xs.length - j)) := by
  unfold NxTop at h
  have e : succC n (xs.drop j) = some (upFrom (xs[j] + 1) (xs.length - j)) := by
    rw [List.drop_eq_getElem_cons hj, succC, h]
    have : xs[j] + 1 + ((xs.drop (j + 1)).length : Int) < n := by rw [List.length_drop]; omega
    simp only [this, if_true]
    rw [List.length_drop, show xs.length - (j + 1) + 1 = xs.length - j by omega]
  have := succC_prefix n e (xs.take j)
  rwa [List.take_append_drop] at this
/-- the row of the next combination, filled up to t -/
def nrow (xs : List Int) (j t i : Nat) : Int := if i < j then xs.getD i 0 else if i < t then xs.getD j 0 + 1 + ((i : Int) - j) else xs.getD i 0
theorem nrow_end {xs : List Int} {j : Nat} (hj : j < xs.length) (i : Nat) (hi : i < xs.length) : nrow xs j xs.length i = (xs.take j ++ upFrom (xs[j] + 1) (xs.length - j)).getD i 0 := by
  have hg : xs.getD j 0 = xs[j] := by simp [List.getD_eq_getElem?_getD, hj]
  unfold nrow
  by_cases h : i < j
  · rw [if_pos h, List.getD_eq_getElem?_getD, List.getD_eq_getElem?_getD, List.getElem?_append_left (by simp; omega), List.getElem?_take_of_lt h]
  · rw [if_neg h, if_pos hi, hg, List.getD_eq_getElem?_getD, List.getElem?_append_right (by simp; omega), ← List.getD_eq_getElem?_getD, upFrom_getD _ _ _ (by simp; omega)]
    simp only [List.length_take]
    omega
theorem nrow_set {w : World} {g n : Nat} {xs : List Int} {j t : Nat} {y : Int} (hjt : j ≤ t) (hy : y = xs.getD j 0 + 1 + ((t : Int) - j)) (h : w.rowIs g 3 n (fun i => .int .i64 (nrow xs j t i))) :
    (w.setCell ⟨g, t, none⟩ (.int .i64 y)).rowIs g 3 n (fun i => .int .i64 (nrow xs j (t + 1) i)) := by
  refine (h.set t (.int .i64 y)).congr (fun i hi => ?_)
  unfold nrow
  by_cases e : i = t
  · subst e
    rw [if_pos rfl, if_neg (by omega), if_pos (by omega), hy]
  · rw [if_neg e]
    by_cases h1 : i < j
    · rw [if_pos h1, if_pos h1]
    · rw [if_neg h1, if_neg h1]
      by_cases h2 : i < t
      · rw [if_pos h2, if_pos (by omega)]
      · rw [if_neg h2, if_neg (by omega)]
set_option maxHeartbeats 800000 in
theorem impl_NextCombination_any (n : Int) (v : Value) (xs : List Int) (w : World) (_wn : (Lit.int .i64 n).wf = true) (h : Sits w v xs) (hl : xs.length ≤ 1048576) (_hwf : ∀ x ∈ xs, (Lit.int .i64 x).wf = true) :
    Calls Try.prog 78 #[.int .i64 n, v] w fun e w' => ∃ u, e = .returned (.tuple #[u, .bool (nxB n xs)]) ∧ Own w' w.heap.size u (nxRes n xs) ∧ Below w.heap.size w w' := by
  have HR := hid h.reads
  have HS := hid h
  obtain ⟨b, off, c, rfl, hc1, hm, hb, hc⟩ := h
  clear hc
  by_cases hp : combB n xs = true
  · obtain ⟨c1, c2, c3, c4⟩ := RF_comb hp
    obtain ⟨N, rfl⟩ := Int.eq_ofNat_of_zero_le c3
    have HP2 := hid hp
    have hN : N ≤ 12 := by omega
    have HX := hid (RF_get xs 0 (by simpa using c1))
    clear c1
    go_enter Try.func78, Try.ntmps78
    go_wp2_with fail
    refine (impl_IsCombination_any _ _ xs _ HR.out).mono ?_
    rintro e W1 ⟨rfl, hq⟩
    have hb1 := Drew.below hq w.heap.size
    have hs1 := HS.out.below hb1
    have HS1 := hid hs1
    have HB1 := hid hb1
    obtain ⟨b', off', c', e1, _, _, _, hcW⟩ := hs1
    simp only [Value.slice.injEq, Option.some.injEq, Addr.mk.injEq, and_true, true_and] at e1
    obtain ⟨⟨rfl, rfl⟩, rfl⟩ := e1
    have HC := hid hcW
    clear hcW hq hb1
    go_wp2_with fail
    go_loop [6] (fun iv => ∃ k : Nat, k ≤ xs.length ∧ iv = .int .i64 ((k : Int) - 1) ∧ NxTop N xs k) (fun iv => (intOf iv + 1).toNat)
    case atStart => exact ⟨xs.length, Nat.le_refl _, rfl, NxTop.start _ _⟩
    case round =>
      obtain ⟨k, hk, rfl, htop⟩ := hrel
      have HT := hid htop
      clear htop
      cases k with
      | zero =>
        rw [show (((0 : Nat) : Int) - 1) = -1 from rfl]
        have HF : Hid (nxB (N : Int) xs = false) := by
          show nxB (N : Int) xs = false
          have := HT.out
          unfold NxTop at this
          rw [List.drop_zero] at this
          rw [nxB, Int.toNat_natCast, this]; simp
        have HXX := hid (nxRes_no HF.out)
        go_wp2_with fail
        go_ret2
        exact ⟨_, ret_sb6 HF.out.symm, by rw [HXX.out]; exact Own.nil _ _, HB1.out⟩
      | succ j =>
        rw [show (((j + 1 : Nat) : Int) - 1) = (j : Int) from by omega]
        have hlt : j < xs.length := by omega
        have hcx := HC.out j hlt
        have hxr := HX.out j hlt
        have HG := hid (show xs.getD j 0 = xs[j] by simp [List.getD_eq_getElem?_getD, hlt])
        rw [HG.out] at hxr
        obtain ⟨x, hx⟩ : ∃ x, x = xs[j] := ⟨_, rfl⟩
        rw [← hx] at hcx hxr HG
        have HXJ := hid hx
        clear hx
        by_cases heq : x = (N : Int) - (xs.length : Int) + (j : Int)
        · have HNT := hid (HT.out.step hlt (by rw [← HXJ.out]; exact heq))
          have hbq : (x == (N : Int) - (xs.length : Int) + (j : Int)) = true := by simp [heq]
          have HEQ := hid heq
          clear heq
          go_wp2_with fail
          go_round
          case rel => exact ⟨j, by omega, by go_num, HNT.out⟩
          case measure => simp [intOf]; try omega
        · have HFD := hid (HT.out.found hlt (by rw [← HXJ.out]; omega))
          have hbq : (x == (N : Int) - (xs.length : Int) + (j : Int)) = false := by simp [heq]
          have hx0 : 0 ≤ x ∧ x < 12 := by omega
          have HF : Hid (nxB (N : Int) xs = true) := by
            show nxB (N : Int) xs = true
            rw [nxB, Int.toNat_natCast, HFD.out, HP2.out]; rfl
          have HXX := hid (nxRes_yes HF.out)
          clear heq hxr
          go_wp2_with fail
          refine (copyOf_any _ xs _ HS1.out hl).mono ?_
          rintro e W2 ⟨rfl, hrow, hb2⟩
          have hcj : W2.cell? ⟨W1.heap.size, j, none⟩ = some (.int .i64 x) := by rw [hrow.cell hlt, HG.out]
          have hfj := hrow.frozen j
          have HRW := hid (nrow_set (y := x + 1) (j := j) (Nat.le_refl j) (by rw [HG.out]; omega) (hrow.congr (g := fun i => .int .i64 (nrow xs j j i)) (fun i hi => by
            unfold nrow
            by_cases h1 : i < j
            · rw [if_pos h1]
            · rw [if_neg h1, if_neg h1])))
          have HSZ1 := hid HB1.out.size
          have HB2 := hid ((Below_chain HB1.out hb2).setCell (p := ⟨W1.heap.size, j, none⟩) HSZ1.out (.int .i64 (x + 1)))
          clear hrow hb2
          go_wp2_with fail
          go_loopw [8] (fun jv wr => ∃ s : Nat, j ≤ s ∧ s < xs.length ∧ jv = .int .i64 ((s : Int) + 1) ∧ wr.rowIs W1.heap.size 3 xs.length (fun i => .int .i64 (nrow xs j (s + 1) i)) ∧ Below w.heap.size w wr) (fun jv _ => (xs.length + 1) - (intOf jv).toNat)
          case atStart => exact ⟨j, Nat.le_refl _, hlt, rfl, HRW.out, HB2.out⟩
          case round =>
            obtain ⟨s, hjs, hsl, rfl, hrow, hbel⟩ := hrel
            by_cases hs2 : s + 1 < xs.length
            · have hcs : wr.cell? ⟨W1.heap.size, s, none⟩ = some (.int .i64 (x + 1 + ((s : Int) - j))) := by
                rw [hrow.cell hsl, nrow, if_neg (by omega), if_pos (by omega), HG.out]
              have hfs := hrow.frozen (s + 1)
              obtain ⟨z, hz⟩ : ∃ z, wr.cell? ⟨W1.heap.size, s + 1, none⟩ = some z := ⟨_, hrow.cell hs2⟩
              have HRN := hid (nrow_set (y := x + 1 + ((s : Int) - j) + 1) (j := j) (t := s + 1) (by omega) (by rw [HG.out]; omega) hrow)
              have HBN := hid (hbel.setCell (p := ⟨W1.heap.size, s + 1, none⟩) HSZ1.out (.int .i64 (x + 1 + ((s : Int) - j) + 1)))
              clear hrow hbel
              go_wp2_with fail
              go_roundw
              case rel => exact ⟨s + 1, by omega, hs2, by go_num, HRN.out, HBN.out⟩
              case measure => simp [intOf]; try omega
            · have hse : s + 1 = xs.length := by omega
              have HRE := hid (hrow.congr (g := fun i => .int .i64 ((xs.take j ++ upFrom (xs[j] + 1) (xs.length - j)).getD i 0)) (fun i hi => by rw [hse, nrow_end hlt i hi]))
              have HBE := hid hbel
              clear hrow hbel
              go_wp2_with fail
              go_ret2
              exact ⟨_, ret_sb6 HF.out.symm, by rw [HXX.out, Int.toNat_natCast, HFD.out, Option.getD_some]; exact (Own.of_rowIs HRE.out (by rw [List.length_append, upFrom_length, List.length_take]; omega) (by unfold maxLen; omega)).mono HSZ1.out, HBE.out⟩
  · have hp : combB n xs = false := by simpa using hp
    have HP := hid (nxB_no hp)
    have HX := hid (nxRes_no HP.out)
    have HP2 := hid hp
    go_enter Try.func78, Try.ntmps78
    go_wp2_with (first | (go_at_call 89; refine (impl_IsCombination_any _ _ xs _ HR.out).mono ?_; rintro e W1 ⟨rfl, hq⟩; have HQ := hid (Drew.below hq w.heap.size); clear hq) | fail)
    go_ret2
    exact ⟨_, ret_sb6 HP.out.symm, by rw [HX.out]; exact Own.nil _ _, HQ.out⟩
end Go.Proofs.Ytijjdidljoicfab
