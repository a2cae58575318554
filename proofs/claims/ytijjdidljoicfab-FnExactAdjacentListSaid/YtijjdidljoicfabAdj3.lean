/- Facts and contracts (Ch3, Ch4, Cont, CRankM, ColM, RowsL, SSL, I3, Ex1), merged. Conditions: as told at each. -/
import Derived.Deep.Matrix
import Derived.Laws.EntriesVeiled
import Derived.Handy
import Derived.Test.YtijjdidljoicfabAdj2

/- Contracts: chNear and chAll. Conditions: the slice reads as a list of lists of at most 12 numbers in 0..12. -/
namespace Go.Proofs.Ytijjdidljoicfab
open Go.RowKit
set_option linter.unusedVariables false

def nearP (far : Int) (a b : List Int) : Bool := exB a b && decide (absW (exO a b - exI a b) ≤ far)
def nearAt (far : Int) (L : List (List Int)) (i : Nat) : Bool := i == 0 || nearP far (L.getD (i - 1) []) (L.getD i [])
def nearL (far : Int) (L : List (List Int)) : Bool := allTo L.length (nearAt far L)
/-- short lists of small numbers -/
def fewL (l : List Int) : Prop := l.length ≤ 12 ∧ ∀ x ∈ l, 0 ≤ x ∧ x ≤ 12
theorem few_head {l m : List Int} (h : fewL l) : 0 ≤ (missL l m).getD 0 0 ∧ (missL l m).getD 0 0 ≤ 12 := by
  cases hm : missL l m with
  | nil => simp
  | cons x t =>
    have hx : x ∈ missL l m := by rw [hm]; simp
    have := h.2 x (List.mem_filter.1 hx).1
    simpa using this
theorem exO_range {a b : List Int} (h : fewL a) : 0 ≤ exO a b ∧ exO a b ≤ 12 := by
  unfold exO; split
  · exact few_head h
  · omega
theorem exI_range {a b : List Int} (h : fewL b) : 0 ≤ exI a b ∧ exI a b ≤ 12 := by
  unfold exI; split
  · exact few_head h
  · omega
theorem few_of_comb {n : Int} {l : List Int} (h : combB n l = true) : fewL l := by
  obtain ⟨h1, h2, h3, h4⟩ := combB_elem h
  exact ⟨h3, fun x hx => by have := h4 x hx; omega⟩
theorem few_of_chl {n : Int} {L : List (List Int)} (h : chlB n L = true) : ∀ l ∈ L, fewL l := by
  intro l hl
  simp only [chlB, Bool.and_eq_true] at h
  obtain ⟨i, hi, rfl⟩ := List.mem_iff_getElem.1 hl
  have := (allTo_iff _ _).1 h.1 i hi
  rw [combAt, getDL2 hi] at this
  exact few_of_comb this
set_option maxHeartbeats 2000000 in
theorem chNear_any (v : Value) (L : List (List Int)) (far : Int) (base : Nat) (w : World) (h : Lists w base v L) (hf : ∀ l ∈ L, fewL l) (hL : L.length ≤ 100000) :
    Calls Try.prog 63 #[v, .int .i64 far] w fun e w' => e = .returned (.bool (nearL far L)) ∧ Below w.heap.size w w' := by
  rcases h.form with ⟨rfl, rfl⟩ | ⟨g, cap, rfl, _, hg, hc1, hm, hc⟩
  · go_enter Try.func63, Try.ntmps63
    go_wp2_with fail
    refine wp_loop_rounds 1 ?_
    rw [rounds_succ]
    go_wp2_with fail
    go_ret
    exact ⟨rfl, Below.refl _ _⟩
  · have HC := hid hc
    have HF := hid hf
    clear hc h hf
    go_enter Try.func63, Try.ntmps63
    go_wp2_with fail
    go_loopw [5, 6, 7, 8] (fun i _ _ _ wr => ∃ j : Nat, (j + 1 ≤ L.length ∨ L.length = 0) ∧ j ≤ 100000 ∧ i = .int .i64 ((j : Int) + 1) ∧ allTo (j + 1) (nearAt far L) = true ∧ Below w.heap.size w wr) (fun i _ _ _ _ => L.length - (intOf i).toNat)
    case atStart => exact ⟨0, by omega, by omega, rfl, rfl, Below.refl _ _⟩
    case round =>
      obtain ⟨j, hj, hj2, rfl, hnb, hbel⟩ := hrel
      have HNB := hid hnb
      have HB := hid hbel
      clear hnb
      by_cases hlt : j + 1 < L.length
      · have hj1 : j < L.length := by omega
        obtain ⟨z, hz, hown⟩ := HC.out j hj1
        obtain ⟨z', hz', hown'⟩ := HC.out (j + 1) hlt
        have hcx : wr.drew.cell? ⟨g, j, none⟩ = some z := (hbel.cell (by exact hg)).trans hz
        have hcy : wr.drew.cell? ⟨g, j + 1, none⟩ = some z' := (hbel.cell (by exact hg)).trans hz'
        have hgr : g < wr.heap.size := Nat.lt_of_lt_of_le hg hbel.size
        have HZ := hid (hown.reads.below hbel)
        have HZ' := hid (hown'.reads.below hbel)
        obtain ⟨l, hl⟩ : ∃ l, l = L[j] := ⟨_, rfl⟩
        obtain ⟨l', hl'⟩ : ∃ l, l = L[j + 1] := ⟨_, rfl⟩
        have f1 : fewL l := by rw [hl]; exact HF.out _ (List.getElem_mem _)
        have f2 : fewL l' := by rw [hl']; exact HF.out _ (List.getElem_mem _)
        rw [← hl] at HZ
        rw [← hl'] at HZ'
        have HNK := hid (show nearAt far L (j + 1) = nearP far l l' by
          unfold nearAt
          rw [getDL2 hlt, show j + 1 - 1 = j from rfl, getDL2 hj1, ← hl, ← hl']
          rfl)
        have r1 := exO_range (b := l') f1
        have r2 := exI_range (a := l) f2
        have hl1 : l.length ≤ 1048576 := by have := f1.1; omega
        have hl2 : l'.length ≤ 1048576 := by have := f2.1; omega
        obtain ⟨p, hp⟩ : ∃ p, p = exO l l' := ⟨_, rfl⟩
        obtain ⟨q, hq⟩ : ∃ q, q = exI l l' := ⟨_, rfl⟩
        obtain ⟨o, ho⟩ : ∃ o, o = exB l l' := ⟨_, rfl⟩
        have HP := hid hp
        have HQ := hid hq
        have HO := hid ho
        rw [← hp] at r1
        rw [← hq] at r2
        have HNP := hid (show nearP far l l' = (o && decide (absW (p - q) ≤ far)) by rw [nearP, ← hp, ← hq, ← ho])
        obtain ⟨d, hd⟩ : ∃ d, d = p - q := ⟨_, rfl⟩
        have hwd : IntKind.i64.wrap (p - q) = d := by rw [hd]; exact IntWalk.i64_in _ (by omega)
        have hd1 : -100000 ≤ d := by omega
        have hd2 : d ≤ 100000 := by omega
        rw [← hd] at HNP
        obtain ⟨a, ha⟩ : ∃ a, a = absW d := ⟨_, rfl⟩
        have HAA := hid ha
        rw [← ha] at HNP
        have h0k : (0 : Int) ≤ (j : Int) := by omega
        have hkl : (j : Int) < (L.length : Int) := by omega
        have h0k2 : (0 : Int) ≤ (j : Int) + 1 := by omega
        have hkl2 : (j : Int) + 1 < (L.length : Int) := by omega
        have hww : IntKind.i64.wrap ((j : Int) + 1 - 1) = (j : Int) := by rw [show (j : Int) + 1 - 1 = j by omega]; exact IntWalk.i64_in _ (by omega)
        have hwj : IntKind.i64.wrap (j : Int) = (j : Int) := IntWalk.i64_in _ (by omega)
        have htn : ((j : Int) + 1).toNat = j + 1 := by omega
        clear hz hz' hown hown' hl hl' f1 f2 hp hq ho hd ha hbel
        go_wp2_with fail
        go_region_held3 (fun w' => w'.cell? ⟨g, j, none⟩ = some z ∧ w'.cell? ⟨g, j + 1, none⟩ = some z')
          (first | exact ⟨hcx, hcy⟩ | exact ⟨(HB1.out.cell (by exact hgr)).trans hcx, (HB1.out.cell (by exact hgr)).trans hcy⟩ | go_keep | fail)
          (first
            | (go_at_call 85; refine (chExchange_any _ _ l l' _ ?_ ?_ hl1 hl2).mono ?_; (exact HZ.out.below (Below.refl _ _).drew); (exact HZ'.out.below (Below.refl _ _).drew); rintro e w1 ⟨rfl, hb1⟩; have HB1 := hid (Below_chain (Below.refl wr.heap.size wr).drew hb1); clear hb1; rw [← HP.out, ← HQ.out, ← HO.out])
            | fail)
        all_goals
          cases o with
          | false =>
            have HN := hid (show nearL far L = false from allTo_no hlt (by rw [HNK.out, HNP.out]; rfl))
            go_wp2_with fail
            go_ret
            exact ⟨ret_bool HN.out.symm, Below_chain HB.out HB1.out⟩
          | true =>
            by_cases haf : far < a
            · have HN := hid (show nearL far L = false from allTo_no hlt (by rw [HNK.out, HNP.out, decide_eq_false (by omega)]; rfl))
              go_wp2_with (first | (go_at_call 49; refine (l1AbsW_any d _ hd1 hd2).mono ?_; rintro e w2 ⟨rfl, rfl⟩; rw [← HAA.out]) | fail)
              go_ret
              exact ⟨ret_bool HN.out.symm, Below_chain HB.out HB1.out⟩
            · have HN := hid (show nearAt far L (j + 1) = true by rw [HNK.out, HNP.out, decide_eq_true (by omega)]; rfl)
              have haf2 : a ≤ far := by omega
              go_wp2_with (first | (go_at_call 49; refine (l1AbsW_any d _ hd1 hd2).mono ?_; rintro e w2 ⟨rfl, rfl⟩; rw [← HAA.out]) | fail)
              go_roundw
              case rel => exact ⟨j + 1, by omega, by omega, by go_num, allTo_next HNB.out HN.out, Below_chain HB.out HB1.out⟩
              case measure => simp [intOf]; omega
      · have HN := hid (show nearL far L = true from (allTo_iff _ _).2 (fun i hi => (allTo_iff _ _).1 HNB.out i (by omega)))
        go_wp2_with fail
        go_ret
        exact ⟨ret_bool HN.out.symm, HB.out⟩
/-- are lists all combinations of n with k elements, each once -/
def hasAt (M L : List (List Int)) (i : Nat) : Bool := decide (0 ≤ placeIn (M.getD i []) L)
def chaB (n k : Nat) (L : List (List Int)) : Bool := allTo (allL n k 0).length (hasAt (allL n k 0) L) && decide (L.length = binom n k)
set_option maxHeartbeats 1000000 in
theorem chAll_any (n k : Nat) (hn : n ≤ 12) (hk : k ≤ n) (v : Value) (L : List (List Int)) (base : Nat) (w : World) (h : Lists w base v L) :
    Calls Try.prog 62 #[.int .i64 (n : Int), .int .i64 (k : Int), v] w fun e w' => e = .returned (.bool (chaB n k L)) ∧ Below w.heap.size w w' := by
  have HL := hid h
  obtain ⟨ao, c, hv⟩ : ∃ ao c, v = .slice ao L.length c := by
    rcases h.form with ⟨rfl, rfl⟩ | ⟨g, cap, rfl, _⟩
    · exact ⟨none, 0, rfl⟩
    · exact ⟨_, _, rfl⟩
  subst hv
  have HALL := hid (raAll_any n hn k 0 w (by omega) (by omega))
  obtain ⟨M, hM⟩ : ∃ M, M = allL n k 0 := ⟨_, rfl⟩
  have HCA := hid (show chaB n k L = (allTo M.length (hasAt M L) && decide (L.length = binom n k)) by rw [chaB, ← hM])
  rw [← hM] at HALL
  clear h hM
  go_enter Try.func62, Try.ntmps62
  go_wp2_with fail
  refine HALL.out.mono ?_
  rintro e w1 ⟨u, rfl, hu, hb1⟩
  have HL1 := hid (HL.out.below hb1)
  have HB1 := hid hb1
  have hsz := hb1.size
  clear hb1
  have hend : ((L.length : Int) == (binom n k : Int)) = decide (L.length = binom n k) := by
    by_cases he : L.length = binom n k
    · rw [he]; simp
    · rw [decide_eq_false he]; exact beq_false_of_ne (by omega)
  obtain ⟨bn, hbn⟩ : ∃ bn, bn = binom n k := ⟨_, rfl⟩
  have HBN := hid hbn
  rw [← hbn] at hend HCA
  obtain ⟨ok, hok⟩ : ∃ ok, ok = decide (L.length = bn) := ⟨_, rfl⟩
  rw [← hok] at hend HCA
  have HEND := hid hend
  clear hbn hok hend
  rcases hu.form with ⟨rfl, hnil⟩ | ⟨g, cap, rfl, _, hg, hc1, hm, hc⟩
  · have HN := hid hnil
    clear hu hnil
    go_wp2_with fail
    refine wp_loop_rounds 1 ?_
    rw [rounds_succ]
    go_wp2_with (first | (go_at_call 84; refine (raBinomial_any n k _ (by omega) (by omega)).mono ?_; rintro e w2 ⟨rfl, rfl⟩; rw [← HBN.out]) | fail)
    go_ret
    exact ⟨ret_bool (by rw [HCA.out, HN.out]; exact HEND.out), HB1.out⟩
  · have HC := hid hc
    clear hc hu
    go_wp2_with fail
    go_loopw [8, 13] (fun _ i wr => ∃ t : Nat, t ≤ M.length ∧ i = .int .i64 t ∧ allTo t (hasAt M L) = true ∧ Below w1.heap.size w1 wr) (fun _ i _ => M.length - (intOf i).toNat)
    case atStart => exact ⟨0, Nat.zero_le _, rfl, rfl, Below.refl _ _⟩
    case round =>
      obtain ⟨t, ht, rfl, hall, hbel⟩ := hrel
      have HA := hid hall
      have HB := hid hbel
      clear hall
      by_cases hlt : t < M.length
      · obtain ⟨z, hz, hown⟩ := HC.out t hlt
        have hcx : wr.cell? ⟨g, t, none⟩ = some z := (hbel.cell (by exact hg)).trans hz
        have HZ := hid (hown.reads.below hbel)
        have HLW := hid (HL1.out.below hbel)
        obtain ⟨l, hl⟩ : ∃ l, l = M[t] := ⟨_, rfl⟩
        rw [← hl] at HZ
        obtain ⟨p, hp⟩ : ∃ p, p = placeIn l L := ⟨_, rfl⟩
        have HP := hid hp
        have HK := hid (show hasAt M L t = decide (0 ≤ p) by rw [hasAt, getDL2 hlt, ← hl, ← hp])
        clear hz hown hbel hl hp
        by_cases hp0 : p < 0
        · have HN := hid (show chaB n k L = false by rw [HCA.out, allTo_no hlt (by rw [HK.out, decide_eq_false (by omega)])]; rfl)
          go_wp2_with (first | (go_at_call 41; refine (raPlace_any _ _ L l _ _ HLW.out HZ.out).mono ?_; rintro e w2 ⟨rfl, hb2⟩; rw [← HP.out]; have HB2 := hid hb2; clear hb2) | fail)
          go_ret
          exact ⟨ret_bool HN.out.symm, Below_chain HB1.out (Below_chain HB.out HB2.out)⟩
        · have HN := hid (show hasAt M L t = true by rw [HK.out, decide_eq_true (by omega)])
          have hp1 : 0 ≤ p := by omega
          go_wp2_with (first | (go_at_call 41; refine (raPlace_any _ _ L l _ _ HLW.out HZ.out).mono ?_; rintro e w2 ⟨rfl, hb2⟩; rw [← HP.out]; have HB2 := hid hb2; clear hb2) | fail)
          go_roundw
          case rel => exact ⟨t + 1, by omega, by go_num, allTo_next HA.out HN.out, Below_chain HB.out HB2.out⟩
          case measure => simp [intOf]; omega
      · obtain rfl : t = M.length := by omega
        clear hbel
        go_wp2_with (first | (go_at_call 84; refine (raBinomial_any n k _ (by omega) (by omega)).mono ?_; rintro e w2 ⟨rfl, rfl⟩; rw [← HBN.out]) | fail)
        go_ret
        exact ⟨ret_bool (by rw [HCA.out, HA.out]; exact HEND.out), Below_chain HB1.out HB.out⟩
end Go.Proofs.Ytijjdidljoicfab

/- Contracts: chSize, spec.IsExchangeList, spec.IsAdjacentList and spec.ComplementsOf. Conditions: the slice reads as a list of lists. -/
namespace Go.Proofs.Ytijjdidljoicfab
open Go.RowKit
set_option linter.unusedVariables false

theorem ret_bb3 {a b c d : Bool} (h : a = c) (h2 : b = d) : Ending.returned (.tuple #[.bool a, .bool b]) = Ending.returned (.tuple #[.bool c, .bool d]) := by rw [h, h2]
def szB (n k : Int) : Bool := inB n 0 12 && inB k 0 n
theorem szB_nat {n k : Int} (h : szB n k = true) : ∃ N K : Nat, n = (N : Int) ∧ k = (K : Int) ∧ N ≤ 12 ∧ K ≤ N := by
  rw [szB, Bool.and_eq_true] at h
  have h1 := inB_iff.1 h.1
  have h2 := inB_iff.1 h.2
  exact ⟨n.toNat, k.toNat, by omega, by omega, by omega, by omega⟩
theorem chSize_any (n k : Int) (w : World) : Calls Try.prog 28 #[.int .i64 n, .int .i64 k] w fun e w' => e = .returned (.bool (szB n k)) ∧ w = w' := by
  cases h : inB n 0 12 with
  | true =>
    have H := hid h
    have HV := hid (show szB n k = inB k 0 n by rw [szB, h]; rfl)
    clear h
    go_enter Try.func28, Try.ntmps28
    go_wp2_with (first | (go_at_call 68; refine (raItems_any _ _).mono ?_; rintro e w' ⟨rfl, rfl⟩; rw [H.out]) | (go_at_call 48; refine (l1In_any _ _ _ _).mono ?_; rintro e w' ⟨rfl, rfl⟩) | fail)
    go_ret
    exact ⟨ret_bool HV.out.symm, rfl⟩
  | false =>
    have H := hid h
    have HV := hid (show szB n k = false by rw [szB, h]; rfl)
    clear h
    go_enter Try.func28, Try.ntmps28
    go_wp2_with (first | (go_at_call 68; refine (raItems_any _ _).mono ?_; rintro e w' ⟨rfl, rfl⟩; rw [H.out]) | fail)
    go_ret
    exact ⟨ret_bool HV.out.symm, rfl⟩
def chOk (n k : Int) (L : List (List Int)) : Bool := szB n k && chlB n L
/-- all combinations, each once, with exchanges at most so far (n itself: however far) -/
def chV (far : Int → Int) (n k : Int) (L : List (List Int)) : Bool := chOk n k L && (chaB n.toNat k.toNat L && nearL (far n) L)
def farN (n : Int) : Int := n
def far1 (_ : Int) : Int := 1
theorem spec_IsAdjacentList_any (n k : Int) (v : Value) (L : List (List Int)) (base : Nat) (w : World) (h : Lists w base v L) :
    Calls Try.prog 23 #[.int .i64 n, .int .i64 k, v] w fun e w' => e = .returned (.tuple #[.bool (chV far1 n k L), .bool (chOk n k L)]) ∧ Below w.heap.size w w' := by
  have HL := hid h
  cases hs : szB n k with
  | false =>
    have HO := hid (show chOk n k L = false by rw [chOk, hs]; rfl)
    have HV := hid (show chV far1 n k L = false by rw [chV, HO.out]; rfl)
    have HS := hid hs
    clear hs h
    go_enter Try.func23, Try.ntmps23
    go_wp2_with (first | (go_at_call 28; refine (chSize_any n k _).mono ?_; rintro e w1 ⟨rfl, rfl⟩; rw [HS.out]) | fail)
    go_ret2
    exact ⟨ret_bb3 HV.out.symm HO.out.symm, Below.refl _ _⟩
  | true =>
    have HS := hid hs
    cases hc : chlB n L with
    | false =>
      have HO := hid (show chOk n k L = false by rw [chOk, hc, Bool.and_false])
      have HV := hid (show chV far1 n k L = false by rw [chV, HO.out]; rfl)
      have HC := hid hc
      clear hs h hc
      go_enter Try.func23, Try.ntmps23
      go_wp2_with (first | (go_at_call 28; refine (chSize_any n k _).mono ?_; rintro e w1 ⟨rfl, rfl⟩; rw [HS.out]) | (go_at_call 61; refine (chLists_any n _ L _ _ HL.out).mono ?_; rintro e w1 ⟨rfl, rfl⟩; rw [HC.out]) | fail)
      go_ret2
      exact ⟨ret_bb3 HV.out.symm HO.out.symm, Below.refl _ _⟩
    | true =>
      have HC := hid hc
      have HO := hid (show chOk n k L = true by rw [chOk, hs, hc]; rfl)
      obtain ⟨N, K, rfl, rfl, hN, hK⟩ := szB_nat hs
      have HF := hid (few_of_chl hc)
      have hlen : L.length ≤ 100000 := by
        simp only [chlB, Bool.and_eq_true, decide_eq_true_eq] at hc
        omega
      cases ha : chaB N K L with
      | false =>
        have HV := hid (show chV far1 (N : Int) (K : Int) L = false by rw [chV, HO.out, Int.toNat_natCast, Int.toNat_natCast, ha]; rfl)
        have HA := hid ha
        clear hs h hc ha
        go_enter Try.func23, Try.ntmps23
        go_wp2_with (first | (go_at_call 28; refine (chSize_any _ _ _).mono ?_; rintro e w1 ⟨rfl, rfl⟩; rw [HS.out]) | (go_at_call 61; refine (chLists_any _ _ L _ _ HL.out).mono ?_; rintro e w1 ⟨rfl, rfl⟩; rw [HC.out]) | (go_at_call 62; refine (chAll_any N K hN hK _ L _ _ HL.out).mono ?_; rintro e w1 ⟨rfl, hb1⟩; rw [HA.out]; have HB1 := hid hb1; clear hb1) | fail)
        go_ret2
        exact ⟨ret_bb3 HV.out.symm HO.out.symm, HB1.out⟩
      | true =>
        have HV := hid (show chV far1 (N : Int) (K : Int) L = nearL 1 L by rw [chV, HO.out, Int.toNat_natCast, Int.toNat_natCast, ha]; rfl)
        have HA := hid ha
        clear hs h hc ha
        go_enter Try.func23, Try.ntmps23
        go_wp2_with (first | (go_at_call 28; refine (chSize_any _ _ _).mono ?_; rintro e w1 ⟨rfl, rfl⟩; rw [HS.out]) | (go_at_call 61; refine (chLists_any _ _ L _ _ HL.out).mono ?_; rintro e w1 ⟨rfl, rfl⟩; rw [HC.out]) | (go_at_call 62; refine (chAll_any N K hN hK _ L _ _ HL.out).mono ?_; rintro e w1 ⟨rfl, hb1⟩; rw [HA.out]; have HB1 := hid hb1; have HL1 := hid (HL.out.below hb1); clear hb1) | (go_at_call 63; refine (chNear_any _ L _ _ _ HL1.out HF.out hlen).mono ?_; rintro e w2 ⟨rfl, hb2⟩; have HB2 := hid (Below_chain HB1.out hb2); clear hb2) | fail)
        go_ret2
        exact ⟨ret_bb3 HV.out.symm HO.out.symm, HB2.out⟩
def cmpL (n : Int) (L : List (List Int)) : List (List Int) := L.map (fun l => missL (upTo n.toNat) l)
def cmpRes (n : Int) (L : List (List Int)) : List (List Int) := if chlB n L = true then cmpL n L else []
theorem cmpRes_yes {n : Int} {L : List (List Int)} (h : chlB n L = true) : cmpRes n L = cmpL n L := by unfold cmpRes; rw [if_pos h]
theorem cmpRes_no {n : Int} {L : List (List Int)} (h : chlB n L = false) : cmpRes n L = [] := by unfold cmpRes; rw [if_neg (by rw [h]; simp)]
theorem cmp_snoc {n : Int} {L : List (List Int)} {k : Nat} (h : k < L.length) : cmpL n (L.take (k + 1)) = cmpL n (L.take k) ++ [missL (upTo n.toNat) L[k]] := by
  unfold cmpL
  rw [List.take_succ_eq_append_getElem h, List.map_append]
  rfl
theorem ret_sb5 {u : Value} {b b' : Bool} (h : b = b') : Ending.returned (.tuple #[u, .bool b]) = .returned (.tuple #[u, .bool b']) := by rw [h]
set_option maxHeartbeats 2000000 in
theorem spec_ComplementsOf_any (n : Int) (v : Value) (L : List (List Int)) (base : Nat) (w : World) (h : Lists w base v L) :
    Calls Try.prog 26 #[.int .i64 n, v] w fun e w' => ∃ u, e = .returned (.tuple #[u, .bool (chlB n L)]) ∧ Lists w' w.heap.size u (cmpRes n L) ∧ Below w.heap.size w w' := by
  have HL := hid h
  cases hc : chlB n L with
  | false =>
    have HC := hid hc
    have HR := hid (cmpRes_no hc)
    clear hc h
    go_enter Try.func26, Try.ntmps26
    go_wp2_with (first | (go_at_call 61; refine (chLists_any n _ L _ _ HL.out).mono ?_; rintro e w1 ⟨rfl, rfl⟩; rw [HC.out]) | fail)
    go_ret2
    exact ⟨_, rfl, by rw [HR.out]; exact Lists.nil _ _, Below.refl _ _⟩
  | true =>
    have HC := hid hc
    have HR := hid (cmpRes_yes hc)
    have hcc := hc
    simp only [chlB, Bool.and_eq_true, decide_eq_true_eq] at hcc
    have hn := inB_iff.1 hcc.2.1
    obtain ⟨N, rfl⟩ : ∃ N : Nat, n = (N : Int) := ⟨n.toNat, by omega⟩
    have hN : N ≤ 12 := by omega
    have hlen : L.length ≤ 1100 := hcc.2.2
    have HU := hid (upTo_length N)
    obtain ⟨j0, hj, hy0, hy1, hy2⟩ := info_parts Try.infoL
    rcases h.form with ⟨rfl, rfl⟩ | ⟨g, cap, rfl, _, hg, hc1, hm, hcell⟩
    · clear hc hcc h
      go_enter Try.func26, Try.ntmps26
      go_wp2_with (first | (go_at_call 61; refine (chLists_any _ _ [] _ _ HL.out).mono ?_; rintro e w1 ⟨rfl, rfl⟩; rw [HC.out]) | fail)
      refine wp_loop_rounds 1 ?_
      rw [rounds_succ]
      go_wp2_with fail
      go_ret2
      exact ⟨_, rfl, by rw [HR.out]; exact Lists.nil _ _, Below.refl _ _⟩
    · have HCELL := hid hcell
      clear hc hcc h hcell
      go_enter Try.func26, Try.ntmps26
      go_wp2_with (first | (go_at_call 61; refine (chLists_any _ _ L _ _ HL.out).mono ?_; rintro e w1 ⟨rfl, rfl⟩; rw [HC.out]) | fail)
      go_loopw [6, 8, 15] (fun ov _ i wr => ∃ k : Nat, k ≤ L.length ∧ i = .int .i64 k ∧ Lists wr w.heap.size ov (cmpL (N : Int) (L.take k)) ∧ Below w.heap.size w wr) (fun _ _ i _ => L.length - (intOf i).toNat)
      case atStart => exact ⟨0, Nat.zero_le _, rfl, Lists.nil _ _, Below.refl _ _⟩
      case round =>
        obtain ⟨k, hk, rfl, hli, hbel⟩ := hrel
        have HLI := hid hli
        have HB := hid hbel
        have hsz := hbel.size
        by_cases hlt : k < L.length
        · obtain ⟨z, hz, hown⟩ := HCELL.out k hlt
          have hcx : wr.cell? ⟨g, k, none⟩ = some z := (hbel.cell (by exact hg)).trans hz
          have HZ := hid (hown.reads.below hbel)
          obtain ⟨l, hl⟩ : ∃ l, l = L[k] := ⟨_, rfl⟩
          rw [← hl] at HZ
          obtain ⟨m, hm2⟩ : ∃ m, m = missL (upTo N) l := ⟨_, rfl⟩
          have HM := hid hm2
          obtain ⟨M, hM⟩ : ∃ M, M = cmpL (N : Int) (L.take k) := ⟨_, rfl⟩
          have HNX := hid (show cmpL (N : Int) (L.take (k + 1)) = M ++ [m] by rw [cmp_snoc hlt, ← hM, ← hl, Int.toNat_natCast, ← hm2])
          have hMl : M.length ≤ 1100 := by rw [hM, cmpL, List.length_map, List.length_take]; omega
          rw [← hM] at HLI
          clear hz hown hl hm2 hM hli hbel
          go_wp2_with fail
          refine (raUpTo_any N _ (by omega)).mono ?_
          rintro e w1 ⟨u1, rfl, ho1, hb1⟩
          have HU1 := hid ho1.reads
          have HZ1 := hid (HZ.out.below hb1)
          have HB1 := hid hb1
          clear ho1 hb1
          go_wp2_with fail
          refine (chMissing_any _ _ (upTo N) l _ HU1.out HZ1.out (by rw [HU.out]; omega)).mono ?_
          rintro e w2 ⟨r, rfl, ho2, hb2⟩
          rw [← HM.out] at ho2
          obtain ⟨aor, cr, rfl⟩ := ho2.slice2
          have HB2 := hid (Below_chain HB1.out hb2)
          have hs2 := HB2.out.size
          have HO2 := hid (ho2.mono (Nat.le_trans hsz HB1.out.size))
          have HL2 := (HLI.out.below HB2.out)
          obtain ⟨vs, hvl, hvr, hve⟩ := HL2
          have HVL := hid hvl
          have HVR := hid hvr
          have HVE := hid hve
          have HONE := hid (ho2.one)
          clear ho2 hb2 hvl hvr hve
          go_wp2_with (first
            | (at_builtin; refine wpList_append_own _ rfl (.tmp 19) (.tmp 24) 22 rfl w.heap.size 28 j0 (.slice none 0 0) 1 24 Try.underlying22 hj hy0 hy1 hy2 rfl (by decide) _ _ _ rfl (World.ownsRow.alloc HVR.out _) ⟨w2.heap.size, 0, none⟩ 1 1 [.slice aor m.length cr] rfl rfl (fun j u hj => new_cellV j hj) HONE.out (by unfold maxLen; omega) (by omega) (by simp; omega) ?_; intro v3 w3 hown3 hgrow3 hn3; have HPU := hid (Lists_push HVL.out (World.ownsRow.alloc HVR.out _) (fun i a b => (HVE.out i a b).below ((Below.refl _ _).alloc (Nat.le_refl _) _)) (HO2.out.below ((Below.refl _ _).alloc (Nat.le_refl _) _)) hown3 hgrow3); have HB3 := hid (((Below_chain HB.out HB2.out).alloc (Nat.le_trans hsz hs2) (.cells #[.slice aor m.length cr] 28)).grown hgrow3 (by simp; omega) (fun q hq => (World.ownsRow.lt HVR.out q hq).1)); clear hown3 hgrow3 hn3)
            | fail)
          go_roundw
          case rel => exact ⟨k + 1, by omega, by go_num, by rw [HNX.out]; exact HPU.out, HB3.out⟩
          case measure => simp [intOf]; omega
        · obtain rfl : k = L.length := by omega
          rw [List.take_length] at HLI
          clear hli hbel
          go_wp2_with fail
          go_ret2
          exact ⟨_, rfl, by rw [HR.out]; exact HLI.out, HB.out⟩
end Go.Proofs.Ytijjdidljoicfab

/- Contracts: slices.Index and slices.Contains. Conditions: the slice reads as a list. -/
namespace Go.Proofs.Ytijjdidljoicfab
open Go.RowKit
set_option linter.unusedVariables false

theorem Index_any (v : Value) (xs : List Int) (y : Int) (w : World) (h : Reads w v xs) :
    Calls Try.prog 95 #[v, .int .i64 y] w fun e w' => (∃ r : Int, e = .returned (.int .i64 r) ∧ decide (0 ≤ r) = hasB xs y) ∧ w = w' := by
  obtain ⟨ao, c, rfl, hc1, hm, h⟩ := h.view
  rcases h with h | ⟨b, off, rfl, hb, hc⟩
  · subst h
    go_enter Try.func95, Try.ntmps95
    go_wp2
    refine wp_loop_rounds 1 ?_
    rw [rounds_succ]
    go_wp2
    go_ret
    exact ⟨⟨_, rfl, rfl⟩, rfl⟩
  · go_enter Try.func95, Try.ntmps95
    go_wp2
    go_loop [5, 8] (fun _ i => ∃ k : Nat, k ≤ xs.length ∧ i = .int .i64 k ∧ hasB (xs.take k) y = false) (fun _ i => xs.length - (intOf i).toNat)
    case atStart => exact ⟨0, Nat.zero_le _, rfl, rfl⟩
    case round =>
      obtain ⟨k, hk, rfl, hno⟩ := hrel
      have HN := hid hno
      clear hno
      by_cases hlt : k < xs.length
      · have hcx := hc k hlt
        clear hc
        by_cases he : xs[k] = y
        · have hb1 : (y == xs[k]) = true := by simp [he]
          have HF : Hid (hasB xs y = true) := by
            show hasB xs y = true
            rw [hasB_iff, ← he]
            exact List.getElem_mem _
          clear he
          go_wp2
          go_ret
          exact ⟨⟨_, rfl, by rw [HF.out]; simp⟩, rfl⟩
        · have hb1 : (y == xs[k]) = false := by simp; exact fun h => he h.symm
          have hb2 : decide (y = xs[k]) = false := by simp; exact fun h => he h.symm
          have HF : Hid (hasB (xs.take (k + 1)) y = false) := by
            show hasB (xs.take (k + 1)) y = false
            rw [hasB_take_succ xs k hlt, HN.out, hb2]; rfl
          clear he hb2
          go_wp2
          go_round
          case rel => exact ⟨k + 1, by omega, by go_num, HF.out⟩
          case measure => simp [intOf]; omega
      · obtain rfl : k = xs.length := by omega
        go_wp2
        go_ret
        refine ⟨⟨_, rfl, ?_⟩, rfl⟩
        have := HN.out
        rw [List.take_length] at this
        rw [this]; rfl
theorem Contains_any (v : Value) (xs : List Int) (y : Int) (w : World) (h : Reads w v xs) :
    Calls Try.prog 82 #[v, .int .i64 y] w fun e w' => e = .returned (.bool (hasB xs y)) ∧ w = w' := by
  have H := hid h
  clear h
  go_enter Try.func82, Try.ntmps82
  go_wp2_with (first | (go_at_call 95; refine (Index_any _ xs y _ H.out).mono ?_; rintro e w1 ⟨⟨r, rfl, hr⟩, rfl⟩; have HR := hid hr; clear hr) | fail)
  go_ret
  exact ⟨ret_bool HR.out, rfl⟩
end Go.Proofs.Ytijjdidljoicfab

/- Plain facts on the place of a combination in the list of all. No conditions beyond the stated ones. -/
namespace Go.Proofs.Ytijjdidljoicfab
set_option linter.unusedVariables false

def sumB (n r f : Nat) : Nat → Nat
  | 0 => 0
  | m + 1 => sumB n r f m + binom (n - 1 - (f + m)) r
def rankC (n : Nat) : Nat → List Int → Nat
  | _, [] => 0
  | f, x :: t => sumB n t.length f (x.toNat - f) + rankC n (x.toNat + 1) t
/-- the rest of a combination of n, its elements from f on -/
def RF (n : Nat) : Nat → List Int → Prop
  | _, [] => True
  | f, x :: t => (f : Int) ≤ x ∧ x < n ∧ RF n (x.toNat + 1) t

theorem placeIn_skip (l : List Int) : ∀ (A B : List (List Int)), (∀ a ∈ A, a ≠ l) → 0 ≤ placeIn l B → placeIn l (A ++ B) = A.length + placeIn l B
  | [], B, _, _ => by simp
  | a :: A, B, hA, hB => by
    have ih := placeIn_skip l A B (fun x hx => hA x (List.mem_cons_of_mem _ hx)) hB
    have h0 : ¬ a = l := hA a List.mem_cons_self
    rw [List.cons_append, placeIn, if_neg h0, ih, if_neg (by omega), List.length_cons]
    omega
theorem placeIn_left (l : List Int) : ∀ (A B : List (List Int)), 0 ≤ placeIn l A → placeIn l (A ++ B) = placeIn l A
  | [], B, h => by simp [placeIn] at h
  | a :: A, B, h => by
    rw [List.cons_append, placeIn, placeIn]
    rw [placeIn] at h
    by_cases h0 : a = l
    · rw [if_pos h0, if_pos h0]
    · rw [if_neg h0] at h
      by_cases h1 : placeIn l A < 0
      · rw [if_pos h1] at h; omega
      · rw [placeIn_left l A B (by omega)]
theorem placeIn_map (x : Int) (t : List Int) : ∀ (B : List (List Int)), placeIn (x :: t) (B.map (fun l => x :: l)) = placeIn t B
  | [] => rfl
  | b :: B => by
    rw [List.map_cons, placeIn, placeIn, placeIn_map x t B]
    by_cases h : b = t
    · rw [if_pos h, if_pos (by rw [h])]
    · rw [if_neg h, if_neg (by intro e; exact h (List.cons.inj e).2)]
theorem outTo_head (F : Nat → List (List Int)) (f m : Nat) : ∀ l ∈ outTo F f m, ∃ (y : Nat) (t : List Int), y < f + m ∧ l = (y : Int) :: t := by
  induction m with
  | zero => intro l h; simp [outTo] at h
  | succ m ih =>
    intro l h
    rw [outTo, List.mem_append] at h
    rcases h with h | h
    · obtain ⟨y, t, h1, h2⟩ := ih l h
      exact ⟨y, t, by omega, h2⟩
    · obtain ⟨t, _, rfl⟩ := List.mem_map.1 h
      exact ⟨f + m, t, by omega, rfl⟩
theorem outTo_len (n : Nat) (hn : n ≤ 12) (k f : Nat) (hk : k ≤ 12) (m : Nat) : (outTo (allL n k) f m).length = sumB n k f m := by
  induction m with
  | zero => rfl
  | succ m ih =>
    rw [outTo, List.length_append, List.length_map, ih, allL_len n hn k _ hk, sumB, show n - (f + m + 1) = n - 1 - (f + m) by omega]
theorem place_out (n : Nat) (hn : n ≤ 12) (k f m : Nat) (hk : k ≤ 12) (t : List Int) (h : 0 ≤ placeIn t (allL n k (f + m + 1))) (r : Nat) :
    placeIn (((f + m : Nat) : Int) :: t) (outTo (allL n k) f (m + 1 + r)) = sumB n k f m + placeIn t (allL n k (f + m + 1)) := by
  induction r with
  | zero =>
    rw [Nat.add_zero, outTo, placeIn_skip _ _ _ (fun a ha e => by
      obtain ⟨y, t', h1, h2⟩ := outTo_head _ _ _ a ha
      rw [h2] at e
      have := (List.cons.inj e).1
      omega) (by rw [placeIn_map]; exact h), placeIn_map, outTo_len n hn k f hk]
  | succ r ih =>
    rw [show m + 1 + (r + 1) = (m + 1 + r) + 1 by omega, outTo, placeIn_left _ _ _ (by rw [ih]; omega), ih]
theorem place_rank (n : Nat) (hn : n ≤ 12) : ∀ (xs : List Int) (f : Nat), xs.length ≤ 12 → RF n f xs → placeIn xs (allL n xs.length f) = rankC n f xs
  | [], f, _, _ => rfl
  | x :: t, f, hl, h => by
    obtain ⟨h1, h2, h3⟩ := h
    have hl' : t.length ≤ 12 := by simp at hl; omega
    have ih := place_rank n hn t (x.toNat + 1) hl' h3
    obtain ⟨m, hm⟩ : ∃ m, x.toNat = f + m := ⟨x.toNat - f, by omega⟩
    have hx : x = ((f + m : Nat) : Int) := by omega
    rw [hm] at ih
    have hp := place_out n hn t.length f m hl' t (by rw [ih]; omega) (n - f - (m + 1))
    rw [show m + 1 + (n - f - (m + 1)) = n - f by omega, ih] at hp
    rw [List.length_cons, allL, rankC, hm, show f + m - f = m by omega]
    conv => lhs; rw [hx]
    rw [hp]
    omega
theorem RF_of (n : Nat) : ∀ (xs : List Int) (f : Nat), (0 < xs.length → (f : Int) ≤ xs.getD 0 0) → (∀ i, i < xs.length → xs.getD i 0 < n) → (∀ i, i + 1 < xs.length → xs.getD i 0 < xs.getD (i + 1) 0) → RF n f xs
  | [], _, _, _, _ => trivial
  | x :: t, f, h1, h2, h3 => by
    have a1 := h1 (by simp)
    have a2 := h2 0 (by simp)
    simp only [List.getD_cons_zero] at a1 a2
    refine ⟨a1, a2, RF_of n t (x.toNat + 1) (fun ht => ?_) (fun i hi => ?_) (fun i hi => ?_)⟩
    · have := h3 0 (by simp; omega)
      simp only [List.getD_cons_zero, List.getD_cons_succ] at this
      omega
    · have := h2 (i + 1) (by simp; omega)
      simpa using this
    · have := h3 (i + 1) (by simp; omega)
      simpa using this
theorem RF_comb {n : Int} {xs : List Int} (h : combB n xs = true) : RF n.toNat 0 xs ∧ xs.length ≤ 12 ∧ 0 ≤ n ∧ n ≤ 12 := by
  simp only [combB, Bool.and_eq_true, decide_eq_true_eq, inB_iff] at h
  obtain ⟨⟨h1, h2⟩, h3⟩ := h
  unfold risingB at h3
  have hr := fun i hi => (allTo_iff _ _).1 h3 i hi
  simp only [riseAt, Bool.and_eq_true, inB_iff, Bool.or_eq_true, beq_iff_eq, decide_eq_true_eq] at hr
  refine ⟨RF_of _ _ _ (fun h0 => ?_) (fun i hi => ?_) (fun i hi => ?_), by omega, h1.1, h1.2⟩
  · have := (hr 0 h0).1.1; omega
  · have := (hr i hi).1.2; omega
  · have := (hr (i + 1) hi).2
    rw [Nat.add_sub_cancel] at this
    omega
theorem placeIn_lt (l : List Int) : ∀ L, placeIn l L < L.length
  | [] => by simp [placeIn]
  | x :: r => by
    have := placeIn_lt l r
    rw [placeIn, List.length_cons]
    split
    · omega
    · split <;> omega
theorem rankC_le (n : Nat) (hn : n ≤ 12) (xs : List Int) (f : Nat) (hl : xs.length ≤ 12) (h : RF n f xs) : rankC n f xs ≤ 2000 := by
  have h1 := place_rank n hn xs f hl h
  have h2 := placeIn_lt xs (allL n xs.length f)
  have h3 := allL_bound n hn xs.length f hl
  omega
theorem sumB_mono (n r f : Nat) {a b : Nat} (h : a ≤ b) : sumB n r f a ≤ sumB n r f b := by
  induction b with
  | zero => rw [show a = 0 by omega]; exact Nat.le_refl _
  | succ b ih =>
    by_cases e : a = b + 1
    · rw [e]; exact Nat.le_refl _
    · have := ih (by omega)
      rw [sumB]; omega
end Go.Proofs.Ytijjdidljoicfab

/- Plain facts on the list of all combinations in colexicographic order. No conditions beyond the stated ones. -/
namespace Go.Proofs.Ytijjdidljoicfab
set_option linter.unusedVariables false

def colL : Nat → Nat → List (List Int)
  | _, 0 => [[]]
  | 0, _ + 1 => []
  | n + 1, k + 1 => colL n (k + 1) ++ (colL n k).map (fun l => l ++ [(n : Int)])
theorem colL_len : ∀ n k, (colL n k).length = binom n k
  | 0, 0 => rfl
  | n + 1, 0 => by simp [colL, binom]
  | 0, k + 1 => rfl
  | n + 1, k + 1 => by rw [colL, List.length_append, List.length_map, colL_len n (k + 1), colL_len n k, binom]
theorem colL_elem : ∀ n k, ∀ l ∈ colL n k, l.length = k ∧ ∀ x ∈ l, x < (n : Int)
  | 0, 0, l, h => by simp [colL] at h; subst h; simp
  | n + 1, 0, l, h => by simp [colL] at h; subst h; simp
  | 0, k + 1, l, h => by simp [colL] at h
  | n + 1, k + 1, l, h => by
    rw [colL, List.mem_append] at h
    rcases h with h | h
    · have := colL_elem n (k + 1) l h
      exact ⟨this.1, fun x hx => by have := this.2 x hx; omega⟩
    · obtain ⟨t, ht, rfl⟩ := List.mem_map.1 h
      have := colL_elem n k t ht
      refine ⟨by simp [this.1], fun x hx => ?_⟩
      rw [List.mem_append, List.mem_singleton] at hx
      rcases hx with hx | hx
      · have := this.2 x hx; omega
      · omega
theorem placeIn_map_snoc (x : Int) (t : List Int) : ∀ (B : List (List Int)), placeIn (t ++ [x]) (B.map (fun l => l ++ [x])) = placeIn t B
  | [] => rfl
  | b :: B => by
    rw [List.map_cons, placeIn, placeIn, placeIn_map_snoc x t B]
    by_cases h : b = t
    · rw [if_pos h, if_pos (by rw [h])]
    · rw [if_neg h, if_neg (fun e => h (List.append_cancel_right e))]
/-- the rank that the elements tell, one after the other -/
def cSum (xs : List Int) : Nat → Nat
  | 0 => 0
  | m + 1 => cSum xs m + binom (xs.getD m 0).toNat (m + 1)
theorem cSum_congr {xs ys : List Int} : ∀ m, (∀ i, i < m → xs.getD i 0 = ys.getD i 0) → cSum xs m = cSum ys m
  | 0, _ => rfl
  | m + 1, h => by rw [cSum, cSum, cSum_congr m (fun i hi => h i (by omega)), h m (by omega)]
/-- rising numbers from 0 on, all below n -/
def Rises (n : Nat) (xs : List Int) : Prop := (∀ i, i < xs.length → 0 ≤ xs.getD i 0 ∧ xs.getD i 0 < n) ∧ ∀ i, i + 1 < xs.length → xs.getD i 0 < xs.getD (i + 1) 0
theorem Rises.get_le {n : Nat} {xs : List Int} (h : Rises n xs) : ∀ d i, i + d < xs.length → xs.getD i 0 + d ≤ xs.getD (i + d) 0 := by
  intro d
  induction d with
  | zero => intro i hi; simp
  | succ d ih =>
    intro i hi
    have h1 := ih i (by omega)
    have h2 := h.2 (i + d) (by omega)
    rw [show i + (d + 1) = i + d + 1 by omega]
    omega
theorem place_col : ∀ (n : Nat) (xs : List Int), Rises n xs → placeIn xs (colL n xs.length) = cSum xs xs.length
  | n, [], _ => by cases n <;> rfl
  | 0, x :: t, h => by
    have := h.1 0 (by simp)
    omega
  | n + 1, x :: t, h => by
    obtain ⟨ys, z, e⟩ : ∃ ys z, x :: t = ys ++ [z] := ⟨(x :: t).dropLast, (x :: t).getLast (by simp), (List.dropLast_concat_getLast (by simp)).symm⟩
    have hlen : (x :: t).length = ys.length + 1 := by rw [e]; simp
    have hz : (x :: t).getD ys.length 0 = z := by rw [e]; simp
    have hys : ∀ i, i < ys.length → (x :: t).getD i 0 = ys.getD i 0 := fun i hi => by
      rw [e]; simp [List.getD_eq_getElem?_getD, List.getElem?_append_left hi]
    have hzb := h.1 ys.length (by omega)
    rw [hz] at hzb
    by_cases hzn : z = n
    · have hry : Rises n ys := by
        refine ⟨fun i hi => ?_, fun i hi => ?_⟩
        · have h1 := h.1 i (by omega)
          have h2 := h.get_le (ys.length - i) i (by omega)
          rw [show i + (ys.length - i) = ys.length by omega, hz] at h2
          rw [hys i hi] at h1 h2
          omega
        · have := h.2 i (by omega)
          rwa [hys i (by omega), hys (i + 1) (by omega)] at this
      have ih := place_col n ys hry
      have hsk : ∀ a ∈ colL n (ys.length + 1), a ≠ ys ++ [z] := fun a ha ea => by
        have := (colL_elem n (ys.length + 1) a ha).2 z (by rw [ea]; simp)
        omega
      rw [hlen, e, colL, hzn, placeIn_skip _ _ _ (by rw [← hzn]; exact hsk) (by rw [placeIn_map_snoc, ih]; omega), placeIn_map_snoc, ih, colL_len, cSum]
      have hc : cSum (ys ++ [(n : Int)]) ys.length = cSum ys ys.length := cSum_congr _ (fun i hi => by simp [List.getD_eq_getElem?_getD, List.getElem?_append_left hi])
      have hg : (ys ++ [(n : Int)]).getD ys.length 0 = n := by simp
      rw [hc, hg, Int.toNat_natCast]
      omega
    · have hr : Rises n (x :: t) := by
        refine ⟨fun i hi => ?_, h.2⟩
        have h1 := h.1 i hi
        have h2 := h.get_le (ys.length - i) i (by omega)
        rw [show i + (ys.length - i) = ys.length by omega, hz] at h2
        omega
      have ih := place_col n (x :: t) hr
      rw [hlen] at ih ⊢
      rw [colL, placeIn_left _ _ _ (by rw [ih]; omega), ih]
theorem Rises_comb {n : Int} {xs : List Int} (h : combB n xs = true) : Rises n.toNat xs ∧ xs.length ≤ 12 ∧ 0 ≤ n ∧ n ≤ 12 := by
  simp only [combB, Bool.and_eq_true, decide_eq_true_eq, inB_iff] at h
  obtain ⟨⟨h1, h2⟩, h3⟩ := h
  unfold risingB at h3
  have hr := fun i hi => (allTo_iff _ _).1 h3 i hi
  simp only [riseAt, Bool.and_eq_true, inB_iff, Bool.or_eq_true, beq_iff_eq, decide_eq_true_eq] at hr
  refine ⟨⟨fun i hi => ?_, fun i hi => ?_⟩, by omega, h1.1, h1.2⟩
  · have := (hr i hi).1; omega
  · have := (hr (i + 1) hi).2
    rw [Nat.add_sub_cancel] at this
    omega
theorem cSum_mono (xs : List Int) {a b : Nat} (h : a ≤ b) : cSum xs a ≤ cSum xs b := by
  induction b with
  | zero => rw [show a = 0 by omega]; exact Nat.le_refl _
  | succ b ih =>
    by_cases e : a = b + 1
    · rw [e]; exact Nat.le_refl _
    · have := ih (by omega)
      rw [cSum]; omega
end Go.Proofs.Ytijjdidljoicfab

/- Slices of slices of ints that came in, as lists of lists; contracts: szIntS, szIntSS. Conditions: the slices read as lists (of lists). -/
namespace Go.Proofs.Ytijjdidljoicfab
open Go.RowKit
set_option linter.unusedVariables false

/-- v is a slice whose elements are slices that read as the lists of L; they may share memory. -/
def ReadsL (w : World) (v : Value) (L : List (List Int)) : Prop :=
  ∃ ao c, v = .slice ao L.length c ∧ L.length ≤ c ∧ c ≤ maxLen ∧
    (L = [] ∨ ∃ b off, ao = some ⟨b, off, none⟩ ∧ b < w.heap.size ∧ ∀ i (hi : i < L.length), ∃ u, w.cell? ⟨b, off + i, none⟩ = some u ∧ Reads w u L[i])
theorem ReadsL.below {w w' : World} {v : Value} {L : List (List Int)} (h : ReadsL w v L) (hb : Below w.heap.size w w') : ReadsL w' v L := by
  obtain ⟨ao, c, rfl, h1, h2, h⟩ := h
  refine ⟨ao, c, rfl, h1, h2, ?_⟩
  rcases h with h | ⟨b, off, rfl, h3, h4⟩
  · exact .inl h
  · refine .inr ⟨b, off, rfl, Nat.lt_of_lt_of_le h3 hb.size, fun i hi => ?_⟩
    obtain ⟨u, hu, hr⟩ := h4 i hi
    exact ⟨u, (hb.cell (by exact h3)).trans hu, hr.below hb⟩
theorem szIntS_any (v : Value) (xs : List Int) (m : Int) (w : World) (h : Reads w v xs) (h0 : 0 ≤ m) (h1 : m ≤ 1073741824) :
    Calls Try.prog 60 #[v, .int .i64 m] w fun e w' => e = .returned (.int .i64 (if (xs.length : Int) ≤ m then m - xs.length else -1)) ∧ w = w' := by
  obtain ⟨ao, c, rfl, hc1, hm, h⟩ := h.view
  clear h
  by_cases hle : (xs.length : Int) ≤ m
  · have HE := hid (show (if (xs.length : Int) ≤ m then m - xs.length else -1) = m - xs.length from if_pos hle)
    go_enter Try.func60, Try.ntmps60
    go_wp2
    go_ret
    exact ⟨rfl, rfl⟩
  · have HE := hid (show (if (xs.length : Int) ≤ m then m - xs.length else -1) = -1 from if_neg hle)
    go_enter Try.func60, Try.ntmps60
    go_wp2
    go_ret
    exact ⟨rfl, rfl⟩
theorem szIntSS_any (v : Value) (L : List (List Int)) (m : Int) (w : World) (h : ReadsL w v L) (h0 : 0 ≤ m) (h1 : m ≤ 1073741824) :
    Calls Try.prog 22 #[v, .int .i64 m] w fun e w' => ∃ q : Int, e = .returned (.int .i64 q) ∧ w = w' ∧ q ≤ m ∧ (0 ≤ q → (L.length : Int) ≤ m ∧ ∀ i (hi : i < L.length), (L[i].length : Int) ≤ m) := by
  obtain ⟨ao, c, rfl, hc1, hm, h⟩ := h
  unfold maxLen at hm
  by_cases hle : (L.length : Int) ≤ m
  · rcases h with h | ⟨b, off, rfl, hb, hc⟩
    · subst h
      go_enter Try.func22, Try.ntmps22
      go_wp2
      refine wp_loop_rounds 1 ?_
      rw [rounds_succ]
      go_wp2
      go_ret
      exact ⟨_, rfl, rfl, by simp, fun _ => ⟨hle, fun i hi => absurd hi (by simp)⟩⟩
    · have HC := hid hc
      clear hc
      go_enter Try.func22, Try.ntmps22
      go_wp2_with fail
      go_loop [1, 5] (fun q i => ∃ (t : Nat) (p : Int), t ≤ L.length ∧ i = .int .i64 t ∧ q = .int .i64 p ∧ 0 ≤ p ∧ p ≤ m ∧ ∀ j (hj : j < L.length), j < t → (L[j].length : Int) ≤ m) (fun _ i => L.length - (intOf i).toNat)
      case atStart => exact ⟨0, m - L.length, Nat.zero_le _, rfl, by first | rfl | go_num, by omega, by omega, fun j _ hj => absurd hj (by omega)⟩
      case round =>
        obtain ⟨t, p, ht, rfl, rfl, hp0, hpm, hall⟩ := hrel
        have HALL := hid hall
        clear hall
        by_cases hlt : t < L.length
        · obtain ⟨z, hz, hread⟩ := HC.out t hlt
          obtain ⟨l, hl⟩ : ∃ l, l = L[t] := ⟨_, rfl⟩
          have HL := hid hl
          rw [← hl] at hread
          have HR := hid hread
          have hp1 : p ≤ 1073741824 := by omega
          clear hread hl
          by_cases hl2 : (l.length : Int) ≤ p
          · have HE := hid (show (if (l.length : Int) ≤ p then p - l.length else -1) = p - l.length from if_pos hl2)
            go_wp2_with (first | (go_at_call 60; refine (szIntS_any _ l p _ HR.out hp0 hp1).mono ?_; rintro e w1 ⟨rfl, rfl⟩; rw [HE.out]) | fail)
            go_round
            case rel => exact ⟨t + 1, p - l.length, by omega, by go_num, rfl, by omega, by omega, fun j hj hjt => by
              by_cases hjj : j < t
              · exact HALL.out j hj hjj
              · have : j = t := by omega
                subst this
                rw [← HL.out]; omega⟩
            case measure => simp [intOf]; omega
          · have HE := hid (show (if (l.length : Int) ≤ p then p - l.length else -1) = -1 from if_neg hl2)
            go_wp2_with (first | (go_at_call 60; refine (szIntS_any _ l p _ HR.out hp0 hp1).mono ?_; rintro e w1 ⟨rfl, rfl⟩; rw [HE.out]) | fail)
            go_ret
            exact ⟨_, rfl, rfl, by omega, fun h => absurd h (by decide)⟩
        · have htl : t = L.length := by omega
          go_wp2_with fail
          go_ret
          exact ⟨_, rfl, rfl, hpm, fun _ => by first | exact ⟨hle, fun i hi => HALL.out i hi (by omega)⟩ | exact fun i hi => HALL.out i hi (by omega)⟩
  · clear h
    go_enter Try.func22, Try.ntmps22
    go_wp2
    go_ret
    exact ⟨_, rfl, rfl, by omega, fun h => absurd h (by decide)⟩
end Go.Proofs.Ytijjdidljoicfab

/- Contract: toIntSS; slices of slices that are not nil and whose rows are not. Conditions: the slice reads as a list of at most 2^20 lists of at most 2^20 numbers. -/
namespace Go.Proofs.Ytijjdidljoicfab
open Go.RowKit
set_option linter.unusedVariables false

/-- v is a slice that is not nil of slices that are not nil, and reads as L. -/
def SitsL (w : World) (v : Value) (L : List (List Int)) : Prop :=
  ∃ b off c, v = .slice (some ⟨b, off, none⟩) L.length c ∧ L.length ≤ c ∧ c ≤ 9223372036854775807 ∧ b < w.heap.size ∧ ∀ i (hi : i < L.length), ∃ u, w.cell? ⟨b, off + i, none⟩ = some u ∧ Sits w u L[i]
theorem SitsL.below {w w' : World} {v : Value} {L : List (List Int)} (h : SitsL w v L) (hb : Below w.heap.size w w') : SitsL w' v L := by
  obtain ⟨b, off, c, rfl, h1, h2, h3, h4⟩ := h
  refine ⟨b, off, c, rfl, h1, h2, Nat.lt_of_lt_of_le h3 hb.size, fun i hi => ?_⟩
  obtain ⟨u, hu, hs⟩ := h4 i hi
  exact ⟨u, (hb.cell (by exact h3)).trans hu, hs.below hb⟩
/-- A made row is an owned one. -/
theorem ownsRow_of_rowIs {w : World} {g n : Nat} {T : TypeId} {f : Nat → Value} (h : w.rowIs g T n f) (hm : n ≤ maxLen) : w.ownsRow g T 1 (.slice (some ⟨g, 0, none⟩) n n) n ((List.range n).map f) := by
  obtain ⟨c, hc, hs, hf⟩ := h
  refine ⟨by simp, .inr ⟨g, n, c, rfl, Nat.le_refl _, hc, by omega, hm, by omega, ?_⟩⟩
  apply List.ext_getElem?
  intro i
  by_cases hi : i < n
  · have := hf i hi
    simp [hi] at this ⊢
    exact this
  · rw [List.getElem?_eq_none (by simp; omega), List.getElem?_eq_none (by simp; omega)]
theorem rowIs_below {w w' : World} {B g n : Nat} {T : TypeId} {f : Nat → Value} (h : w.rowIs g T n f) (hb : Below B w w') (hg : g < B) : w'.rowIs g T n f := h.of_block (hb.block g hg)
theorem grownBy_setCellAt (W : World) (b k : Nat) (v : Value) : W.grownBy (W.setCell ⟨b, k, none⟩ v) (some b) :=
  ⟨rfl, rfl, rfl, by simp, fun i _ hne => Below.heap_setCell _ _ _ i (fun e => hne (by rw [e]))⟩
/-- the first k rows are copied, into blocks behind g -/
def Copied (w : World) (g : Nat) (U : Nat → Value) (L : List (List Int)) (k : Nat) : Prop :=
  ∀ i (hi : i < L.length), i < k → ∃ h, U i = .slice (some ⟨h, 0, none⟩) L[i].length L[i].length ∧ g < h ∧ Own w g (U i) L[i]
theorem Copied.below {w w' : World} {g k : Nat} {U : Nat → Value} {L : List (List Int)} (h : Copied w g U L k) (hb : Below w.heap.size w w') : Copied w' g U L k := by
  intro i hi hk
  obtain ⟨q, h1, h2, h3⟩ := h i hi hk
  exact ⟨q, h1, h2, h3.below hb⟩
theorem Copied.kept {w w' : World} {g k : Nat} {U : Nat → Value} {L : List (List Int)} (h : Copied w g U L k) (hb : w.grownBy w' (some g)) : Copied w' g U L k := by
  intro i hi hk
  obtain ⟨q, h1, h2, h3⟩ := h i hi hk
  refine ⟨q, h1, h2, h3.kept hb (.inr ?_)⟩
  rw [h1]
  simp only [Value.ownBlock, ne_eq, Option.some.injEq]
  omega
theorem Copied.step {w : World} {g k q : Nat} {U : Nat → Value} {L : List (List Int)} (h : Copied w g U L k) (hk : k < L.length) (hq : g < q) (ho : Own w g (.slice (some ⟨q, 0, none⟩) L[k].length L[k].length) L[k]) :
    Copied w g (fun j => if j = k then .slice (some ⟨q, 0, none⟩) L[k].length L[k].length else U j) L (k + 1) := by
  intro i hi hk1
  by_cases e : i = k
  · subst e
    exact ⟨q, by simp, hq, by simpa using ho⟩
  · obtain ⟨q', h1, h2, h3⟩ := h i hi (by omega)
    exact ⟨q', by simp [e, h1], h2, by simpa [e] using h3⟩
/-- what toIntSS hands back -/
def Rows2 (w : World) (g : Nat) (v : Value) (L : List (List Int)) : Prop := Lists w g v L ∧ SitsL w v L
theorem Rows2.below {w w' : World} {g : Nat} {v : Value} {L : List (List Int)} (h : Rows2 w g v L) (hb : Below w.heap.size w w') : Rows2 w' g v L := ⟨h.1.below hb, h.2.below hb⟩
theorem Rows2.of {w : World} {g : Nat} {U : Nat → Value} {L : List (List Int)} (h : Copied w g U L L.length) (hr : w.rowIs g 28 L.length U) (hm : L.length ≤ 1048576) : Rows2 w g (.slice (some ⟨g, 0, none⟩) L.length L.length) L := by
  refine ⟨⟨(List.range L.length).map U, by simp, ownsRow_of_rowIs hr (by unfold maxLen; omega), fun i h1 h2 => ?_⟩, g, 0, L.length, rfl, Nat.le_refl _, by omega, hr.lt, fun i hi => ?_⟩
  · obtain ⟨q, _, _, h3⟩ := h i h1 h1
    simpa using h3
  · obtain ⟨q, h1, _, h3⟩ := h i hi hi
    refine ⟨U i, by rw [Nat.zero_add]; exact hr.cell hi, ?_⟩
    rw [h1] at h3 ⊢
    exact h3.sits
theorem run_make_intss (n : Nat) (hn : n ≤ 1048576) (w : World) : Sem.run Try.prog (Instr.makeSlice 22 (.int .i64 n) (.int .i64 n)) w = .ok (.slice (some ⟨w.heap.size, 0, none⟩) n n) (w.alloc (.cells (madeCells #[.slice none 0 0] n) 28)) :=
  run_make_row' 22 28 (.slice none 0 0) 24 Try.underlying22 Try.infoL rfl .i64 .i64 n (by omega) (by omega) w
theorem toIntSS_any (v : Value) (L : List (List Int)) (w : World) (h : ReadsL w v L) (hl : L.length ≤ 1048576) (hl2 : ∀ i (hi : i < L.length), L[i].length ≤ 1048576) :
    Calls Try.prog 24 #[v] w fun e w' => e = .returned (.slice (some ⟨w.heap.size, 0, none⟩) L.length L.length) ∧ Rows2 w' w.heap.size (.slice (some ⟨w.heap.size, 0, none⟩) L.length L.length) L ∧ Below w.heap.size w w' := by
  obtain ⟨ao, c, rfl, hc1, hm, h⟩ := h
  unfold maxLen at hm
  have hmk := run_make_intss L.length hl w
  have hr0 := World.rowIs_made w (.slice none 0 0) L.length 28
  have hB0 : Below w.heap.size w (w.alloc (.cells (madeCells #[.slice none 0 0] L.length) 28)) := (Below.refl _ _).alloc (Nat.le_refl _) _
  have hS0 : w.heap.size < (w.alloc (.cells (madeCells #[.slice none 0 0] L.length) 28)).heap.size := by simp
  obtain ⟨wm, hwm⟩ : ∃ wm, wm = w.alloc (.cells (madeCells #[.slice none 0 0] L.length) 28) := ⟨_, rfl⟩
  rw [← hwm] at hmk hr0 hB0 hS0
  clear hwm
  have HL2 := hid hl2
  have HR0 := hid hr0
  have HB0 := hid hB0
  clear hl2 hr0 hB0
  rcases h with h | ⟨b, off, rfl, hb, hc⟩
  · have H := hid h
    clear h
    go_enter Try.func24, Try.ntmps24
    go_wp2_with fail
    go_loopw [4] (fun i wr => i = .int .i64 0 ∧ wr = wm) (fun i _ => L.length - (intOf i).toNat)
    case atStart => exact ⟨rfl, rfl⟩
    case round =>
      obtain ⟨rfl, rfl⟩ := hrel
      have hlt : ¬ (0 : Int) < (L.length : Int) := by rw [H.out]; simp
      go_wp2_with fail
      go_ret
      exact ⟨rfl, Rows2.of (U := fun _ => .slice none 0 0) (fun i hi => absurd hi (by rw [H.out]; simp)) HR0.out hl, HB0.out⟩
  · have HC := hid hc
    clear hc
    go_enter Try.func24, Try.ntmps24
    go_wp2_with fail
    go_loopw [4] (fun i wr => ∃ k : Nat, k ≤ L.length ∧ i = .int .i64 k ∧ (∃ U : Nat → Value, wr.rowIs w.heap.size 28 L.length U ∧ Copied wr w.heap.size U L k) ∧ Below w.heap.size w wr ∧ w.heap.size < wr.heap.size) (fun i _ => L.length - (intOf i).toNat)
    case atStart => exact ⟨0, Nat.zero_le _, rfl, ⟨_, HR0.out, fun i hi hk => absurd hk (by omega)⟩, HB0.out, hS0⟩
    case round =>
      obtain ⟨k, hk, rfl, ⟨U, hrow, hcop⟩, hbel, hsz⟩ := hrel
      by_cases hlt : k < L.length
      · obtain ⟨z, hz, hread⟩ := HC.out k hlt
        have hcx : wr.cell? ⟨b, off + k, none⟩ = some z := (hbel.cell (by exact hb)).trans hz
        have HRD := hid (hread.below hbel)
        obtain ⟨l, hll⟩ : ∃ l, l = L[k] := ⟨_, rfl⟩
        have hl2 := HL2.out k hlt
        rw [← hll] at HRD hl2
        have HLL := hid hll
        have HROW := hid hrow
        have HCOP := hid hcop
        have HB := hid hbel
        clear hread hz hrow hcop hbel hll
        go_wp2_with (first | (go_at_call 15; refine (toIntS_any _ l _ HRD.out hl2).mono ?_; rintro e w1 ⟨rfl, hown, hb1⟩; have HO := hid hown; have HB1 := hid hb1; clear hown hb1; have HR1 := hid (rowIs_below HROW.out HB1.out hsz); obtain ⟨zz, hcz⟩ : ∃ zz, w1.cell? ⟨w.heap.size, k, none⟩ = some zz := ⟨_, HR1.out.cell hlt⟩; have hfz := HR1.out.frozen k) | fail)
        have HG := hid (grownBy_setCellAt w1 w.heap.size k (.slice (some ⟨wr.heap.size, 0, none⟩) l.length l.length))
        have HR2 := hid (HR1.out.set k (.slice (some ⟨wr.heap.size, 0, none⟩) l.length l.length))
        have HC2 := hid (((HCOP.out.below HB1.out).kept HG.out).step (q := wr.heap.size) hlt hsz (by
          rw [← HLL.out]
          exact (HO.out.mono (by omega)).kept HG.out (.inr (by simp only [Value.ownBlock, ne_eq, Option.some.injEq]; omega))))
        have HBB := hid ((HB.out.trans (HB1.out.mono (by omega))).setCell (p := ⟨w.heap.size, k, none⟩) (Nat.le_refl _) (.slice (some ⟨wr.heap.size, 0, none⟩) l.length l.length))
        have hs1 := HB1.out.size
        go_roundw
        case rel => exact ⟨k + 1, by omega, by go_num, ⟨_, HR2.out, by rw [← HLL.out] at HC2; exact HC2.out⟩, HBB.out, by simp; omega⟩
        case measure => simp [intOf]; omega
      · obtain rfl : k = L.length := by omega
        have HROW := hid hrow
        have HCOP := hid hcop
        have HB := hid hbel
        clear hrow hcop hbel
        go_wp2_with fail
        go_ret
        exact ⟨rfl, Rows2.of HCOP.out HROW.out hl, HB.out⟩
end Go.Proofs.Ytijjdidljoicfab

/- Contracts: isChoice, areBits, without, exchanged, impl.ExchangeOf, areCombinations. Conditions: the slices read as lists (of lists). -/
namespace Go.Proofs.Ytijjdidljoicfab
open Go.RowKit
set_option linter.unusedVariables false

theorem isChoice_any (n k : Int) (w : World) : Calls Try.prog 30 #[.int .i64 n, .int .i64 k] w fun e w' => e = .returned (.bool (szB n k)) ∧ w = w' := by
  cases h : inB n 0 12 with
  | true =>
    have H := hid h
    have HV := hid (show szB n k = inB k 0 n by rw [szB, h]; rfl)
    clear h
    by_cases h1 : 0 ≤ k
    · by_cases h2 : k ≤ n
      · have HW := hid (show szB n k = true by rw [HV.out]; exact inB_iff.2 ⟨h1, h2⟩)
        go_enter Try.func30, Try.ntmps30
        go_wp2_with (first | (go_at_call 72; refine (isItemCount_any _ _).mono ?_; rintro e w' ⟨rfl, rfl⟩; rw [H.out]) | fail)
        go_ret
        exact ⟨ret_bool (by first | (rw [HW.out]; done) | (rw [HW.out]; simp; omega)), rfl⟩
      · have HW := hid (show szB n k = false by rw [HV.out]; exact Bool.eq_false_iff.2 (fun h => by have := inB_iff.1 h; omega))
        go_enter Try.func30, Try.ntmps30
        go_wp2_with (first | (go_at_call 72; refine (isItemCount_any _ _).mono ?_; rintro e w' ⟨rfl, rfl⟩; rw [H.out]) | fail)
        go_ret
        exact ⟨ret_bool (by first | (rw [HW.out]; done) | (rw [HW.out]; simp; omega)), rfl⟩
    · have HW := hid (show szB n k = false by rw [HV.out]; exact Bool.eq_false_iff.2 (fun h => by have := inB_iff.1 h; omega))
      go_enter Try.func30, Try.ntmps30
      go_wp2_with (first | (go_at_call 72; refine (isItemCount_any _ _).mono ?_; rintro e w' ⟨rfl, rfl⟩; rw [H.out]) | fail)
      go_ret
      exact ⟨ret_bool (by first | (rw [HW.out]; done) | (rw [HW.out]; simp; omega)), rfl⟩
  | false =>
    have H := hid h
    have HV := hid (show szB n k = false by rw [szB, h]; rfl)
    clear h
    go_enter Try.func30, Try.ntmps30
    go_wp2_with (first | (go_at_call 72; refine (isItemCount_any _ _).mono ?_; rintro e w' ⟨rfl, rfl⟩; rw [H.out]) | fail)
    go_ret
    exact ⟨ret_bool HV.out.symm, rfl⟩
theorem areBits_any (v : Value) (xs : List Int) (w : World) (h : Sits w v xs) (hl : xs.length ≤ 1048576) : Calls Try.prog 76 #[v] w fun e w' => e = .returned (.bool (isBits xs)) ∧ w = w' := by
  have HR := hid h.reads
  obtain ⟨b, off, c, rfl, hc1, hm, hb, hc⟩ := h
  clear hc
  by_cases h12 : xs.length ≤ 12
  · have HV := hid (show isBits xs = belowB xs 2 by rw [isBits, decide_eq_true h12]; rfl)
    have HI := hid (show inB (xs.length : Int) 0 12 = true from inB_iff.2 ⟨by omega, by omega⟩)
    go_enter Try.func76, Try.ntmps76
    go_wp2_with (first | (go_at_call 72; refine (isItemCount_any _ _).mono ?_; rintro e w' ⟨rfl, rfl⟩; rw [HI.out]) | (go_at_call 92; refine (areBelow_any _ xs _ _ HR.out).mono ?_; rintro e w1 ⟨rfl, rfl⟩) | fail)
    go_ret
    exact ⟨ret_bool HV.out.symm, rfl⟩
  · have HV := hid (show isBits xs = false by rw [isBits, decide_eq_false h12]; rfl)
    have HI := hid (show inB (xs.length : Int) 0 12 = false from Bool.eq_false_iff.2 (fun h => by have := inB_iff.1 h; omega))
    go_enter Try.func76, Try.ntmps76
    go_wp2_with (first | (go_at_call 72; refine (isItemCount_any _ _).mono ?_; rintro e w' ⟨rfl, rfl⟩; rw [HI.out]) | fail)
    go_ret
    exact ⟨ret_bool HV.out.symm, rfl⟩
set_option maxHeartbeats 1000000 in
theorem without_any (v u : Value) (a b : List Int) (w : World) (h : Reads w v a) (h' : Reads w u b) (hl : a.length ≤ 1048576) :
    Calls Try.prog 67 #[v, u] w fun e w' => ∃ r, e = .returned r ∧ Own w' w.heap.size r (missL a b) ∧ Below w.heap.size w w' := by
  have HU := hid h'
  obtain ⟨i0, hi, hz0, hz1, hz2⟩ := info_parts Try.info3
  obtain ⟨ao, c, rfl, hc1, hm, h⟩ := h.view
  obtain ⟨wm, hrun, hown0, hgrow0⟩ := run_make_own (P := Try.prog) w w.heap.size 28 3 i0 (.int .i64 0) 1 Try.underlying28 hi hz0 hz1 .i64 .i64 a.length (by rw [hz2]; omega) (by unfold maxLen; omega) (Nat.le_refl _)
  have HO0 := hid (show Own wm w.heap.size (.slice (some ⟨w.heap.size, 0, none⟩) 0 a.length) [] from hown0)
  have HB0 := hid (Below.grown (Below.refl w.heap.size w) hgrow0 (Nat.le_refl _) (fun q hq => by cases hq))
  clear hown0 hgrow0
  rcases h with h | ⟨g, off, rfl, hb, hc⟩
  · have H := hid h
    have HM := hid (show missL a b = [] by rw [h]; rfl)
    clear h
    go_enter Try.func67, Try.ntmps67
    go_wp2_with fail
    clear hrun
    go_loopw [5, 7, 13] (fun ov _ i wr => i = .int .i64 0 ∧ wr = wm ∧ ov = .slice (some ⟨w.heap.size, 0, none⟩) 0 a.length) (fun _ _ i _ => a.length - (intOf i).toNat)
    case atStart => exact ⟨rfl, rfl, rfl⟩
    case round =>
      obtain ⟨rfl, rfl, rfl⟩ := hrel
      have hlt : ¬ (0 : Int) < (a.length : Int) := by rw [H.out]; simp
      go_wp2_with fail
      go_ret
      exact ⟨_, rfl, by rw [HM.out]; exact HO0.out, HB0.out⟩
  · have HC := hid hc
    clear hc h'
    go_enter Try.func67, Try.ntmps67
    go_wp2_with fail
    clear hrun
    go_loopw [5, 7, 13] (fun ov _ i wr => ∃ k : Nat, k ≤ a.length ∧ i = .int .i64 k ∧ Own wr w.heap.size ov (missL (a.take k) b) ∧ Below w.heap.size w wr) (fun _ _ i _ => a.length - (intOf i).toNat)
    case atStart => exact ⟨0, Nat.zero_le _, rfl, HO0.out, HB0.out⟩
    case round =>
      obtain ⟨k, hk, rfl, hown, hbel⟩ := hrel
      have HO := hid hown
      have HB := hid hbel
      have HUR := hid (HU.out.below hbel)
      have hsz := hbel.size
      by_cases hlt : k < a.length
      · have hcx : wr.cell? ⟨g, off + k, none⟩ = some (.int .i64 a[k]) := (hbel.cell (by exact hb)).trans (HC.out k hlt)
        have HLEN := hid (show (missL (a.take k) b).length ≤ 1048575 by have := missL_len (a.take k) b; simp at this; omega)
        obtain ⟨x, hx⟩ : ∃ x, x = a[k] := ⟨_, rfl⟩
        rw [← hx] at hcx
        cases hh : hasB b x with
        | true =>
          have HH := hid hh
          have HN := hid (missL_no (b := b) hlt (by rw [← hx]; exact hh))
          clear hown hbel hx hh
          go_wp2_with (first | (go_at_call 82; refine (Contains_any _ b x _ HUR.out).mono ?_; rintro e w1 ⟨rfl, rfl⟩; rw [HH.out]) | fail)
          go_roundw
          case rel => exact ⟨k + 1, by omega, by go_num, by rw [HN.out]; exact HO.out, HB.out⟩
          case measure => simp [intOf]; omega
        | false =>
          have HH := hid hh
          have HN := hid (show missL (a.take (k + 1)) b = missL (a.take k) b ++ [x] by rw [hx]; exact missL_yes (b := b) hlt (by rw [← hx]; exact hh))
          clear hown hbel hx hh
          obtain ⟨l, hl2⟩ : ∃ l, l = missL (a.take k) b := ⟨_, rfl⟩
          rw [← hl2] at HO HLEN HN
          have hln := HLEN.out
          go_wp2_with (first
            | (go_at_call 82; refine (Contains_any _ b x _ HUR.out).mono ?_; rintro e w1 ⟨rfl, rfl⟩; rw [HH.out])
            | (at_builtin; refine wpList_append_own _ rfl _ _ 28 rfl w.heap.size 3 i0 (.int .i64 0) 1 8 Try.underlying28 hi hz0 hz1 hz2 rfl (by decide) _ _ _ rfl (World.ownsRow.alloc HO.out.row _) ⟨wr.heap.size, 0, none⟩ 1 1 [.int .i64 x] rfl rfl (fun j y hj => new_cell1 j hj) (ints_one [x]) (by unfold maxLen; omega) (by omega) (by simp; omega) ?_; intro v1 w1 hown1 hgrow1 hn1; have HO1 := hid (Own.snoc hown1); have HB1 := hid ((HB.out.alloc hsz (.cells #[.int .i64 x] 3)).grown hgrow1 (by simp; omega) (fun q hq => (World.ownsRow.lt HO.out q hq).1)); clear hown1 hgrow1 hn1)
            | fail)
          go_roundw
          case rel => exact ⟨k + 1, by omega, by go_num, by rw [HN.out]; exact HO1.out, HB1.out⟩
          case measure => simp [intOf]; omega
      · obtain rfl : k = a.length := by omega
        rw [List.take_length] at HO
        clear hown hbel
        go_wp2_with fail
        go_ret
        exact ⟨_, rfl, HO.out, HB.out⟩
set_option maxHeartbeats 1000000 in
theorem exchanged_any (v u : Value) (a b : List Int) (w : World) (h : Reads w v a) (h' : Reads w u b) (hl : a.length ≤ 1048576) (hl' : b.length ≤ 1048576) :
    Calls Try.prog 81 #[v, u] w fun e w' => e = .returned (.tuple #[.int .i64 (exO a b), .int .i64 (exI a b), .bool (exB a b)]) ∧ Below w.heap.size w w' := by
  have HV := hid h
  have HU := hid h'
  clear h h'
  obtain ⟨p, hp⟩ : ∃ p, p = missL a b := ⟨_, rfl⟩
  obtain ⟨q, hq⟩ : ∃ q, q = missL b a := ⟨_, rfl⟩
  have HP := hid hp
  have HQ := hid hq
  have HEX := hid (show exB a b = (decide (p.length = 1) && decide (q.length = 1)) by rw [exB, ← hp, ← hq])
  have hpl : p.length ≤ 1048576 := by rw [hp]; exact Nat.le_trans (missL_len a b) hl
  have hql : q.length ≤ 1048576 := by rw [hq]; exact Nat.le_trans (missL_len b a) hl'
  clear hp hq
  by_cases h1 : p.length = 1
  · have hb1 : ((p.length : Int) != 1) = false := by simp [h1]
    by_cases h2 : q.length = 1
    · have hb2 : ((q.length : Int) != 1) = false := by simp [h2]
      obtain ⟨x, rfl⟩ := List.length_eq_one_iff.1 h1
      obtain ⟨y, rfl⟩ := List.length_eq_one_iff.1 h2
      have HE := hid (show exB a b = true by rw [HEX.out]; rfl)
      have HO := hid (show exO a b = x by rw [exO, if_pos HE.out, ← HP.out]; rfl)
      have HI := hid (show exI a b = y by rw [exI, if_pos HE.out, ← HQ.out]; rfl)
      clear h1 h2 hb1 hb2
      go_enter Try.func81, Try.ntmps81
      go_wp2_with fail
      refine (without_any _ _ a b _ HV.out HU.out hl).mono ?_
      rintro e w1 ⟨r1, rfl, ho1, hb1⟩
      have HU1 := hid (HU.out.below hb1)
      have HV1 := hid (HV.out.below hb1)
      have HB1 := hid hb1
      rw [← HP.out] at ho1
      have HR1 := hid ho1
      clear ho1 hb1
      go_wp2_with fail
      refine (without_any _ _ b a _ HU1.out HV1.out hl').mono ?_
      rintro e w2 ⟨r2, rfl, ho2, hb2⟩
      rw [← HQ.out] at ho2
      have ho1 := HR1.out.below hb2
      have HB2 := hid (Below_chain HB1.out hb2)
      clear hb2
      rcases ho1.form with ⟨_, hn⟩ | ⟨g1, c1, rfl, _, _, _, _, hcell1, _⟩
      · simp at hn
      rcases ho2.form with ⟨_, hn⟩ | ⟨g2, c2, rfl, _, _, _, _, hcell2, _⟩
      · simp at hn
      have hx := hcell1 0 (by simp)
      have hy := hcell2 0 (by simp)
      have hx : w2.cell? ⟨g1, 0, none⟩ = some (.int .i64 x) := hx
      have hy : w2.cell? ⟨g2, 0, none⟩ = some (.int .i64 y) := hy
      clear ho1 ho2 hcell1 hcell2
      go_wp2_with fail
      go_quiet (fail)
      go_wp2_with fail
      go_ret3
      exact ⟨ret_nnb3 HO.out.symm HI.out.symm HE.out.symm, below_drewN HB2.out _⟩
    · have hb2 : ((q.length : Int) != 1) = true := by simp; omega
      have HE := hid (show exB a b = false by rw [HEX.out, decide_eq_false h2, Bool.and_false])
      have HO := hid (show exO a b = 0 by rw [exO, if_neg (by rw [HE.out]; simp)])
      have HI := hid (show exI a b = 0 by rw [exI, if_neg (by rw [HE.out]; simp)])
      clear h1 h2
      go_enter Try.func81, Try.ntmps81
      go_wp2_with fail
      refine (without_any _ _ a b _ HV.out HU.out hl).mono ?_
      rintro e w1 ⟨r1, rfl, ho1, hb1'⟩
      have HU1 := hid (HU.out.below hb1')
      have HV1 := hid (HV.out.below hb1')
      have HB1 := hid hb1'
      rw [← HP.out] at ho1
      obtain ⟨ao1, c1, rfl⟩ := ho1.slice2
      clear ho1 hb1'
      go_wp2_with fail
      refine (without_any _ _ b a _ HU1.out HV1.out hl').mono ?_
      rintro e w2 ⟨r2, rfl, ho2, hb2'⟩
      rw [← HQ.out] at ho2
      obtain ⟨ao2, c2, rfl⟩ := ho2.slice2
      have HB2 := hid (Below_chain HB1.out hb2')
      clear hb2' ho2
      go_wp2_with fail
      go_ret3
      exact ⟨ret_nnb3 HO.out.symm HI.out.symm HE.out.symm, HB2.out⟩
  · have hb1 : ((p.length : Int) != 1) = true := by simp; omega
    have HE := hid (show exB a b = false by rw [HEX.out, decide_eq_false h1, Bool.false_and])
    have HO := hid (show exO a b = 0 by rw [exO, if_neg (by rw [HE.out]; simp)])
    have HI := hid (show exI a b = 0 by rw [exI, if_neg (by rw [HE.out]; simp)])
    clear h1
    go_enter Try.func81, Try.ntmps81
    go_wp2_with fail
    refine (without_any _ _ a b _ HV.out HU.out hl).mono ?_
    rintro e w1 ⟨r1, rfl, ho1, hb1'⟩
    have HU1 := hid (HU.out.below hb1')
    have HV1 := hid (HV.out.below hb1')
    have HB1 := hid hb1'
    rw [← HP.out] at ho1
    obtain ⟨ao1, c1, rfl⟩ := ho1.slice2
    clear ho1 hb1'
    go_wp2_with fail
    refine (without_any _ _ b a _ HU1.out HV1.out hl').mono ?_
    rintro e w2 ⟨r2, rfl, ho2, hb2'⟩
    rw [← HQ.out] at ho2
    obtain ⟨ao2, c2, rfl⟩ := ho2.slice2
    have HB2 := hid (Below_chain HB1.out hb2')
    clear hb2' ho2
    go_wp2_with fail
    go_ret3
    exact ⟨ret_nnb3 HO.out.symm HI.out.symm HE.out.symm, HB2.out⟩
theorem filter_ex {a b : List Int} (hx : exB a b = true) (ha : a.Nodup) (hb : b.Nodup) : a.length = b.length := by
  simp only [exB, Bool.and_eq_true, decide_eq_true_eq] at hx
  have h1 : ∀ l m : List Int, l.length = (missL l m).length + (l.filter (fun x => hasB m x)).length := by
    intro l m
    unfold missL
    induction l with
    | nil => rfl
    | cons x t ih =>
      by_cases h : hasB m x = true
      · simp [h]; omega
      · have h : hasB m x = false := by simpa using h
        simp [h]; omega
  have h2 : ∀ l m : List Int, l.Nodup → m.Nodup → (l.filter (fun x => hasB m x)).length ≤ (m.filter (fun x => hasB l x)).length := by
    intro l m hl hm
    have hn := hl.sublist (List.filter_sublist (p := fun x => hasB m x))
    obtain ⟨L, hL⟩ : ∃ L, L = l.filter (fun x => hasB m x) := ⟨_, rfl⟩
    obtain ⟨M, hM⟩ : ∃ M, M = m.filter (fun x => hasB l x) := ⟨_, rfl⟩
    rw [← hL] at hn ⊢
    rw [← hM]
    have hs : ∀ x ∈ L, x ∈ M := fun x hx => by
      rw [hL, List.mem_filter, hasB_iff] at hx
      rw [hM, List.mem_filter, hasB_iff]
      exact ⟨hx.2, hx.1⟩
    clear hL hM
    induction L generalizing M with
    | nil => simp
    | cons x t ih =>
      rw [List.nodup_cons] at hn
      have hxm := hs x (by simp)
      have h5 := (List.perm_cons_erase hxm).length_eq
      have h6 := ih hn.2 (M.erase x) (fun y hy => (List.mem_erase_of_ne (fun e => hn.1 (by rw [← e]; exact hy))).2 (hs y (by simp [hy])))
      simp at h5 ⊢
      omega
  have h3 := h1 a b
  have h4 := h1 b a
  have h5 := h2 a b ha hb
  have h6 := h2 b a hb ha
  omega
end Go.Proofs.Ytijjdidljoicfab

/- Contracts: exchangesUpTo, its closure, anyExchanges, adjacentExchanges, leadTo. Conditions: the slices read as lists of at most 12 numbers in 0..12. -/
namespace Go.Proofs.Ytijjdidljoicfab
open Go.RowKit
set_option linter.unusedVariables false

/-- the struct whose closure has the pointer p -/
def exV (p : Addr) : Value := .agg #[.func (.func 94) #[] #[.pointer (some p)]]
theorem exchangesUpTo_any (m : Int) (w : World) :
    Calls Try.prog 80 #[.int .i64 m] w fun e w' => ∃ p : Addr, e = .returned (exV p) ∧ p.block = w.heap.size ∧ w'.cell? p = some (.int .i64 m) ∧ Below w.heap.size w w' := by
  have hz : (w.alloc (.cells #[.int .i64 m] 3)).heap.size = w.heap.size + 1 := by simp
  have hcx : ((w.alloc (.cells #[.int .i64 m] 3)).alloc (.cells #[.nilFunc] 61)).cell? ⟨w.heap.size + 1, 0, none⟩ = some .nilFunc := by rw [← hz]; simp
  have hfx : ((w.alloc (.cells #[.int .i64 m] 3)).alloc (.cells #[.nilFunc] 61)).frozen? ⟨w.heap.size + 1, 0, none⟩ = false := by
    have hr := World.rowIs_alloc (w.alloc (.cells #[.int .i64 m] 3)) #[.nilFunc] 61 (fun _ => .nilFunc) (fun i hi => by
      have h : i = 0 := by simp at hi; exact hi
      subst h; rfl)
    have := hr.frozen 0
    rwa [hz] at this
  have HB := hid (show Below w.heap.size w ((w.alloc (.cells #[.int .i64 m] 3)).alloc (.cells #[.func (.func 94) #[] #[.pointer (some ⟨w.heap.size, 0, none⟩)]] 61)) from
    ((Below.refl w.heap.size w).alloc (Nat.le_refl _) _).alloc (by simp) _)
  have HC := hid (show ((w.alloc (.cells #[.int .i64 m] 3)).alloc (.cells #[.func (.func 94) #[] #[.pointer (some ⟨w.heap.size, 0, none⟩)]] 61)).cell? ⟨w.heap.size, 0, none⟩ = some (.int .i64 m) from by simp)
  go_enter Try.func80, Try.ntmps80
  go_wp2
  go_returns
  exact ⟨⟨w.heap.size, 0, none⟩, rfl, rfl, HC.out, HB.out⟩
theorem near_any (o i m : Int) (p : Addr) (w : World) (hc : w.cell? p = some (.int .i64 m)) (h1 : -100000 ≤ o - i) (h2 : o - i ≤ 100000) :
    Calls Try.prog 94 #[.int .i64 o, .int .i64 i, .pointer (some p)] w fun e w' => e = .returned (.bool (decide (apV o i ≤ m))) ∧ ∃ q, w' = w.drewN q := by
  have hc2 : w.drew.cell? p = some (.int .i64 m) := hc
  go_enter Try.func94, Try.ntmps94
  go_wp2_with fail
  go_quiet ((go_at_call 53; exact Calls.quiet_of_same ((apart_any _ _ _ h1 h2).mono fun _ _ h => ⟨h.1, h.2.symm⟩)))
  go_wp2_with fail
  go_returns
  exact ⟨rfl, _, rfl⟩
/-- what counts as an exchange by at most m -/
def ldP (m : Int) (a b : List Int) : Bool := exB a b && decide (apV (exO a b) (exI a b) ≤ m)
def ldAt (m : Int) (L : List (List Int)) (i : Nat) : Bool := i == 0 || ldP m (L.getD (i - 1) []) (L.getD i [])
abbrev exNil : Obj := .cells #[.nilFunc] 61
theorem nil_ex (w : World) : (w.alloc exNil).rowIs w.heap.size 61 1 (fun _ => .nilFunc) :=
  World.rowIs_alloc w #[.nilFunc] 61 _ (fun i hi => by
    have h : i = 0 := by simp at hi; exact hi
    subst h; rfl)
theorem adjacentExchanges_any (w : World) :
    Calls Try.prog 54 #[] w fun e w' => ∃ p, e = .returned (exV p) ∧ w'.cell? p = some (.int .i64 1) ∧ Below w.heap.size w w' := by
  have HBX := hid (nil_ex w)
  have HBA := hid ((Below.refl w.heap.size w).alloc (Nat.le_refl _) exNil)
  go_enter Try.func54, Try.ntmps54
  go_wp2_with (first | (go_at_call 80; refine (exchangesUpTo_any 1 _).mono ?_; rintro e w1 ⟨p, rfl, hp, hc, hb⟩; dsimp only [exV]; have HC := hid hc; have HB := hid hb; have hr1 := HBX.out.of_block (hb.block w.heap.size HBX.out.lt); have hc1 := hr1.cell (i := 0) (by omega); have hf1 := hr1.frozen 0; have HG := hid (grownBy_setCellAt w1 w.heap.size 0 (.func (.func 94) #[] #[.pointer (some p)])); have HP := hid hp; have hcs : (w1.setCell ⟨w.heap.size, 0, none⟩ (.func (.func 94) #[] #[.pointer (some p)])).cell? ⟨w.heap.size, 0, none⟩ = some (.func (.func 94) #[] #[.pointer (some p)]) := (hr1.set 0 (.func (.func 94) #[] #[.pointer (some p)])).cell (i := 0) (by omega); clear hc hb hr1 hp) | fail)
  refine bodyPost_ret (by simp [results, Try.results54, hcs, go_sem]; try rfl) rfl ?_
  refine ⟨p, rfl, ?_, ?_⟩
  · refine HG.out.cell HC.out ?_
    rw [HP.out]
    simp
  · exact (Below_chain HBA.out HB.out).setCell (p := ⟨w.heap.size, 0, none⟩) (Nat.le_refl _) _
theorem cell_below {w w' : World} {p : Addr} {x : Value} (h : w.cell? p = some x) (hb : Below w.heap.size w w') : w'.cell? p = some x :=
  (hb.cell (World.block_lt_of_cell? w p h)).trans h
abbrev exO1 (p : Addr) : Obj := .cells #[.func (.func 94) #[] #[.pointer (some p)]] 61
theorem ex_cell (w : World) (p : Addr) : (w.alloc (exO1 p)).cell? ⟨w.heap.size, 0, none⟩ = some (.func (.func 94) #[] #[.pointer (some p)]) := by simp
set_option maxHeartbeats 1000000 in
theorem leadTo_any (p : Addr) (m : Int) (v u : Value) (a b : List Int) (w : World) (hc : w.cell? p = some (.int .i64 m)) (h : Reads w v a) (h' : Reads w u b) (ha : fewL a) (hb : fewL b) :
    Calls Try.prog 56 #[exV p, v, u] w fun e w' => e = .returned (.bool (ldP m a b)) ∧ Below w.heap.size w w' := by
  have hba : Below w.heap.size w (w.alloc (exO1 p)) := (Below.refl w.heap.size w).alloc (Nat.le_refl _) _
  have HV := hid (h.below hba)
  have HU := hid (h'.below hba)
  have HC := hid (cell_below hc hba)
  have HX0 := hid (ex_cell w p)
  have HBA := hid hba
  have r1 := exO_range (b := b) ha
  have r2 := exI_range (a := a) hb
  have HLA := hid (show a.length ≤ 1048576 by have := ha.1; omega)
  have HLB := hid (show b.length ≤ 1048576 by have := hb.1; omega)
  obtain ⟨o, ho⟩ : ∃ o, o = exO a b := ⟨_, rfl⟩
  obtain ⟨i, hi⟩ : ∃ i, i = exI a b := ⟨_, rfl⟩
  have HO := hid ho
  have HI := hid hi
  rw [← ho] at r1
  rw [← hi] at r2
  obtain ⟨ao1, c1, rfl, _, _, _⟩ := h.view
  obtain ⟨ao2, c2, rfl, _, _, _⟩ := h'.view
  clear h h' hc ho hi ha hb hba
  unfold exV
  cases hx : exB a b with
  | true =>
    have HX := hid hx
    have HP := hid (show ldP m a b = decide (apV o i ≤ m) by rw [ldP, hx, ← HO.out, ← HI.out]; rfl)
    clear hx
    go_enter Try.func56, Try.ntmps56
    go_wp2_with (first
      | (go_at_call 81; refine (exchanged_any _ _ a b _ HV.out HU.out HLA.out HLB.out).mono ?_; rintro e w1 ⟨rfl, hb1⟩; rw [HX.out, ← HO.out, ← HI.out]; have HB1 := hid (Below_chain HBA.out hb1); have HC1 := hid (cell_below HC.out hb1); have hx1 := cell_below HX0.out hb1; clear hb1)
      | (go_at_call 94; refine (near_any o i m p _ HC1.out (by omega) (by omega)).mono ?_; rintro e w2 ⟨rfl, hq2⟩; have HB2 := hid (Below_chain HB1.out (Drew.below hq2 w1.heap.size)); clear hq2)
      | fail)
    go_returns
    exact ⟨ret_bool HP.out.symm, HB2.out⟩
  | false =>
    have HX := hid hx
    have HP := hid (show ldP m a b = false by rw [ldP, hx]; rfl)
    clear hx
    go_enter Try.func56, Try.ntmps56
    go_wp2_with (first
      | (go_at_call 81; refine (exchanged_any _ _ a b _ HV.out HU.out HLA.out HLB.out).mono ?_; rintro e w1 ⟨rfl, hb1⟩; rw [HX.out]; have HB1 := hid (Below_chain HBA.out hb1); clear hb1)
      | fail)
    go_returns
    exact ⟨ret_bool HP.out.symm, HB1.out⟩
theorem ap_abs (a b : Int) : apV a b = absW (a - b) := by
  unfold apV absW
  split <;> omega
theorem ld_near1 (a b : List Int) : ldP 1 a b = nearP 1 a b := by rw [ldP, nearP, ap_abs]
end Go.Proofs.Ytijjdidljoicfab
