/- Contracts: chNear and chAll. Conditions: the slice reads as a list of lists of at most 12 numbers in 0..12. -/
import Derived.Test.YtkphbelgamfmnaaCh2
namespace Go.Proofs.Ytkphbelgamfmnaa
open Go.RowKit
set_option linter.unusedVariables false

def nearP (far : Int) (a b : List Int) : Bool := exB a b && decide (absW (exO a b - exI a b) ≤ far)
def nearAt (far : Int) (L : List (List Int)) (i : Nat) : Bool := i == 0 || nearP far (L.getD (i - 1) []) (L.getD i [])
def nearL (far : Int) (L : List (List Int)) : Bool := allTo L.length (nearAt far L)
/-- short lists of small numbers -/
def fewL (l : List Int) : Prop := l.length ≤ 12 ∧ ∀ x ∈ l, 0 ≤ x ∧ x ≤ 12
theorem few_head {l m : List Int} (h : fewL l) : 0 ≤ (missL l m).getD 0 0 ∧ (missL l m).getD 0 0 ≤ 12 := by
  cases hm : missL l m with
  | nil => simp
  | cons x t =>
    have hx : x ∈ missL l m := by rw [hm]; simp
    have := h.2 x (List.mem_filter.1 hx).1
    simpa using this
theorem exO_range {a b : List Int} (h : fewL a) : 0 ≤ exO a b ∧ exO a b ≤ 12 := by
  unfold exO; split
  · exact few_head h
  · omega
theorem exI_range {a b : List Int} (h : fewL b) : 0 ≤ exI a b ∧ exI a b ≤ 12 := by
  unfold exI; split
  · exact few_head h
  · omega
theorem few_of_comb {n : Int} {l : List Int} (h : combB n l = true) : fewL l := by
  obtain ⟨h1, h2, h3, h4⟩ := combB_elem h
  exact ⟨h3, fun x hx => by have := h4 x hx; omega⟩
theorem few_of_chl {n : Int} {L : List (List Int)} (h : chlB n L = true) : ∀ l ∈ L, fewL l := by
  intro l hl
  simp only [chlB, Bool.and_eq_true] at h
  obtain ⟨i, hi, rfl⟩ := List.mem_iff_getElem.1 hl
  have := (allTo_iff _ _).1 h.1 i hi
  rw [combAt, getDL2 hi] at this
  exact few_of_comb this
set_option maxHeartbeats 2000000 in
theorem chNear_any (v : Value) (L : List (List Int)) (far : Int) (base : Nat) (w : World) (h : Lists w base v L) (hf : ∀ l ∈ L, fewL l) (hL : L.length ≤ 100000) :
    Calls Try.prog 41 #[v, .int .i64 far] w fun e w' => e = .returned (.bool (nearL far L)) ∧ Below w.heap.size w w' := by
  rcases h.form with ⟨rfl, rfl⟩ | ⟨g, cap, rfl, _, hg, hc1, hm, hc⟩
  · go_enter Try.func41, Try.ntmps41
    go_wp2_with fail
    refine wp_loop_rounds 1 ?_
    rw [rounds_succ]
    go_wp2_with fail
    go_ret
    exact ⟨rfl, Below.refl _ _⟩
  · have HC := hid hc
    have HF := hid hf
    clear hc h hf
    go_enter Try.func41, Try.ntmps41
    go_wp2_with fail
    go_loopw [5, 6, 7, 8] (fun i _ _ _ wr => ∃ j : Nat, (j + 1 ≤ L.length ∨ L.length = 0) ∧ j ≤ 100000 ∧ i = .int .i64 ((j : Int) + 1) ∧ allTo (j + 1) (nearAt far L) = true ∧ Below w.heap.size w wr) (fun i _ _ _ _ => L.length - (intOf i).toNat)
    case atStart => exact ⟨0, by omega, by omega, rfl, rfl, Below.refl _ _⟩
    case round =>
      obtain ⟨j, hj, hj2, rfl, hnb, hbel⟩ := hrel
      have HNB := hid hnb
      have HB := hid hbel
      clear hnb
      by_cases hlt : j + 1 < L.length
      · have hj1 : j < L.length := by omega
        obtain ⟨z, hz, hown⟩ := HC.out j hj1
        obtain ⟨z', hz', hown'⟩ := HC.out (j + 1) hlt
        have hcx : wr.drew.cell? ⟨g, j, none⟩ = some z := (hbel.cell (by exact hg)).trans hz
        have hcy : wr.drew.cell? ⟨g, j + 1, none⟩ = some z' := (hbel.cell (by exact hg)).trans hz'
        have hgr : g < wr.heap.size := Nat.lt_of_lt_of_le hg hbel.size
        have HZ := hid (hown.reads.below hbel)
        have HZ' := hid (hown'.reads.below hbel)
        obtain ⟨l, hl⟩ : ∃ l, l = L[j] := ⟨_, rfl⟩
        obtain ⟨l', hl'⟩ : ∃ l, l = L[j + 1] := ⟨_, rfl⟩
        have f1 : fewL l := by rw [hl]; exact HF.out _ (List.getElem_mem _)
        have f2 : fewL l' := by rw [hl']; exact HF.out _ (List.getElem_mem _)
        rw [← hl] at HZ
        rw [← hl'] at HZ'
        have HNK := hid (show nearAt far L (j + 1) = nearP far l l' by
          unfold nearAt
          rw [getDL2 hlt, show j + 1 - 1 = j from rfl, getDL2 hj1, ← hl, ← hl']
          rfl)
        have r1 := exO_range (b := l') f1
        have r2 := exI_range (a := l) f2
        have hl1 : l.length ≤ 1048576 := by have := f1.1; omega
        have hl2 : l'.length ≤ 1048576 := by have := f2.1; omega
        obtain ⟨p, hp⟩ : ∃ p, p = exO l l' := ⟨_, rfl⟩
        obtain ⟨q, hq⟩ : ∃ q, q = exI l l' := ⟨_, rfl⟩
        obtain ⟨o, ho⟩ : ∃ o, o = exB l l' := ⟨_, rfl⟩
        have HP := hid hp
        have HQ := hid hq
        have HO := hid ho
        rw [← hp] at r1
        rw [← hq] at r2
        have HNP := hid (show nearP far l l' = (o && decide (absW (p - q) ≤ far)) by rw [nearP, ← hp, ← hq, ← ho])
        obtain ⟨d, hd⟩ : ∃ d, d = p - q := ⟨_, rfl⟩
        have hwd : IntKind.i64.wrap (p - q) = d := by rw [hd]; exact IntWalk.i64_in _ (by omega)
        have hd1 : -100000 ≤ d := by omega
        have hd2 : d ≤ 100000 := by omega
        rw [← hd] at HNP
        obtain ⟨a, ha⟩ : ∃ a, a = absW d := ⟨_, rfl⟩
        have HAA := hid ha
        rw [← ha] at HNP
        have h0k : (0 : Int) ≤ (j : Int) := by omega
        have hkl : (j : Int) < (L.length : Int) := by omega
        have h0k2 : (0 : Int) ≤ (j : Int) + 1 := by omega
        have hkl2 : (j : Int) + 1 < (L.length : Int) := by omega
        have hww : IntKind.i64.wrap ((j : Int) + 1 - 1) = (j : Int) := by rw [show (j : Int) + 1 - 1 = j by omega]; exact IntWalk.i64_in _ (by omega)
        have hwj : IntKind.i64.wrap (j : Int) = (j : Int) := IntWalk.i64_in _ (by omega)
        have htn : ((j : Int) + 1).toNat = j + 1 := by omega
        clear hz hz' hown hown' hl hl' f1 f2 hp hq ho hd ha hbel
        go_wp2_with fail
        go_region_held3 (fun w' => w'.cell? ⟨g, j, none⟩ = some z ∧ w'.cell? ⟨g, j + 1, none⟩ = some z')
          (first | exact ⟨hcx, hcy⟩ | exact ⟨(HB1.out.cell (by exact hgr)).trans hcx, (HB1.out.cell (by exact hgr)).trans hcy⟩ | go_keep | fail)
          (first
            | (go_at_call 62; refine (chExchange_any _ _ l l' _ ?_ ?_ hl1 hl2).mono ?_; (exact HZ.out.below (Below.refl _ _).drew); (exact HZ'.out.below (Below.refl _ _).drew); rintro e w1 ⟨rfl, hb1⟩; have HB1 := hid (Below_chain (Below.refl wr.heap.size wr).drew hb1); clear hb1; rw [← HP.out, ← HQ.out, ← HO.out])
            | fail)
        all_goals
          cases o with
          | false =>
            have HN := hid (show nearL far L = false from allTo_no hlt (by rw [HNK.out, HNP.out]; rfl))
            go_wp2_with fail
            go_ret
            exact ⟨ret_bool HN.out.symm, Below_chain HB.out HB1.out⟩
          | true =>
            by_cases haf : far < a
            · have HN := hid (show nearL far L = false from allTo_no hlt (by rw [HNK.out, HNP.out, decide_eq_false (by omega)]; rfl))
              go_wp2_with (first | (go_at_call 54; refine (l1AbsW_any d _ hd1 hd2).mono ?_; rintro e w2 ⟨rfl, rfl⟩; rw [← HAA.out]) | fail)
              go_ret
              exact ⟨ret_bool HN.out.symm, Below_chain HB.out HB1.out⟩
            · have HN := hid (show nearAt far L (j + 1) = true by rw [HNK.out, HNP.out, decide_eq_true (by omega)]; rfl)
              have haf2 : a ≤ far := by omega
              go_wp2_with (first | (go_at_call 54; refine (l1AbsW_any d _ hd1 hd2).mono ?_; rintro e w2 ⟨rfl, rfl⟩; rw [← HAA.out]) | fail)
              go_roundw
              case rel => exact ⟨j + 1, by omega, by omega, by go_num, allTo_next HNB.out HN.out, Below_chain HB.out HB1.out⟩
              case measure => simp [intOf]; omega
      · have HN := hid (show nearL far L = true from (allTo_iff _ _).2 (fun i hi => (allTo_iff _ _).1 HNB.out i (by omega)))
        go_wp2_with fail
        go_ret
        exact ⟨ret_bool HN.out.symm, HB.out⟩
/-- are lists all combinations of n with k elements, each once -/
def hasAt (M L : List (List Int)) (i : Nat) : Bool := decide (0 ≤ placeIn (M.getD i []) L)
def chaB (n k : Nat) (L : List (List Int)) : Bool := allTo (allL n k 0).length (hasAt (allL n k 0) L) && decide (L.length = binom n k)
set_option maxHeartbeats 1000000 in
theorem chAll_any (n k : Nat) (hn : n ≤ 12) (hk : k ≤ n) (v : Value) (L : List (List Int)) (base : Nat) (w : World) (h : Lists w base v L) :
    Calls Try.prog 40 #[.int .i64 (n : Int), .int .i64 (k : Int), v] w fun e w' => e = .returned (.bool (chaB n k L)) ∧ Below w.heap.size w w' := by
  have HL := hid h
  obtain ⟨ao, c, hv⟩ : ∃ ao c, v = .slice ao L.length c := by
    rcases h.form with ⟨rfl, rfl⟩ | ⟨g, cap, rfl, _⟩
    · exact ⟨none, 0, rfl⟩
    · exact ⟨_, _, rfl⟩
  subst hv
  have HALL := hid (raAll_any n hn k 0 w (by omega) (by omega))
  obtain ⟨M, hM⟩ : ∃ M, M = allL n k 0 := ⟨_, rfl⟩
  have HCA := hid (show chaB n k L = (allTo M.length (hasAt M L) && decide (L.length = binom n k)) by rw [chaB, ← hM])
  rw [← hM] at HALL
  clear h hM
  go_enter Try.func40, Try.ntmps40
  go_wp2_with fail
  refine HALL.out.mono ?_
  rintro e w1 ⟨u, rfl, hu, hb1⟩
  have HL1 := hid (HL.out.below hb1)
  have HB1 := hid hb1
  have hsz := hb1.size
  clear hb1
  have hend : ((L.length : Int) == (binom n k : Int)) = decide (L.length = binom n k) := by
    by_cases he : L.length = binom n k
    · rw [he]; simp
    · rw [decide_eq_false he]; exact beq_false_of_ne (by omega)
  obtain ⟨bn, hbn⟩ : ∃ bn, bn = binom n k := ⟨_, rfl⟩
  have HBN := hid hbn
  rw [← hbn] at hend HCA
  obtain ⟨ok, hok⟩ : ∃ ok, ok = decide (L.length = bn) := ⟨_, rfl⟩
  rw [← hok] at hend HCA
  have HEND := hid hend
  clear hbn hok hend
  rcases hu.form with ⟨rfl, hnil⟩ | ⟨g, cap, rfl, _, hg, hc1, hm, hc⟩
  · have HN := hid hnil
    clear hu hnil
    go_wp2_with fail
    refine wp_loop_rounds 1 ?_
    rw [rounds_succ]
    go_wp2_with (first | (go_at_call 61; refine (raBinomial_any n k _ (by omega) (by omega)).mono ?_; rintro e w2 ⟨rfl, rfl⟩; rw [← HBN.out]) | fail)
    go_ret
    exact ⟨ret_bool (by rw [HCA.out, HN.out]; exact HEND.out), HB1.out⟩
  · have HC := hid hc
    clear hc hu
    go_wp2_with fail
    go_loopw [8, 13] (fun _ i wr => ∃ t : Nat, t ≤ M.length ∧ i = .int .i64 t ∧ allTo t (hasAt M L) = true ∧ Below w1.heap.size w1 wr) (fun _ i _ => M.length - (intOf i).toNat)
    case atStart => exact ⟨0, Nat.zero_le _, rfl, rfl, Below.refl _ _⟩
    case round =>
      obtain ⟨t, ht, rfl, hall, hbel⟩ := hrel
      have HA := hid hall
      have HB := hid hbel
      clear hall
      by_cases hlt : t < M.length
      · obtain ⟨z, hz, hown⟩ := HC.out t hlt
        have hcx : wr.cell? ⟨g, t, none⟩ = some z := (hbel.cell (by exact hg)).trans hz
        have HZ := hid (hown.reads.below hbel)
        have HLW := hid (HL1.out.below hbel)
        obtain ⟨l, hl⟩ : ∃ l, l = M[t] := ⟨_, rfl⟩
        rw [← hl] at HZ
        obtain ⟨p, hp⟩ : ∃ p, p = placeIn l L := ⟨_, rfl⟩
        have HP := hid hp
        have HK := hid (show hasAt M L t = decide (0 ≤ p) by rw [hasAt, getDL2 hlt, ← hl, ← hp])
        clear hz hown hbel hl hp
        by_cases hp0 : p < 0
        · have HN := hid (show chaB n k L = false by rw [HCA.out, allTo_no hlt (by rw [HK.out, decide_eq_false (by omega)])]; rfl)
          go_wp2_with (first | (go_at_call 60; refine (raPlace_any _ _ L l _ _ HLW.out HZ.out).mono ?_; rintro e w2 ⟨rfl, hb2⟩; rw [← HP.out]; have HB2 := hid hb2; clear hb2) | fail)
          go_ret
          exact ⟨ret_bool HN.out.symm, Below_chain HB1.out (Below_chain HB.out HB2.out)⟩
        · have HN := hid (show hasAt M L t = true by rw [HK.out, decide_eq_true (by omega)])
          have hp1 : 0 ≤ p := by omega
          go_wp2_with (first | (go_at_call 60; refine (raPlace_any _ _ L l _ _ HLW.out HZ.out).mono ?_; rintro e w2 ⟨rfl, hb2⟩; rw [← HP.out]; have HB2 := hid hb2; clear hb2) | fail)
          go_roundw
          case rel => exact ⟨t + 1, by omega, by go_num, allTo_next HA.out HN.out, Below_chain HB.out HB2.out⟩
          case measure => simp [intOf]; omega
      · obtain rfl : t = M.length := by omega
        clear hbel
        go_wp2_with (first | (go_at_call 61; refine (raBinomial_any n k _ (by omega) (by omega)).mono ?_; rintro e w2 ⟨rfl, rfl⟩; rw [← HBN.out]) | fail)
        go_ret
        exact ⟨ret_bool (by rw [HCA.out, HA.out]; exact HEND.out), Below_chain HB1.out HB.out⟩
end Go.Proofs.Ytkphbelgamfmnaa
