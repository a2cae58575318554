/- Contracts: moWhich, moAll. Conditions: the slices read as lists (of moves, of lists). -/
import Derived.Test.YteenmndgejeihaaMv6
namespace Go.Proofs.Yteenmndgejeihaa
open Go.RowKit
set_option linter.unusedVariables false

/-- the first number from t on, of r, at which p holds, or -1 -/
def firstI (p : Nat → Bool) : Nat → Nat → Int
  | _, 0 => -1
  | t, r + 1 => if p t = true then (t : Int) else firstI p (t + 1) r
theorem firstI_hit {p : Nat → Bool} {t r : Nat} (h : p t = true) : firstI p t (r + 1) = t := by rw [firstI, if_pos h]
theorem firstI_miss {p : Nat → Bool} {t r : Nat} (h : p t = false) : firstI p t (r + 1) = firstI p (t + 1) r := by rw [firstI, if_neg (by rw [h]; simp)]
theorem firstI_range (p : Nat → Bool) : ∀ r t, -1 ≤ firstI p t r ∧ firstI p t r < (t + r : Nat)
  | 0, t => by simp [firstI]; omega
  | r + 1, t => by
    have := firstI_range p r (t + 1)
    rw [firstI]
    split <;> omega
def ldsAt (a b : List Int) (ms : List Mv) (t : Nat) : Bool := decide (mvL (mGet ms t).1 (mGet ms t).2.1 (mGet ms t).2.2 a = b)
/-- which move leads from a to b, or -1 -/
def whI (a b : List Int) (ms : List Mv) : Int := firstI (ldsAt a b ms) 0 ms.length
theorem ret_int4 {a b : Int} (h : a = b) : Ending.returned (.int .i64 a) = Ending.returned (.int .i64 b) := by rw [h]
set_option maxHeartbeats 1000000 in
theorem moWhich_any (va vb v : Value) (a b : List Int) (ms : List Mv) (w : World) (ha : Reads w va a) (hb : Reads w vb b) (h : ReadsM w v ms) (hl : a.length ≤ 1000) (hg : ∀ t, t < ms.length → mvAt a.length ms t = true) :
    Calls Try.prog 120 #[va, vb, v] w fun e w' => e = .returned (.int .i64 (whI a b ms)) ∧ Below w.heap.size w w' := by
  have HRA := hid ha
  have HRB := hid hb
  have HG := hid hg
  obtain ⟨ao1, c1, rfl, _, _, _⟩ := ha.view
  obtain ⟨ao2, c2, rfl, _, _, _⟩ := hb.view
  obtain ⟨ao, c, rfl, hc1, hcm, h⟩ := h
  unfold maxLen at hcm
  clear ha hb hg
  rcases h with h | ⟨bb, off, rfl, hbb, hc⟩
  · subst h
    go_enter Try.func120, Try.ntmps120
    go_wp2_with fail
    refine wp_loop_rounds 1 ?_
    rw [rounds_succ]
    go_wp2_with fail
    go_returns
    exact ⟨rfl, Below.refl _ _⟩
  · have HC := hid hc
    clear hc
    go_enter Try.func120, Try.ntmps120
    go_wp2_with fail
    go_loopw [11] (fun i wr => ∃ t : Nat, t ≤ ms.length ∧ i = .int .i64 t ∧ whI a b ms = firstI (ldsAt a b ms) t (ms.length - t) ∧ Below w.heap.size w wr) (fun i _ => ms.length - (intOf i).toNat)
    case atStart => exact ⟨0, Nat.zero_le _, rfl, rfl, Below.refl _ _⟩
    case round =>
      obtain ⟨t, ht, rfl, hall, hbel⟩ := hrel
      have HA := hid hall
      have HB := hid hbel
      clear hall
      by_cases hlt : t < ms.length
      · obtain ⟨h0, h1, h2⟩ := HC.out t hlt
        have hc0 := (hbel.cell (p := ⟨bb, off + t * 3, none⟩) (by exact hbb)).trans h0
        have hc1' := (hbel.cell (p := ⟨bb, off + t * 3 + 1, none⟩) (by exact hbb)).trans h1
        have hc2 := (hbel.cell (p := ⟨bb, off + t * 3 + 2, none⟩) (by exact hbb)).trans h2
        have hmt := HG.out t hlt
        rw [mvAt, mGet_at hlt] at hmt
        have HK := hid (show ldsAt a b ms t = decide (mvL ms[t].1 ms[t].2.1 ms[t].2.2 a = b) by rw [ldsAt, mGet_at hlt])
        obtain ⟨m, hm⟩ : ∃ m, m = ms[t] := ⟨_, rfl⟩
        rw [← hm] at hc0 hc1' hc2 HK hmt
        obtain ⟨k, i, j⟩ := m
        simp only at hc0 hc1' hc2 HK hmt
        have HM := hid hmt
        have hba := (Below.refl wr.heap.size wr).alloc (Nat.le_refl _) (mvObj k i j)
        have HRA1 := hid (HRA.out.below (Below_chain HB.out hba))
        have HRB1 := hid (HRB.out.below (Below_chain HB.out hba))
        have HB0 := hid (Below_chain HB.out hba)
        have HR1 := hid (show ms.length - t = (ms.length - (t + 1)) + 1 by omega)
        clear h0 h1 h2 hbel hm hmt hba
        cases hs : ldsAt a b ms t with
        | true =>
          have HF := hid (show whI a b ms = (t : Int) by rw [HA.out, HR1.out, firstI_hit hs])
          rw [hs] at HK
          clear hs
          go_wp2_with (first
            | (go_at_call 79; refine (moApply_any _ a k i j _ HRA1.out hl HM.out).mono ?_; rintro e w2 ⟨u, rfl, ho2, hb2⟩; have HR2 := hid ho2.reads; have HRB2 := hid (HRB1.out.below hb2); have HB2 := hid (Below_chain HB0.out hb2); clear ho2 hb2)
            | (go_at_call 85; refine (l1Same_any _ _ (mvL k i j a) b _ HR2.out HRB2.out).mono ?_; rintro e w3 ⟨rfl, hb3⟩; rw [← HK.out]; have HB3 := hid (Below_chain HB2.out hb3); clear hb3)
            | fail)
          go_returns
          exact ⟨ret_int4 HF.out.symm, HB3.out⟩
        | false =>
          have HF := hid (show whI a b ms = firstI (ldsAt a b ms) (t + 1) (ms.length - (t + 1)) by rw [HA.out, HR1.out, firstI_miss hs])
          rw [hs] at HK
          clear hs
          go_wp2_with (first
            | (go_at_call 79; refine (moApply_any _ a k i j _ HRA1.out hl HM.out).mono ?_; rintro e w2 ⟨u, rfl, ho2, hb2⟩; have HR2 := hid ho2.reads; have HRB2 := hid (HRB1.out.below hb2); have HB2 := hid (Below_chain HB0.out hb2); clear ho2 hb2)
            | (go_at_call 85; refine (l1Same_any _ _ (mvL k i j a) b _ HR2.out HRB2.out).mono ?_; rintro e w3 ⟨rfl, hb3⟩; rw [← HK.out]; have HB3 := hid (Below_chain HB2.out hb3); clear hb3)
            | fail)
          go_roundw
          case rel => exact ⟨t + 1, by omega, by go_num, HF.out, HB3.out⟩
          case measure => simp [intOf]; omega
      · obtain rfl : t = ms.length := by omega
        have HF := hid (show whI a b ms = -1 by rw [HA.out, Nat.sub_self]; rfl)
        clear hbel
        go_wp2_with fail
        go_returns
        exact ⟨ret_int4 HF.out.symm, HB.out⟩
/-- The beginning of a list of lists. -/
theorem Lists.take {w : World} {base g cap : Nat} {L : List (List Int)} (h : Lists w base (.slice (some ⟨g, 0, none⟩) L.length cap) L) (k : Nat) (hk : k ≤ L.length) : Lists w base (.slice (some ⟨g, 0, none⟩) k cap) (L.take k) := by
  obtain ⟨vs, h1, h2, h3⟩ := h
  have hl : (L.take k).length = k := by simp; omega
  refine ⟨vs.take k, by simp [h1], ?_, fun i a b => ?_⟩
  · rw [hl]
    refine ⟨by simp; omega, ?_⟩
    rcases h2.2 with ⟨hn, _⟩ | ⟨g', cap', cur, e, hg, hgg, p1, p2, p3, p4⟩
    · simp at hn
    · simp only [Value.slice.injEq, Option.some.injEq, Addr.mk.injEq, and_true] at e
      obtain ⟨rfl, _, rfl⟩ := e
      refine .inr ⟨g, cap, cur, rfl, hg, hgg, by omega, p2, p3, ?_⟩
      have h5 := congrArg (List.take k) p4
      rw [List.take_take, Nat.mul_one, Nat.min_eq_left hk] at h5
      rw [Nat.mul_one, h5]
  · rw [List.getElem_take, List.getElem_take]
    exact h3 i (by rw [hl] at a; omega) (by simp at b; omega)
def newAt (L : List (List Int)) (t : Nat) : Bool := decide (placeIn (L.getD t []) (L.take t) < 0)
/-- all permutations of n, each once -/
def alB (n : Nat) (L : List (List Int)) : Bool := allTo L.length (newAt L) && decide (L.length = fact n)
set_option maxHeartbeats 1000000 in
theorem moAll_any (n : Nat) (v : Value) (L : List (List Int)) (base : Nat) (w : World) (h : Lists w base v L) (hn : n < 13) :
    Calls Try.prog 90 #[.int .i64 n, v] w fun e w' => e = .returned (.bool (alB n L)) ∧ Below w.heap.size w w' := by
  have HL := hid h
  rcases h.form with ⟨rfl, rfl⟩ | ⟨g, cap, rfl, _, hg, hc1, hm, hc⟩
  · have hf : ((0 : Int) == (fact n : Int)) = decide ((0 : Nat) = fact n) := by rw [Bool.eq_iff_iff]; simp; omega
    have HV := hid (show alB n [] = decide ((0 : Nat) = fact n) by rw [alB]; simp [allTo_zero])
    go_enter Try.func90, Try.ntmps90
    go_wp2_with fail
    refine wp_loop_rounds 1 ?_
    rw [rounds_succ]
    go_wp2_with (first | (go_at_call 64; refine (raFactorial_any n _ hn).mono ?_; rintro e w' ⟨rfl, rfl⟩) | fail)
    go_returns
    exact ⟨ret_bool (by rw [HV.out] <;> first | exact hf | simp), Below.refl _ _⟩
  · have HC := hid hc
    clear hc h
    go_enter Try.func90, Try.ntmps90
    go_wp2_with fail
    go_loopw [9] (fun i wr => ∃ k : Nat, k ≤ L.length ∧ i = .int .i64 k ∧ allTo k (newAt L) = true ∧ Below w.heap.size w wr) (fun i _ => L.length - (intOf i).toNat)
    case atStart => exact ⟨0, Nat.zero_le _, rfl, rfl, Below.refl _ _⟩
    case round =>
      obtain ⟨k, hk, rfl, hall, hbel⟩ := hrel
      have HA := hid hall
      have HB := hid hbel
      clear hall
      by_cases hlt : k < L.length
      · obtain ⟨z, hz, hown⟩ := HC.out k hlt
        have hcx : wr.cell? ⟨g, k, none⟩ = some z := (hbel.cell (by exact hg)).trans hz
        have HZ := hid (hown.reads.below hbel)
        obtain ⟨l, hl⟩ : ∃ l, l = L[k] := ⟨_, rfl⟩
        have HK := hid (show newAt L k = decide (placeIn l (L.take k) < 0) by rw [newAt, getDM hlt, hl])
        rw [← hl] at HZ
        have HLT := hid ((HL.out.take k (by omega)).below hbel)
        obtain ⟨q, hq⟩ : ∃ q, q = placeIn l (L.take k) := ⟨_, rfl⟩
        have HQ := hid hq
        rw [← hq] at HK
        have e0 : (0 : Int) ≤ (k : Int) := by omega
        have e1 : (k : Int) ≤ (cap : Int) := by omega
        have e2 : k ≤ cap := by omega
        clear hz hown hl hbel hq
        by_cases hneg : q < 0
        · have HT := hid (show newAt L k = true by rw [HK.out, decide_eq_true hneg])
          have hge : ¬ 0 ≤ q := by omega
          go_wp2_with (first | (go_at_call 121; refine (raPlace_any _ _ (L.take k) l _ _ HLT.out HZ.out).mono ?_; rintro e w2 ⟨rfl, hb2⟩; rw [← HQ.out]; have HB2 := hid (Below_chain HB.out hb2); clear hb2) | fail)
          go_roundw
          case rel => exact ⟨k + 1, by omega, by go_num, allTo_next HA.out HT.out, HB2.out⟩
          case measure => simp [intOf]; omega
        · have HT := hid (show newAt L k = false by rw [HK.out, decide_eq_false hneg])
          have hge : 0 ≤ q := by omega
          go_wp2_with (first | (go_at_call 121; refine (raPlace_any _ _ (L.take k) l _ _ HLT.out HZ.out).mono ?_; rintro e w2 ⟨rfl, hb2⟩; rw [← HQ.out]; have HB2 := hid (Below_chain HB.out hb2); clear hb2) | fail)
          go_returns
          exact ⟨ret_bool (by rw [alB, allTo_no hlt HT.out]; rfl), HB2.out⟩
      · obtain rfl : k = L.length := by omega
        clear hbel
        have hf : ((L.length : Int) == (fact n : Int)) = decide (L.length = fact n) := by rw [Bool.eq_iff_iff]; simp; omega
        have HV := hid (show alB n L = decide (L.length = fact n) by rw [alB, HA.out, Bool.true_and])
        go_wp2_with (first | (go_at_call 64; refine (raFactorial_any n _ hn).mono ?_; rintro e w' ⟨rfl, rfl⟩) | fail)
        go_returns
        exact ⟨ret_bool (by rw [HV.out]; try exact hf), HB.out⟩
end Go.Proofs.Yteenmndgejeihaa
