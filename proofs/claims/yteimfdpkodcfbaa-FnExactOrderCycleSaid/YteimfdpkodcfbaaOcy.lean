/- Contracts: both OrderCycle functions. Conditions: none. -/
import Derived.Test.YteimfdpkodcfbaaOrdy2
import Derived.Test.YteimfdpkodcfbaaCmplO
import Derived.Test.YteimfdpkodcfbaaCnM
namespace Go.Proofs.Yteimfdpkodcfbaa
open Go.RowKit Go.Maps
set_option linter.unusedVariables false
set_option maxRecDepth 4000

theorem cntW_last (b : Nat) (hb : 0 < b) : ∀ (s k : Nat), k < b ^ (s + 1) → cntW b (s + 1) k = cntW b s (k / b) ++ [((k % b : Nat) : Int)]
  | 0, k, hk => by
    rw [Nat.pow_one] at hk
    rw [cntW, cntW, cntW, Nat.pow_zero, Nat.div_one, Nat.mod_eq_of_lt hk]; rfl
  | s + 1, k, hk => by
    rw [cntW, cntW_last b hb s _ (Nat.mod_lt _ (Nat.pow_pos hb))]
    rw [cntW]
    have e1 : k / b ^ (s + 1) = k / b / b ^ s := by rw [Nat.div_div_eq_div_mul, Nat.pow_succ, Nat.mul_comm]
    have e2 : k % b ^ (s + 1) / b = k / b % b ^ s := by rw [Nat.pow_succ, Nat.mul_comm, Nat.mod_mul_right_div_self]
    have e3 : k % b ^ (s + 1) % b = k % b := Nat.mod_mod_of_dvd _ ⟨b ^ s, by rw [Nat.pow_succ, Nat.mul_comm]⟩
    rw [e1, e2, e3]; rfl
theorem cntL_cntW (b : Nat) (hb : 0 < b) : ∀ (s k : Nat), k < b ^ s → cntL b s k = cntW b s k
  | 0, k, hk => rfl
  | s + 1, k, hk => by
    rw [cntL, cntW_last b hb s k hk, cntL_cntW b hb s (k / b) (by
      rw [Nat.pow_succ] at hk
      exact Nat.div_lt_of_lt_mul (by rw [Nat.mul_comm]; exact hk))]
/-- the word that is found, by its index -/
def ocK (n : Nat) : Nat := if n = 2 then 1 else 398
def ocW (n : Nat) : List Int := cntL (n + 1) (fact n) (ocK n)
def ocB (n : Int) : Bool := inB n 2 3
def ocR (n : Int) : List Int := if ocB n = true then ocW n.toNat else []
theorem ocR_yes {m : Nat} (h : ocB (m : Int) = true) : ocR (m : Int) = ocW m := by unfold ocR; rw [if_pos h]; rfl
theorem ocR_no {n : Int} (h : ocB n = false) : ocR n = [] := by unfold ocR; rw [if_neg (by rw [h]; simp)]
theorem ocW_len (n : Nat) : (ocW n).length = fact n := cntL_length _ _ _
set_option maxRecDepth 100000 in
theorem oc_tab2 : orB 2 (ocW 2) = true ∧ ∀ k, k < 1 → orB 2 (cntL 3 2 k) = false := by decide +kernel
set_option maxRecDepth 100000 in
theorem oc_tab3 : orB 3 (ocW 3) = true ∧ ∀ k, k < 398 → orB 3 (cntL 4 6 k) = false := by decide +kernel
theorem oc_tab {n : Nat} (h : ocB (n : Int) = true) : orB n (ocW n) = true ∧ (∀ k, k < ocK n → orB n (cntL (n + 1) (fact n) k) = false) ∧ ocK n < (n + 1) ^ fact n ∧ ocK n ≤ 398 ∧ 1 ≤ fact n ∧ fact n ≤ 6 := by
  have h1 := inB_iff.1 h
  rcases (show n = 2 ∨ n = 3 by omega) with rfl | rfl
  · exact ⟨oc_tab2.1, oc_tab2.2, by decide, by decide, by decide, by decide⟩
  · exact ⟨oc_tab3.1, oc_tab3.2, by decide, by decide, by decide, by decide⟩
theorem bound_OrderCycle (n : Int) : (ocR n).length ≤ 1048576 := by
  cases h : ocB n with
  | false => rw [ocR_no h]; simp
  | true =>
    have h1 := inB_iff.1 h
    obtain ⟨m, rfl⟩ : ∃ m : Nat, n = (m : Int) := ⟨n.toNat, by omega⟩
    rw [ocR_yes h, ocW_len]
    have := oc_tab h
    omega
theorem nonneg_win {N n : Nat} (h1 : 1 ≤ N) (h2 : 1 ≤ n) (h3 : n ≤ 200) : ∀ l ∈ winL (upTo N) n, ∀ p ∈ l, (0 : Int) ≤ p := fun l hl p hp => by
  obtain ⟨q, e, _⟩ := (win_placed h2 h3 h1 l hl).within p hp
  omega
/-- the search's answer is the first good word -/
theorem srcF_first {rk : List Int → Int} {ok : List Int → Bool} {PL : List (List Int)} {b N K : Nat} (h0 : ∀ l ∈ PL, ∀ p ∈ l, 0 ≤ p) (hp : ∀ l ∈ PL, Placed N l) (hK : K < b ^ N) (hg : GdT rk ok PL (cntW b N K)) (hno : ∀ k, k < K → ¬ GdT rk ok PL (cntW b N k)) :
    srcF (chkC rk ok PL) b N [] = some (cntW b N K) := by
  have hs := srcF_is (G := GdT rk ok PL) (chk := chkC rk ok PL) (b := b) (fun a c h => GdT_pre h0 h) (fun pre x _ _ => ⟨fun h => Classical.byContradiction (fun h2 => chkC_no h2 h), chkC_yes⟩) N [] (GdT_nil hp)
  cases hR : srcF (chkC rk ok PL) b N [] with
  | none =>
    rw [hR] at hs
    exact absurd hg (by have := hs K hK; simpa using this)
  | some L =>
    rw [hR] at hs
    obtain ⟨k, hk, e, hG, hmin⟩ := hs
    rw [List.nil_append] at e
    subst e
    rcases Nat.lt_trichotomy k K with q | q | q
    · exact absurd hG (hno k q)
    · rw [q]
    · exact absurd hg (by have := hmin K q; simpa using this)
theorem oc_src {n : Nat} (h : ocB (n : Int) = true) : srcF (chkC rkO okO (winL (upTo (fact n)) n)) (n + 1) (fact n) [] = some (ocW n) := by
  have h1 := inB_iff.1 h
  obtain ⟨t1, t2, t3, t4, t5, t6⟩ := oc_tab h
  have hg : ∀ k, k < (n + 1) ^ fact n → (GdT rkO okO (winL (upTo (fact n)) n) (cntW (n + 1) (fact n) k) ↔ orB n (cntL (n + 1) (fact n) k) = true) := fun k hk => by
    rw [cntL_cntW _ (by omega) _ _ hk]
    have hl := cntW_len (n + 1) (fact n) k
    rw [GdT_all (by rw [hl]; exact win_placed (by omega) (by omega) t5), ← orB_ly rfl t5, hl]
    simp
  rw [ocW, cntL_cntW _ (by omega) _ _ t3]
  exact srcF_first (nonneg_win t5 (by omega) (by omega)) (win_placed (by omega) (by omega) t5) t3 ((hg _ t3).2 t1) (fun k hk h2 => by
    have := (hg k (by omega)).1 h2
    rw [t2 k hk] at this
    cases this)
theorem ret_sbY {u : Value} {b b' : Bool} (h : b = b') : Ending.returned (.tuple #[u, .bool b]) = .returned (.tuple #[u, .bool b']) := by rw [h]
set_option maxHeartbeats 1000000 in
theorem spec_OrderCycle_any (n : Int) (w : World) (_hn : (Lit.int .i64 n).wf = true) :
    Calls Try.prog 42 #[.int .i64 n] w fun e w' => ∃ u, e = .returned (.tuple #[u, .bool (ocB n)]) ∧ Own w' w.heap.size u (ocR n) ∧ Below w.heap.size w w' := by
  cases hn : ocB n with
  | false =>
    have HN := hid (show inB n 2 3 = false from hn)
    have HR := hid (ocR_no hn)
    go_enter Try.func42, Try.ntmps42
    go_wp2_with (first
      | (go_at_call 96; (refine (l1In_any _ _ _ _).mono ?_); (rintro e w' ⟨rfl, rfl⟩); (rw [HN.out]))
      | fail)
    go_ret2
    exact ⟨_, rfl, by rw [HR.out]; exact Own.nil _ _, Below.refl _ _⟩
  | true =>
    have h0 := inB_iff.1 hn
    obtain ⟨m, rfl⟩ : ∃ m : Nat, n = (m : Int) := ⟨n.toNat, by omega⟩
    have HN := hid (show inB (m : Int) 2 3 = true from hn)
    have HN4 := hid (show inB (m : Int) 2 4 = true from inB_iff.2 (by omega))
    have HR := hid (ocR_yes hn)
    obtain ⟨t1, t2, t3, t4, t5, t6⟩ := oc_tab hn
    obtain ⟨N, hN⟩ : ∃ N, N = fact m := ⟨_, rfl⟩
    obtain ⟨K, hK⟩ : ∃ K, K = ocK m := ⟨_, rfl⟩
    have HWW := hid (show ocW m = cntL (m + 1) N K by rw [hN, hK]; rfl)
    have HNF := hid hN
    rw [HWW.out] at t1
    rw [← hN] at t2 t5 t6
    rw [← hK] at t2 t4
    have HT1 := hid t1
    have HT2 := hid t2
    have HCW := hid (fun k => cntL_length (m + 1) N k)
    have hm13 : m < 13 := by omega
    have HB1 := hid (show 1 ≤ m + 1 ∧ m + 1 ≤ 1048576 by omega)
    clear t1 t2 t3 hN hK
    go_enter Try.func42, Try.ntmps42
    go_wp2_with (first
      | (go_at_call 96; (refine (l1In_any _ _ _ _).mono ?_); (rintro e w' ⟨rfl, rfl⟩); (rw [HN.out]))
      | fail)
    go_loopw [4, 5] (fun i _ wr => ∃ k : Nat, k ≤ K ∧ i = .int .i64 (k : Int) ∧ Below w.heap.size w wr) (fun i _ _ => K - (intOf i).toNat)
    case atStart => exact ⟨0, Nat.zero_le _, rfl, Below.refl _ _⟩
    case round =>
      obtain ⟨k, hk, rfl, hbel⟩ := hrel
      have HB := hid hbel
      have hsc := suCount_any N (m + 1) k wr (by omega) HB1.out.1 HB1.out.2 (by omega)
      rw [show (((m + 1 : Nat)) : Int) = (m : Int) + 1 by omega] at hsc
      have HSC := hid hsc
      have HCK := hid (show 0 < (cntL (m + 1) N k).length by rw [HCW.out k]; omega)
      have HC2 := hid (show (cntL (m + 1) N k).length ≤ 200 by rw [HCW.out k]; omega)
      clear hbel hsc
      by_cases hkK : k < K
      · have HF := hid (HT2.out k hkK)
        go_wp2_with (first
          | (go_at_call 101; (refine (raFactorial_any m _ hm13).mono ?_); (rintro e w' ⟨rfl, rfl⟩); (rw [← HNF.out]))
          | (go_at_call 97; (refine (suOrders_any m _ (cntL (m + 1) N k) _ HN4.out (sits9 HO1.out HCK.out) HC2.out).mono ?_); (rintro e w2 ⟨rfl, hb2⟩); (rw [HF.out]); (have HB2 := hid (Below_chain HBB.out hb2)); (clear hb2))
          | (go_at_call 100; (refine HSC.out.mono ?_); (rintro e w1 ⟨rfl, ho1, hb1⟩); (have HO1 := hid ho1); (have HBB := hid (Below_chain HB.out hb1)); (clear ho1 hb1))
          | fail)
        go_roundw
        case rel => exact ⟨k + 1, hkK, by go_num, HB2.out⟩
        case measure => simp [intOf]; omega
      · obtain rfl : k = K := by omega
        have HF := hid HT1.out
        go_wp2_with (first
          | (go_at_call 101; (refine (raFactorial_any m _ hm13).mono ?_); (rintro e w' ⟨rfl, rfl⟩); (rw [← HNF.out]))
          | (go_at_call 97; (refine (suOrders_any m _ (cntL (m + 1) N k) _ HN4.out (sits9 HO1.out HCK.out) HC2.out).mono ?_); (rintro e w2 ⟨rfl, hb2⟩); (rw [HF.out]); (have HB2 := hid (Below_chain HBB.out hb2)); (have HO2 := hid (HO1.out.below hb2)); (clear hb2))
          | (go_at_call 100; (refine HSC.out.mono ?_); (rintro e w1 ⟨rfl, ho1, hb1⟩); (have HO1 := hid ho1); (have HBB := hid (Below_chain HB.out hb1)); (clear ho1 hb1))
          | fail)
        go_ret2
        exact ⟨_, rfl, by rw [HR.out, HWW.out]; exact HO2.out.mono HB.out.size, HB2.out⟩
theorem impl_OrderCycle_any (n : Int) (w : World) (_hn : (Lit.int .i64 n).wf = true) :
    Calls Try.prog 43 #[.int .i64 n] w fun e w' => ∃ u, e = .returned (.tuple #[u, .bool (ocB n)]) ∧ Own w' w.heap.size u (ocR n) ∧ Below w.heap.size w w' := by
  cases hn4 : inB n 2 4 with
  | false =>
    have HB := hid (show ocB n = false by
      cases h : ocB n with
      | false => rfl
      | true =>
        have h1 := inB_iff.1 h
        rw [show inB n 2 4 = true from inB_iff.2 (by omega)] at hn4
        cases hn4)
    have HR := hid (ocR_no HB.out)
    have HN := hid hn4
    clear hn4
    go_enter Try.func43, Try.ntmps43
    go_wp2_with (first
      | (go_at_call 98; (refine (isOrderSize_any _ _).mono ?_); (rintro e w' ⟨rfl, rfl⟩); (rw [HN.out]))
      | fail)
    go_ret2
    exact ⟨_, ret_sbY HB.out.symm, by rw [HR.out]; exact Own.nil _ _, Below.refl _ _⟩
  | true =>
    have h4 := inB_iff.1 hn4
    obtain ⟨m, rfl⟩ : ∃ m : Nat, n = (m : Int) := ⟨n.toNat, by omega⟩
    have HN := hid hn4
    clear hn4
    by_cases h3 : (3 : Int) < (m : Int)
    · have HB := hid (show ocB (m : Int) = false by
        cases h : ocB (m : Int) with
        | false => rfl
        | true => have h1 := inB_iff.1 h; omega)
      have HR := hid (ocR_no HB.out)
      go_enter Try.func43, Try.ntmps43
      go_wp2_with (first
        | (go_at_call 98; (refine (isOrderSize_any _ _).mono ?_); (rintro e w' ⟨rfl, rfl⟩); (rw [HN.out]))
        | fail)
      go_ret2
      exact ⟨_, ret_sbY HB.out.symm, by rw [HR.out]; exact Own.nil _ _, Below.refl _ _⟩
    · have HB := hid (show ocB (m : Int) = true from inB_iff.2 (by omega))
      have HR := hid (ocR_yes HB.out)
      obtain ⟨N, hN⟩ : ∃ N, N = fact m := ⟨_, rfl⟩
      have HNN := hid hN
      have hsrc := oc_src HB.out
      have ht := oc_tab HB.out
      rw [← hN] at hsrc ht
      have HSRC := hid hsrc
      have HN1 := hid ht.2.2.2.2.1
      have HN2 := hid (show N ≤ 200 by omega)
      have hlw := fun (w1 : World) (g : Nat) (hl1 : SitsL w1 (.slice (some ⟨g, 0, none⟩) N N) (winL (upTo N) m)) => least_O rkO okO g N (m + 1) (winL (upTo N) m) w1 (by rw [winL_len, upTo_length]) hl1 HN2.out (by omega) (win_placed (by omega) (by omega) HN1.out) rkO_wf
        (fun W x B ys hys ho hb => by
          obtain ⟨l, hl, ws, hws, e⟩ := hys
          exact ord_clo (ws := ws) (w1 := w1) (by omega) (by omega) (fun z hz => WalkArith.wf_i64 (by have := hws z hz; omega)) W x B ys ⟨l, hl, e⟩ ho hb)
      rw [show (((m + 1 : Nat)) : Int) = (m : Int) + 1 by omega] at hlw
      rw [hsrc] at hlw
      have HLW := hid hlw
      clear hsrc ht hN hlw
      go_enter Try.func43, Try.ntmps43
      go_wp2_with (first
        | (go_at_call 98; (refine (isOrderSize_any _ _).mono ?_); (rintro e w' ⟨rfl, rfl⟩); (rw [HN.out]))
        | (go_at_call 93; (refine (HLW.out w1 g HL1.out).mono ?_); (rintro e w2 ⟨u, rfl, ho2, hb2⟩); (have HO2 := hid ho2); (have HB2 := hid (Below_chain HB1.out hb2)); (clear ho2 hb2))
        | (go_at_call 99; (refine (ordersOf_any m N _ HN.out HNN.out).mono ?_); (rintro e w1 ⟨g, rfl, hl1, hb1⟩); (have HL1 := hid hl1); (have HB1 := hid hb1); (clear hl1 hb1))
        | fail)
      go_ret2
      exact ⟨_, ret_sbY HB.out.symm, by rw [HR.out]; exact HO2.out.mono HB1.out.size, HB2.out⟩
end Go.Proofs.Yteimfdpkodcfbaa
