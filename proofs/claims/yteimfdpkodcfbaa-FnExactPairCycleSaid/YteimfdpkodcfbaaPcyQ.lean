/- Plain facts: the quick check of a prefix is the check of its windows; so the code's search finds the tour. Conditions: n odd, from 3 to 11. -/
import Derived.Test.YteimfdpkodcfbaaPcyM
import Derived.Test.YteimfdpkodcfbaaPair4
import Derived.Test.YteimfdpkodcfbaaCmplP
namespace Go.Proofs.Yteimfdpkodcfbaa
set_option linter.unusedVariables false
set_option maxRecDepth 4000

/-- the last place of the window i -/
theorem ls_win {N i : Nat} (hN : 2 ≤ N) (hi : i < N) : lsT (winL (upTo N) 2) i = if i + 1 < N then ((i + 1 : Nat) : Int) else ((N - 1 : Nat) : Int) := by
  unfold lsT
  rw [win_at9 hi, arL_len]
  have hl : i < (upTo N).length := by rw [upTo_len9]; exact hi
  rw [arL_two hl]
  show (if ([(upTo N).getD i 0, nxW (upTo N) i].getD 0 0) < ([(upTo N).getD i 0, nxW (upTo N) i].getD 1 0) then _ else _) = _
  show (if (upTo N).getD i 0 < nxW (upTo N) i then nxW (upTo N) i else (upTo N).getD i 0) = _
  unfold nxW
  rw [upTo_len9, upTo_getD9 hi, upTo_getD9 (Nat.mod_lt _ (by omega))]
  by_cases h : i + 1 < N
  · rw [if_pos h, Nat.mod_eq_of_lt h, if_pos (by omega)]
  · rw [if_neg h, show i + 1 = N by omega, Nat.mod_self, if_neg (by omega)]
    congr 1; omega
/-- what a window of a prefix holds -/
theorem pk_two_win {N i : Nat} {l : List Int} (hN : 2 ≤ N) (hi : i < N) (hl : l.length ≤ N) (hs : lsT (winL (upTo N) 2) i < (l.length : Int)) : pkL l ((winL (upTo N) 2).getD i []) = [l.getD i 0, nxW l i] := by
  rw [win_at9 hi, arL_two (by rw [upTo_len9]; exact hi)]
  rw [ls_win hN hi] at hs
  unfold nxW
  rw [upTo_len9, upTo_getD9 hi, upTo_getD9 (Nat.mod_lt _ (by omega))]
  show [l.getD _ 0, l.getD _ 0] = _
  rw [Int.toNat_natCast, Int.toNat_natCast]
  by_cases h : i + 1 < N
  · rw [if_pos h] at hs
    rw [Nat.mod_eq_of_lt h, Nat.mod_eq_of_lt (by omega)]
  · rw [if_neg h] at hs
    rw [show l.length = N by omega]
theorem nwQ_iff {n : Nat} (hn : inB (n : Int) 2 11 = true) {l : List Int} {i : Nat} : nwQ n l i = true ↔ okP n [l.getD i 0, nxW l i] = true ∧ ∀ j, j < i → samP (l.getD j 0) (nxW l j) (l.getD i 0) (nxW l i) = false := by
  unfold nwQ
  rw [okP_two hn]
  simp only [Bool.and_eq_true, decide_eq_true_eq, Bool.not_eq_true', beq_eq_false_iff_ne]
  refine and_congr (by constructor <;> (intro h; omega)) ?_
  constructor
  · intro h j hj
    cases hs : samP (l.getD j 0) (nxW l j) (l.getD i 0) (nxW l i) with
    | false => rfl
    | true => rw [cmeP_iff.2 ⟨j, hj, hs⟩] at h; cases h
  · intro h
    cases hc : cmeP l i (l.getD i 0) (nxW l i) with
    | false => rfl
    | true =>
      obtain ⟨j, hj, hs⟩ := cmeP_iff.1 hc
      rw [h j hj] at hs; cases hs
theorem nonneg_winP {N : Nat} (h1 : 1 ≤ N) : ∀ l ∈ winL (upTo N) 2, ∀ p ∈ l, (0 : Int) ≤ p := fun l hl p hp => by
  obtain ⟨q, e, _⟩ := (win_placed (n := 2) (by omega) (by omega) h1 l hl).within p hp
  omega
theorem chkQ_iff {n N : Nat} (hn : inB (n : Int) 2 11 = true) (hN : 2 ≤ N) (pre : List Int) (x : Nat) (hg : GdT (rkP n) (okP n) (winL (upTo N) 2) pre) : chkQ n N (pre ++ [(x : Int)]) = true ↔ GdT (rkP n) (okP n) (winL (upTo N) 2) (pre ++ [(x : Int)]) := by
  obtain ⟨l, hl⟩ : ∃ l, l = pre ++ [(x : Int)] := ⟨_, rfl⟩
  have hlen : l.length = pre.length + 1 := by rw [hl, List.length_append]; rfl
  have h0 : ∀ m ∈ winL (upTo N) 2, ∀ p ∈ m, (0 : Int) ≤ p := nonneg_winP (by omega)
  have hPL : (winL (upTo N) 2).length = N := by rw [winL_len, upTo_len9]
  have hpk : ∀ i, i < N → lsT (winL (upTo N) 2) i < (pre.length : Int) → pkL l ((winL (upTo N) 2).getD i []) = pkL pre ((winL (upTo N) 2).getD i []) := fun i hi hs => by
    rw [hl]; exact pre_win h0 (by rw [hPL]; exact hi) hs
  rw [← hl]
  by_cases hbig : N < l.length
  · have h1 : chkQ n N l = true := by unfold chkQ; rw [decide_eq_true hbig, Bool.true_or]
    rw [h1]
    refine ⟨fun _ => ?_, fun _ => rfl⟩
    have hs : ∀ i, i < N → lsT (winL (upTo N) 2) i < (pre.length : Int) := fun i hi => by
      rw [ls_win hN hi]; split <;> omega
    refine ⟨fun i hi _ => ?_, fun i j hi hj _ _ e => ?_⟩
    · rw [hPL] at hi
      rw [hpk i hi (hs i hi)]
      exact hg.yes i (by rw [hPL]; exact hi) (hs i hi)
    · rw [hPL] at hi hj
      refine hg.inj i j (by rw [hPL]; exact hi) (by rw [hPL]; exact hj) (hs i hi) (hs j hj) ?_
      unfold rkT at e ⊢
      rw [← hpk i hi (hs i hi), ← hpk j hj (hs j hj), e]
  · have hle : l.length ≤ N := by omega
    have hw : ∀ i, i < N → lsT (winL (upTo N) 2) i < (l.length : Int) → pkL l ((winL (upTo N) 2).getD i []) = [l.getD i 0, nxW l i] := fun i hi hs => pk_two_win hN hi hle hs
    -- the windows that are new
    have hnew : ∀ i, i < N → (lsT (winL (upTo N) 2) i < (l.length : Int) ↔ lsT (winL (upTo N) 2) i < (pre.length : Int) ∨ (2 ≤ l.length ∧ i = l.length - 2) ∨ (l.length = N ∧ i = N - 1)) := fun i hi => by
      rw [ls_win hN hi]
      split <;> omega
    have hold : ∀ i j, i < N → j < i → ((2 ≤ l.length ∧ i = l.length - 2) ∨ (l.length = N ∧ i = N - 1)) → lsT (winL (upTo N) 2) j < (l.length : Int) := fun i j hi hj h => by
      rw [ls_win hN (by omega)]
      split <;> omega
    have hchk : chkQ n N l = true ↔ (2 ≤ l.length → nwQ n l (l.length - 2) = true) ∧ (l.length = N → nwQ n l (N - 1) = true) := by
      unfold chkQ
      rw [decide_eq_false hbig, Bool.false_or, Bool.and_eq_true, Bool.or_eq_true, Bool.or_eq_true, decide_eq_true_eq, Bool.not_eq_true', decide_eq_false_iff_not]
      constructor
      · rintro ⟨h1, h2⟩
        exact ⟨fun h => h1.elim (fun h3 => by omega) id, fun h => h2.elim (fun h3 => absurd h h3) id⟩
      · rintro ⟨h1, h2⟩
        refine ⟨?_, ?_⟩
        · by_cases q : l.length < 2
          · exact .inl q
          · exact .inr (h1 (by omega))
        · by_cases q : l.length = N
          · exact .inr (h2 q)
          · exact .inl q
    rw [hchk]
    constructor
    · rintro ⟨c1, c2⟩
      have hnw : ∀ i, i < N → ((2 ≤ l.length ∧ i = l.length - 2) ∨ (l.length = N ∧ i = N - 1)) → nwQ n l i = true := fun i hi h => by
        rcases h with ⟨h1, rfl⟩ | ⟨h1, rfl⟩
        · exact c1 h1
        · exact c2 h1
      have hyes : ∀ i, i < N → lsT (winL (upTo N) 2) i < (l.length : Int) → okP n [l.getD i 0, nxW l i] = true := fun i hi hs => by
        rcases (hnew i hi).1 hs with h | h
        · rw [← hw i hi hs, hpk i hi h]
          exact hg.yes i (by rw [hPL]; exact hi) h
        · exact ((nwQ_iff hn).1 (hnw i hi h)).1
      have hlt : ∀ i j, j < i → i < N → lsT (winL (upTo N) 2) i < (l.length : Int) → lsT (winL (upTo N) 2) j < (l.length : Int) → rkP n [l.getD i 0, nxW l i] ≠ rkP n [l.getD j 0, nxW l j] := fun i j hji hi hsi hsj e => by
        have hold2 : ¬ ((2 ≤ l.length ∧ i = l.length - 2) ∨ (l.length = N ∧ i = N - 1)) := fun h => by
          have h2 := ((nwQ_iff hn).1 (hnw i hi h)).2 j hji
          have h3 := rkP_inj hn (hyes j (by omega) hsj) (hyes i hi hsi) e.symm
          rw [samP_iff.2 h3] at h2
          cases h2
        have hi1 := ((hnew i hi).1 hsi).resolve_right hold2
        have hj1 : lsT (winL (upTo N) 2) j < (pre.length : Int) := by
          rw [ls_win hN hi] at hi1
          rw [ls_win hN (by omega)]
          split at hi1 <;> split <;> omega
        have := hg.inj i j (by rw [hPL]; exact hi) (by rw [hPL]; omega) hi1 hj1 (by
          unfold rkT
          rw [← hpk i hi hi1, ← hpk j (by omega) hj1, hw i hi hsi, hw j (by omega) hsj, e])
        omega
      refine ⟨fun i hi hs => ?_, fun i j hi hj hsi hsj e => ?_⟩
      · rw [hPL] at hi
        rw [hw i hi hs]
        exact hyes i hi hs
      · rw [hPL] at hi hj
        unfold rkT at e
        rw [hw i hi hsi, hw j hj hsj] at e
        rcases Nat.lt_trichotomy i j with q | q | q
        · exact absurd e.symm (hlt j i q hj hsj hsi)
        · exact q
        · exact absurd e (hlt i j q hi hsi hsj)
    · intro hG
      have hnw : ∀ i, i < N → ((2 ≤ l.length ∧ i = l.length - 2) ∨ (l.length = N ∧ i = N - 1)) → nwQ n l i = true := fun i hi h => by
        have hsi := (hnew i hi).2 (.inr h)
        have hok : okP n [l.getD i 0, nxW l i] = true := by rw [← hw i hi hsi]; exact hG.yes i (by rw [hPL]; exact hi) hsi
        refine (nwQ_iff hn).2 ⟨hok, fun j hj => ?_⟩
        have hsj := hold i j hi hj h
        cases hs : samP (l.getD j 0) (nxW l j) (l.getD i 0) (nxW l i) with
        | false => rfl
        | true =>
          have e : rkT (rkP n) (winL (upTo N) 2) l j = rkT (rkP n) (winL (upTo N) 2) l i := by
            unfold rkT
            rw [hw i hi hsi, hw j (by omega) hsj]
            rcases samP_iff.1 hs with ⟨e1, e2⟩ | ⟨e1, e2⟩
            · rw [e1, e2]
            · rw [e1, e2, rkP_turn]
          have := hG.inj j i (by rw [hPL]; omega) (by rw [hPL]; exact hi) hsj hsi e
          omega
      exact ⟨fun h => hnw _ (by omega) (.inl ⟨h, rfl⟩), fun h => hnw _ (by omega) (.inr ⟨h, rfl⟩)⟩
/-- two answers that are both the first good word are the same -/
theorem SrIs.uniq {G : List Int → Prop} {b rem : Nat} {pre : List Int} {r r' : Option (List Int)} (h : SrIs G b rem pre r) (h' : SrIs G b rem pre r') : r = r' := by
  cases r with
  | none =>
    cases r' with
    | none => rfl
    | some L =>
      obtain ⟨k, hk, e, hG, _⟩ := h'
      rw [e] at hG
      exact absurd hG (h k hk)
  | some L =>
    obtain ⟨k, hk, e, hG, hm⟩ := h
    cases r' with
    | none =>
      rw [e] at hG
      exact absurd hG (h' k hk)
    | some L' =>
      obtain ⟨k', hk', e', hG', hm'⟩ := h'
      rcases Nat.lt_trichotomy k k' with q | q | q
      · rw [e] at hG; exact absurd hG (hm' k q)
      · rw [e, e', q]
      · rw [e'] at hG'; exact absurd hG' (hm k' q)
def pcB (n : Int) : Bool := inB n 2 11 && !(n % 2 == 0)
theorem pc_tab {n : Nat} (h : pcB (n : Int) = true) : okT n (n * (n - 1) / 2) 0 (L0T n) = true ∧ srcF (chkQ n (n * (n - 1) / 2)) n (n * (n - 1) / 2) [] = some (trW n) ∧ 3 ≤ n ∧ n ≤ 11 := by
  unfold pcB at h
  rw [Bool.and_eq_true, Bool.not_eq_true', beq_eq_false_iff_ne] at h
  have h1 := inB_iff.1 h.1
  have h2 := h.2
  rcases (show n = 3 ∨ n = 5 ∨ n = 7 ∨ n = 9 ∨ n = 11 by omega) with rfl | rfl | rfl | rfl | rfl
  · exact ⟨tr_tab3.1, tr_tab3.2, by omega, by omega⟩
  · exact ⟨tr_tab5.1, tr_tab5.2, by omega, by omega⟩
  · exact ⟨tr_tab7.1, tr_tab7.2, by omega, by omega⟩
  · exact ⟨tr_tab9.1, tr_tab9.2, by omega, by omega⟩
  · exact ⟨tr_tab11.1, tr_tab11.2, by omega, by omega⟩
theorem pc_src {n N : Nat} (h : pcB (n : Int) = true) (hN : N = n * (n - 1) / 2) (hN2 : 2 ≤ N) : srcF (chkC (rkP n) (okP n) (winL (upTo N) 2)) n N [] = some (trW n) := by
  obtain ⟨t1, t2, t3, t4⟩ := pc_tab h
  rw [← hN] at t2
  have hn : inB (n : Int) 2 11 = true := inB_iff.2 (by omega)
  have hp := win_placed (N := N) (n := 2) (by omega) (by omega) (by omega)
  have h0 : ∀ m ∈ winL (upTo N) 2, ∀ p ∈ m, (0 : Int) ≤ p := fun l hl p hp2 => by
    obtain ⟨q, e, _⟩ := (hp l hl).within p hp2
    omega
  have s1 := srcF_is (G := GdT (rkP n) (okP n) (winL (upTo N) 2)) (chk := chkQ n N) (b := n) (fun a c h => GdT_pre h0 h) (fun pre x hg _ => chkQ_iff hn hN2 pre x hg) N [] (GdT_nil hp)
  have s2 := srcF_is (G := GdT (rkP n) (okP n) (winL (upTo N) 2)) (chk := chkC (rkP n) (okP n) (winL (upTo N) 2)) (b := n) (fun a c h => GdT_pre h0 h) (fun pre x _ _ => ⟨fun h => Classical.byContradiction (fun h2 => chkC_no h2 h), chkC_yes⟩) N [] (GdT_nil hp)
  rw [s2.uniq s1, t2]
end Go.Proofs.Yteimfdpkodcfbaa
