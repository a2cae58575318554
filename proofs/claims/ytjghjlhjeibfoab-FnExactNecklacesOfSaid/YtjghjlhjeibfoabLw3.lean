/- Contracts: both LyndonUpTo. Conditions: ints in their range. -/
import Derived.Test.YtjghjlhjeibfoabLw2
namespace Go.Proofs.Ytjghjlhjeibfoab
open Go.RowKit
set_option linter.unusedVariables false
set_option maxRecDepth 4000

theorem WdC.pos {n k C : Nat} (h : WdC n k C) : 0 < C := by
  rcases Nat.eq_zero_or_pos C with e | e
  · have := h.none; rw [e] at this; simp [wdL] at this
  · exact e
theorem law_spec_LyndonUpTo (n k : Int) (w : World) (_wn : (Lit.int .i64 n).wf = true) (_wk : (Lit.int .i64 k).wf = true) :
    Calls Try.prog 20 #[.int .i64 n, .int .i64 k] w fun e w' => ∃ u, e = .returned (.tuple #[u, .bool (luB n k)]) ∧ ReadsL w' u (luRes n k) ∧ Below w.heap.size w w' := by
  cases hk0 : kindB n k with
  | false =>
    have HP := hid (show luB n k = false by unfold luB; rw [hk0]; rfl)
    have HF := hid (luRes_no HP.out)
    go_enter Try.func20, Try.ntmps20
    go_wp2_with (first | (go_at_call 42; (refine (lyKind_any _ _ _).mono ?_); (rintro e w1 ⟨rfl, rfl⟩); (rw [hk0])) | fail)
    go_ret2
    exact ⟨_, ret_sb7 HP.out.symm, by rw [HF.out]; exact (Lists.nil _ w.heap.size).readsL, Below.refl _ _⟩
  | true =>
    have hk9 := hk0
    obtain ⟨n, k, rfl, rfl, hn1, hn2, hk1, hk2⟩ := kindB_nat hk0
    by_cases hup : upT k n ≤ 1100
    · have HP := hid (show luB (n : Int) (k : Int) = true by unfold luB; rw [hk9, Int.toNat_natCast, Int.toNat_natCast, decide_eq_true hup]; rfl)
      obtain ⟨C, hC, hC2, hW⟩ := up_few hn1 hn2 hk1 hk2 hup
      have HF := hid (show luRes (n : Int) (k : Int) = wdTo n k C by rw [luRes_yes HP.out, Int.toNat_natCast, Int.toNat_natCast, show (upT k n).toNat = C by omega])
      have HK := hid (fun (K : Nat) (h1 : ∀ j, j < K → wdL n k j ≠ []) (h2 : K ≤ 1101) (h3 : K ≤ 1100 → wdL n k K = []) => show K = C by
        have a : ¬ C < K := fun h => h1 C h hW.none
        by_cases e : K < C
        · exact absurd (h3 (by omega)) (hW.some K e)
        · omega)
      clear hk9 hC hW hup
      go_enter Try.func20, Try.ntmps20
      go_wp2_with (first
        | (go_at_call 42; (refine (lyKind_any _ _ _).mono ?_); (rintro e w1 ⟨rfl, rfl⟩); (rw [hk0]))
        | (go_at_call 49; (refine (lyList_any n k _ hn1 hn2 hk1 hk2).mono ?_); (rintro e w2 ⟨aA, c0, K, rfl, hl, h2, h1, h3, hb⟩); (obtain rfl := HK.out K h1 h2 h3); (have HL := hid hl); (have HB := hid hb); (clear hl h1 h3 hb); (have q1 : ¬ (1100 : Int) < (K : Int) := by omega))
        | fail)
      go_ret2
      exact ⟨_, ret_sb7 HP.out.symm, by rw [HF.out]; exact HL.out.readsL, HB.out⟩
    · have HP := hid (show luB (n : Int) (k : Int) = false by unfold luB; rw [Int.toNat_natCast, Int.toNat_natCast, decide_eq_false hup]; simp)
      have HF := hid (luRes_no HP.out)
      have HM := hid (up_many hn1 hn2 hk1 hk2 hup)
      have HKM := hid (fun (K : Nat) (h3 : K ≤ 1100 → wdL n k K = []) => show 1100 < K by
        by_cases e : K ≤ 1100
        · exact absurd (h3 e) (HM.out K e)
        · omega)
      clear hk9 hup
      go_enter Try.func20, Try.ntmps20
      go_wp2_with (first
        | (go_at_call 42; (refine (lyKind_any _ _ _).mono ?_); (rintro e w1 ⟨rfl, rfl⟩); (rw [hk0]))
        | (go_at_call 49; (refine (lyList_any n k _ hn1 hn2 hk1 hk2).mono ?_); (rintro e w2 ⟨aA, c0, K, rfl, hl, h2, h1, h3, hb⟩); (have hK := HKM.out K h3); (have HB := hid hb); (clear hl h1 h3 hb); (have q1 : (1100 : Int) < (K : Int) := by omega))
        | fail)
      go_ret2
      exact ⟨_, ret_sb7 HP.out.symm, by rw [HF.out]; exact (Lists.nil _ w.heap.size).readsL, HB.out⟩
theorem law_impl_LyndonUpTo (n k : Int) (w : World) (_wn : (Lit.int .i64 n).wf = true) (_wk : (Lit.int .i64 k).wf = true) :
    Calls Try.prog 21 #[.int .i64 n, .int .i64 k] w fun e w' => ∃ u, e = .returned (.tuple #[u, .bool (luB n k)]) ∧ ListsE w' w.heap.size w'.heap.size u (luRes n k) ∧ Below w.heap.size w w' := by
  cases hi1 : inB n 1 12 with
  | false =>
    have HP := hid (show luB n k = false by unfold luB kindB; rw [hi1]; rfl)
    have HF := hid (luRes_no HP.out)
    go_enter Try.func21, Try.ntmps21
    go_wp2_with (first | (go_at_call 45; (refine (isWordLength_any _ _).mono ?_); (rintro e w1 ⟨rfl, rfl⟩); (rw [hi1])) | fail)
    go_ret2
    exact ⟨_, ret_sb7 HP.out.symm, by rw [HF.out]; exact (GrL.nil _ _ 0).listsE, Below.refl _ _⟩
  | true =>
    cases hi2 : inB k 1 6 with
    | false =>
      have HP := hid (show luB n k = false by unfold luB kindB; rw [hi1, hi2]; rfl)
      have HF := hid (luRes_no HP.out)
      go_enter Try.func21, Try.ntmps21
      go_wp2_with (first | (go_at_call 45; (refine (isWordLength_any _ _).mono ?_); (rintro e w1 ⟨rfl, rfl⟩); (rw [hi1])) | (go_at_call 46; (refine (isLetterCount_any _ _).mono ?_); (rintro e w1 ⟨rfl, rfl⟩); (rw [hi2])) | fail)
      go_ret2
      exact ⟨_, ret_sb7 HP.out.symm, by rw [HF.out]; exact (GrL.nil _ _ 0).listsE, Below.refl _ _⟩
    | true =>
      have hk9 : kindB n k = true := by unfold kindB; rw [hi1, hi2]; rfl
      obtain ⟨n, k, rfl, rfl, hn1, hn2, hk1, hk2⟩ := kindB_nat hk9
      by_cases hup : upT k n ≤ 1100
      · have HP := hid (show luB (n : Int) (k : Int) = true by unfold luB; rw [hk9, Int.toNat_natCast, Int.toNat_natCast, decide_eq_true hup]; rfl)
        obtain ⟨C, hC, hC2, hW⟩ := up_few hn1 hn2 hk1 hk2 hup
        have HF := hid (show luRes (n : Int) (k : Int) = wdTo n k C by rw [luRes_yes HP.out, Int.toNat_natCast, Int.toNat_natCast, show (upT k n).toNat = C by omega])
        have HC := hid hC
        have HW := hid hW
        have hq : ¬ (1100 : Int) < (C : Int) := by omega
        clear hk9 hC hW hup
        go_enter Try.func21, Try.ntmps21
        go_wp2_with (first
          | (go_at_call 45; (refine (isWordLength_any _ _).mono ?_); (rintro e w1 ⟨rfl, rfl⟩); (rw [hi1]))
          | (go_at_call 46; (refine (isLetterCount_any _ _).mono ?_); (rintro e w1 ⟨rfl, rfl⟩); (rw [hi2]))
          | (go_at_call 50; (refine (countLyndonUpTo_any k n _ hk2 hn2).mono ?_); (rintro e w2 ⟨rfl, hb2⟩); (rw [← HC.out]); (have HB2 := hid hb2); (clear hb2))
          | (go_at_call 51; (refine (allLyndonUpTo_any n k C _ hn1 hn2 hk1 hk2 HW.out HC.out HW.out.pos (by omega)).mono ?_); (rintro e w3 ⟨aA, c0, rfl, hg3, hb3⟩); (have HG3 := hid (hg3.base HB2.out.size)); (have HB3 := hid (Below_chain HB2.out hb3)); (clear hg3 hb3))
          | fail)
        go_ret2
        exact ⟨_, ret_sb7 HP.out.symm, by rw [HF.out]; exact HG3.out.listsE, HB3.out⟩
      · have HP := hid (show luB (n : Int) (k : Int) = false by unfold luB; rw [Int.toNat_natCast, Int.toNat_natCast, decide_eq_false hup]; simp)
        have HF := hid (luRes_no HP.out)
        have hb9 := up_tab k hk2 n hn2
        obtain ⟨U, hU⟩ : ∃ U, U = upT k n := ⟨_, rfl⟩
        rw [← hU] at hup hb9
        have HU := hid hU
        have hq : (1100 : Int) < U := by omega
        clear hk9 hup hU
        go_enter Try.func21, Try.ntmps21
        go_wp2_with (first
          | (go_at_call 45; (refine (isWordLength_any _ _).mono ?_); (rintro e w1 ⟨rfl, rfl⟩); (rw [hi1]))
          | (go_at_call 46; (refine (isLetterCount_any _ _).mono ?_); (rintro e w1 ⟨rfl, rfl⟩); (rw [hi2]))
          | (go_at_call 50; (refine (countLyndonUpTo_any k n _ hk2 hn2).mono ?_); (rintro e w2 ⟨rfl, hb2⟩); (rw [← HU.out]); (have HB2 := hid hb2); (clear hb2))
          | fail)
        go_ret2
        exact ⟨_, ret_sb7 HP.out.symm, by rw [HF.out]; exact (GrL.nil _ _ 0).listsE, HB2.out⟩
end Go.Proofs.Ytjghjlhjeibfoab
