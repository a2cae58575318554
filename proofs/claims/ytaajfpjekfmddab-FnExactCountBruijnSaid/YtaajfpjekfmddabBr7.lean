/- Contracts of CountBruijn and of its model, as the law calls them. Conditions: ints in their range. -/
import Derived.Test.YtaajfpjekfmddabBr6
namespace Go.Proofs.Ytaajfpjekfmddab
open Go.RowKit
set_option linter.unusedVariables false
set_option maxRecDepth 4000

/-- how the model counts: f rounds at most, from the i-th one on, with the count c -/
def brC (less k n : Nat) : Nat → Nat → Nat → Nat
  | 0, _, c => c
  | f + 1, i, c => if c ≤ 1000000000 then brC less k n f (i + 1) (if n ≤ i then c * less * k else c * less) else c
/-- how the code counts -/
def brD (F lim : Nat) : Nat → Nat → Option Nat
  | 0, p => some p
  | f + 1, p => if lim < p * F then none else brD F lim f (p * F)
def brCnt (n k : Nat) : Nat := brC (fact (k - 1)) k n (k ^ (n - 1)) 0 1
def brTab (n k : Nat) : Bool := match brD (fact k) (1000000000 * k ^ n) (k ^ (n - 1)) 1 with
  | some p => decide (brCnt n k = p / k ^ n) && decide (brCnt n k ≤ 1000000000)
  | none => decide (1000000000 < brCnt n k)
theorem br_tab : ∀ n, n < 11 → ∀ k, k < 7 → 1 ≤ n → 2 ≤ k → k ^ n ≤ 1024 → brTab n k = true := by decide +kernel
theorem br_half (n : Nat) (hn : n < 11) (k : Nat) (hk : k < 7) (h1 : 1 ≤ n) (h2 : 2 ≤ k) (hp : k ^ n ≤ 1024) : k ^ (n - 1) ≤ 512 ∧ k ^ n / k = k ^ (n - 1) := by
  obtain ⟨m, rfl⟩ : ∃ m, n = m + 1 := ⟨n - 1, by omega⟩
  rw [Nat.add_sub_cancel]
  rw [Nat.pow_succ] at hp ⊢
  refine ⟨?_, Nat.mul_div_cancel _ (by omega)⟩
  have := Nat.mul_le_mul_left (k ^ m) h2
  omega
theorem br_some {n k p : Nat} (ht : brTab n k = true) (h : brD (fact k) (1000000000 * k ^ n) (k ^ (n - 1)) 1 = some p) : brCnt n k = p / k ^ n ∧ brCnt n k ≤ 1000000000 := by
  unfold brTab at ht
  rw [h] at ht
  simpa using ht
theorem br_none {n k : Nat} (ht : brTab n k = true) (h : brD (fact k) (1000000000 * k ^ n) (k ^ (n - 1)) 1 = none) : 1000000000 < brCnt n k := by
  unfold brTab at ht
  rw [h] at ht
  simpa using ht
def cbB (n k : Int) : Bool := bruB n k && decide (brCnt n.toNat k.toNat ≤ 1000000000)
def cbN (n k : Int) : Int := atB (cbB n k) 0 (brCnt n.toNat k.toNat : Nat)
theorem cbB_0 {n k : Int} (h : bruB n k = false) : cbB n k = false := by unfold cbB; rw [h]; rfl
theorem cbB_1 {n k : Nat} (h : bruB n k = true) : cbB n k = decide (brCnt n k ≤ 1000000000) := by unfold cbB; rw [h, Bool.true_and, Int.toNat_natCast, Int.toNat_natCast]
theorem cbN_no {n k : Int} (h : cbB n k = false) : cbN n k = 0 := atB_no h
theorem cbN_yes {n k : Nat} (h : cbB n k = true) : cbN n k = (brCnt n k : Nat) := by unfold cbN; rw [atB_yes h, Int.toNat_natCast, Int.toNat_natCast]
theorem ret_nb7 {a a' : Int} {b b' : Bool} (h : a = a') (h' : b = b') : Ending.returned (.tuple #[.int .i64 a, .bool b]) = .returned (.tuple #[.int .i64 a', .bool b']) := by rw [h, h']
theorem fact_120 : ∀ n, n < 6 → 1 ≤ fact n ∧ fact n ≤ 120 := by decide
theorem brCount_any (n k : Nat) (w : World) (hn1 : 1 ≤ n) (hn : n < 11) (hk1 : 2 ≤ k) (hk : k < 7) (hp : k ^ n ≤ 1024) :
    Calls Try.prog 46 #[.int .i64 (n : Int), .int .i64 (k : Int)] w fun e w' => e = .returned (.int .i64 (brCnt n k : Nat)) ∧ w = w' := by
  go_enter Try.func46, Try.ntmps46
  go_wp2_with fail
  go_loop [5, 6] (fun l x => ∃ q : Nat, 2 ≤ q ∧ q ≤ k ∧ x = .int .i64 (q : Int) ∧ l = .int .i64 (fact (q - 1) : Nat)) (fun _ x => k - (intOf x).toNat)
  case atStart => exact ⟨2, Nat.le_refl _, hk1, rfl, rfl⟩
  case round =>
    obtain ⟨q, hq1, hq2, rfl, rfl⟩ := hrel
    by_cases hlt : q < k
    · have hf := fact_120 (q - 1) (by omega)
      have hf2 := fact_120 q (by omega)
      have HF := hid (show fact q = fact (q - 1) * q by
        obtain ⟨r, rfl⟩ : ∃ r, q = r + 1 := ⟨q - 1, by omega⟩
        rw [Nat.add_sub_cancel, fact, Nat.mul_comm])
      obtain ⟨F, hF⟩ : ∃ F, F = fact (q - 1) := ⟨_, rfl⟩
      rw [← hF] at HF hf ⊢
      obtain ⟨G, hG⟩ : ∃ G, G = fact q := ⟨_, rfl⟩
      have HG := hid hG
      rw [← hG] at HF hf2
      have hm : (F : Int) * (q : Int) = (G : Int) := by rw [HF.out]; simp
      have hm1 : (F : Int) * (q : Int) ≤ 120 := by rw [hm]; omega
      have hm2 : 0 ≤ (F : Int) * (q : Int) := by rw [hm]; omega
      clear hF hG hm
      go_wp2_with fail
      go_round
      case rel => exact ⟨q + 1, by omega, by omega, by go_num, by rw [Nat.add_sub_cancel, ← HG.out, HF.out]; go_num⟩
      case measure => simp [intOf]; omega
    · obtain rfl : q = k := by omega
      obtain ⟨L, hL⟩ : ∃ L, L = fact (q - 1) := ⟨_, rfl⟩
      have hl := fact_120 (q - 1) (by omega)
      rw [← hL] at hl ⊢
      have HC := hid (show brC L q n (q ^ (n - 1)) 0 1 = brCnt n q by rw [hL]; rfl)
      obtain ⟨M, hM⟩ : ∃ M, M = q ^ (n - 1) := ⟨_, rfl⟩
      have HM := hid (show pwI q (n - 1) = (M : Int) by rw [pwI_pow, hM])
      have hM5 := (br_half n hn q hk hn1 hk1 hp).1
      rw [← hM] at HC hM5
      clear hL hM
      have hn3 : (n : Int) - 1 = ((n - 1 : Nat) : Int) := by omega
      obtain ⟨n1, hn4⟩ : ∃ n1, n1 = n - 1 := ⟨_, rfl⟩
      rw [← hn4] at HM hn3
      have hn5 : n1 < 13 := by omega
      clear hn4
      go_wp2_with fail
      go_loop [7, 8] (fun cv iv => ∃ i c : Nat, iv = .int .i64 (i : Int) ∧ cv = .int .i64 (c : Int) ∧ i ≤ M ∧ c ≤ 720000000000 ∧ brC L q n (M - i) i c = brCnt n q) (fun _ iv => M - (intOf iv).toNat)
      case atStart => exact ⟨0, 1, rfl, rfl, Nat.zero_le _, by omega, HC.out⟩
      case round =>
        obtain ⟨i, c, rfl, rfl, hi, hc, hbc⟩ := hrel
        have HBC := hid hbc
        clear hbc
        by_cases hlt : i < M
        · by_cases hcl : c ≤ 1000000000
          · have HS := hid (show brC L q n (M - i) i c = brC L q n (M - (i + 1)) (i + 1) (if n ≤ i then c * L * q else c * L) by
              obtain ⟨f, hf⟩ : ∃ f, M - i = f + 1 := ⟨M - i - 1, by omega⟩
              rw [hf, brC, if_pos hcl]
              have : M - (i + 1) = f := by omega
              rw [this])
            have hcl2 : (c : Int) ≤ 1000000000 := by omega
            have hlt2 : (i : Int) < (M : Int) := by omega
            obtain ⟨d, hd⟩ : ∃ d, d = c * L := ⟨_, rfl⟩
            have hd1 : d ≤ 120000000000 := by rw [hd]; exact Nat.mul_le_mul hcl hl.2
            have hd2 : (c : Int) * (L : Int) = (d : Int) := by rw [hd]; simp
            rw [← hd] at HS
            have hd3 : (c : Int) * (L : Int) ≤ 120000000000 := by rw [hd2]; omega
            have hd4 : 0 ≤ (c : Int) * (L : Int) := by rw [hd2]; omega
            obtain ⟨e, he⟩ : ∃ e, e = d * q := ⟨_, rfl⟩
            have he1 : e ≤ 720000000000 := by rw [he]; exact Nat.mul_le_mul hd1 (show q ≤ 6 by omega)
            have he2 : (d : Int) * (q : Int) = (e : Int) := by rw [he]; simp
            have he3 : (d : Int) * (q : Int) ≤ 720000000000 := by rw [he2]; omega
            have he4 : 0 ≤ (d : Int) * (q : Int) := by rw [he2]; omega
            rw [← he] at HS
            clear hd he
            by_cases hni : n ≤ i
            · have hni2 : (n : Int) ≤ (i : Int) := by omega
              rw [if_pos hni] at HS
              go_wp2_with (first | (go_at_call 41; (refine (lyPower_any q n1 _ (by omega) hn5).mono ?_); (rintro e w' ⟨rfl, rfl⟩); (rw [HM.out])) | fail)
              go_round
              case rel => exact ⟨i + 1, e, by go_num, by first | rfl | rw [he2] | rw [← he2, ← hd2], by omega, he1, by rw [← HS.out, HBC.out]⟩
              case measure => simp [intOf]; omega
            · have hni2 : ¬ (n : Int) ≤ (i : Int) := by omega
              rw [if_neg hni] at HS
              go_wp2_with (first | (go_at_call 41; (refine (lyPower_any q n1 _ (by omega) hn5).mono ?_); (rintro e w' ⟨rfl, rfl⟩); (rw [HM.out])) | fail)
              go_round
              case rel => exact ⟨i + 1, d, by go_num, by first | rfl | rw [hd2], by omega, by omega, by rw [← HS.out, HBC.out]⟩
              case measure => simp [intOf]; omega
          · have HS := hid (show brCnt n q = c by
              obtain ⟨f, hf⟩ : ∃ f, M - i = f + 1 := ⟨M - i - 1, by omega⟩
              rw [← HBC.out, hf, brC, if_neg hcl])
            have hcl2 : ¬ (c : Int) ≤ 1000000000 := by omega
            have hlt2 : (i : Int) < (M : Int) := by omega
            go_wp2_with (first | (go_at_call 41; (refine (lyPower_any q n1 _ (by omega) hn5).mono ?_); (rintro e w' ⟨rfl, rfl⟩); (rw [HM.out])) | fail)
            go_ret
            exact ⟨ret_int (by rw [HS.out]), rfl⟩
        · obtain rfl : i = M := by omega
          have HS := hid (show brCnt n q = c by rw [← HBC.out, Nat.sub_self, brC])
          go_wp2_with (first | (go_at_call 41; (refine (lyPower_any q n1 _ (by omega) hn5).mono ?_); (rintro e w' ⟨rfl, rfl⟩); (rw [HM.out])) | fail)
          go_ret
          exact ⟨ret_int (by rw [HS.out]), rfl⟩
theorem spec_CountBruijn_any (n k : Int) (w : World) :
    Calls Try.prog 18 #[.int .i64 n, .int .i64 k] w fun e w' => e = .returned (.tuple #[.int .i64 (cbN n k), .bool (cbB n k)]) ∧ w = w' := by
  cases h1 : bruB n k with
  | false =>
    have HF := hid (cbB_0 h1)
    go_enter Try.func18, Try.ntmps18
    go_wp2_with (first | (go_at_call 40; (refine (brKind_any _ _ _).mono ?_); (rintro e w' ⟨rfl, rfl⟩); (rw [h1])) | fail)
    go_ret2
    exact ⟨ret_nb7 (cbN_no HF.out).symm HF.out.symm, rfl⟩
  | true =>
    obtain ⟨a, b, rfl, rfl, ha1, ha2, hb1, hb2, hp⟩ := bruB_nat h1
    obtain ⟨C, hC⟩ : ∃ C, C = brCnt a b := ⟨_, rfl⟩
    have HC := hid hC.symm
    by_cases hle : C ≤ 1000000000
    · have HF := hid ((cbB_1 h1).trans (decide_eq_true (by rw [← hC]; exact hle)))
      have HN := hid ((cbN_yes HF.out).trans (by rw [← hC]))
      have hle2 : ¬ (1000000000 : Int) < (C : Int) := by omega
      clear hC hle
      go_enter Try.func18, Try.ntmps18
      go_wp2_with (first
        | (go_at_call 40; (refine (brKind_any _ _ _).mono ?_); (rintro e w' ⟨rfl, rfl⟩); (rw [h1]))
        | (go_at_call 46; (refine (brCount_any a b _ ha1 ha2 hb1 hb2 hp).mono ?_); (rintro e w' ⟨rfl, rfl⟩); (rw [HC.out]))
        | fail)
      go_ret2
      exact ⟨ret_nb7 HN.out.symm HF.out.symm, rfl⟩
    · have HF := hid ((cbB_1 h1).trans (decide_eq_false (by rw [← hC]; exact hle)))
      have hle2 : (1000000000 : Int) < (C : Int) := by omega
      clear hC hle
      go_enter Try.func18, Try.ntmps18
      go_wp2_with (first
        | (go_at_call 40; (refine (brKind_any _ _ _).mono ?_); (rintro e w' ⟨rfl, rfl⟩); (rw [h1]))
        | (go_at_call 46; (refine (brCount_any a b _ ha1 ha2 hb1 hb2 hp).mono ?_); (rintro e w' ⟨rfl, rfl⟩); (rw [HC.out]))
        | fail)
      go_ret2
      exact ⟨ret_nb7 (cbN_no HF.out).symm HF.out.symm, rfl⟩
theorem impl_CountBruijn_any (n k : Int) (w : World) :
    Calls Try.prog 19 #[.int .i64 n, .int .i64 k] w fun e w' => e = .returned (.tuple #[.int .i64 (cbN n k), .bool (cbB n k)]) ∧ w = w' := by
  cases h1 : bruB n k with
  | false =>
    have HF := hid (cbB_0 h1)
    go_enter Try.func19, Try.ntmps19
    go_wp2_with (first | (go_at_call 42; (refine (bruijnLength_no _ _ _ h1).mono ?_); (rintro e w' ⟨⟨L, rfl⟩, rfl⟩)) | fail)
    go_ret2
    exact ⟨ret_nb7 (cbN_no HF.out).symm HF.out.symm, rfl⟩
  | true =>
    obtain ⟨a, b, rfl, rfl, ha1, ha2, hb1, hb2, hp⟩ := bruB_nat h1
    have HT := hid (br_tab a ha2 b hb2 ha1 hb1 hp)
    have hh := br_half a ha2 b hb2 ha1 hb1 hp
    have HBR := hid h1
    have hp1 : 1 ≤ b ^ a := by have := Nat.pow_le_pow_left (show 1 ≤ b by omega) a; rwa [Nat.one_pow] at this
    obtain ⟨P, hP⟩ : ∃ P, P = b ^ a := ⟨_, rfl⟩
    obtain ⟨M, hM⟩ : ∃ M, M = b ^ (a - 1) := ⟨_, rfl⟩
    obtain ⟨F, hF⟩ : ∃ F, F = fact b := ⟨_, rfl⟩
    have HS := hid (show ∀ p, brD F (1000000000 * P) M 1 = some p → cbB a b = true ∧ cbN a b = ((p / P : Nat) : Int) from fun p he => by
      rw [hP, hM, hF] at he
      have := br_some HT.out he
      have hc : cbB a b = true := (cbB_1 HBR.out).trans (decide_eq_true this.2)
      exact ⟨hc, by rw [cbN_yes hc, this.1, hP]⟩)
    have HNO := hid (show brD F (1000000000 * P) M 1 = none → cbB a b = false from fun he => by
      rw [hP, hM, hF] at he
      have := br_none HT.out he
      exact (cbB_1 HBR.out).trans (decide_eq_false (by omega)))
    have HP := hid hP.symm
    have hf := fact_le b (by omega)
    have hf720 : F ≤ 720 := by
      rw [hF]
      have : ∀ b, b < 7 → fact b ≤ 720 := by decide
      exact this b hb2
    have HFA := hid hF.symm
    rw [← hP] at hp hp1
    rw [← hP, ← hM] at hh
    obtain ⟨hM5, hq⟩ := hh
    have hq2 : (P : Int) / (b : Int) = (M : Int) := by rw [← hq]; simp
    have hq3 : (P : Int).tdiv (b : Int) = (M : Int) := by rw [Int.tdiv_eq_ediv_of_nonneg (by omega)]; exact hq2
    have hq4 : ((b : Int) == 0) = false := beq_eq_false_iff_ne.2 (by omega)
    have hq5 : IntKind.i64.wrap (M : Int) = (M : Int) := IntWalk.i64_in _ (by omega)
    clear hP hM hF hq hf h1
    go_enter Try.func19, Try.ntmps19
    go_wp2_with (first | (go_at_call 42; (refine (bruijnLength_yes a b _ HBR.out).mono ?_); (rintro e w' ⟨rfl, rfl⟩); (rw [HP.out])) | fail)
    go_loop [8, 20] (fun pv iv => ∃ i p : Nat, iv = .int .i64 (i : Int) ∧ pv = .int .i64 (p : Int) ∧ i ≤ M ∧ p ≤ 1000000000 * P ∧ brD F (1000000000 * P) (M - i) p = brD F (1000000000 * P) M 1) (fun _ iv => M - (intOf iv).toNat)
    case atStart => exact ⟨0, 1, rfl, rfl, Nat.zero_le _, by omega, rfl⟩
    case round =>
      obtain ⟨i, p, rfl, rfl, hi, hpp, hbd⟩ := hrel
      have HBD := hid hbd
      clear hbd
      have hpp2 : p ≤ 1024000000000 := by omega
      by_cases hlt : i < M
      · have hlt2 : (i : Int) < (M : Int) := by omega
        obtain ⟨d, hd⟩ : ∃ d, d = p * F := ⟨_, rfl⟩
        have hd1 : d ≤ 1024000000000 * 720 := by rw [hd]; exact Nat.mul_le_mul hpp2 hf720
        have hd2 : (p : Int) * (F : Int) = (d : Int) := by rw [hd]; simp
        have hd3 : (p : Int) * (F : Int) ≤ 737280000000000 := by rw [hd2]; omega
        have hd4 : 0 ≤ (p : Int) * (F : Int) := by rw [hd2]; omega
        by_cases hgr : 1000000000 * P < d
        · have HX := hid (HNO.out (by
            rw [← HBD.out]
            obtain ⟨f, hf⟩ : ∃ f, M - i = f + 1 := ⟨M - i - 1, by omega⟩
            rw [hf, brD, ← hd, if_pos hgr]))
          have hgr2 : (1000000000 : Int) * (P : Int) < (d : Int) := by omega
          clear hd hgr
          go_wp2_with (first | (go_at_call 47; (refine (factorial_any b _ (by omega)).mono ?_); (rintro e w' ⟨rfl, rfl⟩); (rw [HFA.out])) | fail)
          go_ret2
          exact ⟨ret_nb7 (cbN_no HX.out).symm HX.out.symm, rfl⟩
        · have HX := hid (show brD F (1000000000 * P) (M - i) p = brD F (1000000000 * P) (M - (i + 1)) d by
            obtain ⟨f, hf⟩ : ∃ f, M - i = f + 1 := ⟨M - i - 1, by omega⟩
            rw [hf, brD, ← hd, if_neg hgr]
            have : M - (i + 1) = f := by omega
            rw [this])
          have hgr2 : ¬ (1000000000 : Int) * (P : Int) < (d : Int) := by omega
          have HDL := hid (show d ≤ 1000000000 * P by omega)
          clear hd hgr
          go_wp2_with (first | (go_at_call 47; (refine (factorial_any b _ (by omega)).mono ?_); (rintro e w' ⟨rfl, rfl⟩); (rw [HFA.out])) | fail)
          go_round
          case rel => exact ⟨i + 1, d, by go_num, by first | rfl | rw [hd2], by omega, HDL.out, by rw [← HX.out, HBD.out]⟩
          case measure => simp [intOf]; omega
      · obtain rfl : i = M := by omega
        obtain ⟨s1, s2⟩ := HS.out p (by rw [← HBD.out, Nat.sub_self, brD])
        have HF := hid s1
        have HN := hid s2
        clear s1 s2
        obtain ⟨r, hr⟩ : ∃ r, r = p / P := ⟨_, rfl⟩
        rw [← hr] at HN
        have r2 : (p : Int) / (P : Int) = (r : Int) := by rw [hr]; simp
        have r3 : (p : Int).tdiv (P : Int) = (r : Int) := by rw [Int.tdiv_eq_ediv_of_nonneg (by omega)]; exact r2
        have r4 : ((P : Int) == 0) = false := beq_eq_false_iff_ne.2 (by omega)
        have hrp : r ≤ p := by rw [hr]; exact Nat.div_le_self _ _
        have r5 : IntKind.i64.wrap (r : Int) = (r : Int) := IntWalk.i64_in _ (by omega)
        clear hr
        go_wp2_with fail
        go_ret2
        exact ⟨ret_nb7 HN.out.symm HF.out.symm, rfl⟩
theorem law_spec_CountBruijn (n k : Int) (w : World) (_wn : (Lit.int .i64 n).wf = true) (_wk : (Lit.int .i64 k).wf = true) :
    Calls Try.prog 18 #[.int .i64 n, .int .i64 k] w fun e w' => e = .returned (.tuple #[.int .i64 (cbN n k), .bool (cbB n k)]) ∧ Below w.heap.size w w' :=
  (spec_CountBruijn_any n k w).mono fun e w' hh => ⟨hh.1, by rw [← hh.2]; exact Below.refl _ _⟩
theorem law_impl_CountBruijn (n k : Int) (w : World) (_wn : (Lit.int .i64 n).wf = true) (_wk : (Lit.int .i64 k).wf = true) :
    Calls Try.prog 19 #[.int .i64 n, .int .i64 k] w fun e w' => e = .returned (.tuple #[.int .i64 (cbN n k), .bool (cbB n k)]) ∧ Below w.heap.size w w' :=
  (impl_CountBruijn_any n k w).mono fun e w' hh => ⟨hh.1, by rw [← hh.2]; exact Below.refl _ _⟩
end Go.Proofs.Ytaajfpjekfmddab
