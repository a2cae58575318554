/- Contracts on the counts of Lyndon words, necklaces and bracelets: lyCount, countLyndon, lyNecklaces, countNecklaces, countLyndonUpTo, countMirrored, and the exported functions. Conditions: at most 6 letters, lengths 1 to 12, where not all ints are taken. -/
import Derived.Test.YtjghjlhjeibfoabLc1
namespace Go.Proofs.Ytjghjlhjeibfoab
open Go.RowKit
set_option linter.unusedVariables false
set_option maxRecDepth 4000

set_option maxHeartbeats 1000000 in
theorem lyCount_any (k : Nat) (hk : k < 7) (n : Nat) : ∀ (w : World), 1 ≤ n → n < 13 →
    Calls Try.prog 56 #[.int .i64 (n : Int), .int .i64 (k : Int)] w fun x w' => x = .returned (.int .i64 (lynC k n)) ∧ w = w' := by
  induction n using Nat.strongRecOn with
  | ind n ih =>
  intro w h1 hn
  have HIH := hid ih
  have HEQ := hid (lyn_eq k hk n hn)
  have HST := hid (sub_tab k hk n hn)
  have u0 : ((n : Int) == 0) = false := beq_eq_false_iff_ne.2 (by omega)
  clear ih
  go_enter Try.func56, Try.ntmps56
  go_wp2_with (first | (go_at_call 58; (refine (lyPower_any k n _ hk hn).mono ?_); (rintro e w' ⟨rfl, rfl⟩)) | fail)
  go_loop [5, 6] (fun cv dv => ∃ j d : Nat, dv = .int .i64 (d : Int) ∧ d = j + 1 ∧ d ≤ n ∧ cv = .int .i64 (subF (lynC k) k n j)) (fun _ dv => n - (intOf dv).toNat)
  case atStart => exact ⟨0, 1, rfl, rfl, h1, rfl⟩
  case round =>
    obtain ⟨j, d, rfl, hd, hdn, rfl⟩ := hrel
    by_cases hlt : d < n
    · obtain ⟨r, hr⟩ : ∃ r, r = n % d := ⟨_, rfl⟩
      obtain ⟨u1, u2⟩ := rem_nat hr
      have u3 : ((d : Int) == 0) = false := beq_eq_false_iff_ne.2 (by omega)
      have q1 : (d : Int) < (n : Int) := by omega
      have hrl : r < 13 := by rw [hr]; have := Nat.mod_lt n (show d > 0 by omega); omega
      have HDE := hid (show subF (lynC k) k n d = if n % d = 0 then subF (lynC k) k n j - (d : Int) * lynC k d else subF (lynC k) k n j by rw [hd]; rfl)
      have hs1 := HST.out j (by omega)
      have hs2 := HST.out d hlt
      have hl1 := lyn_tab k hk d (by omega)
      have hd1 : 1 ≤ d := by omega
      have HRE := hid hr
      obtain ⟨S, hS⟩ : ∃ S, S = subF (lynC k) k n j := ⟨_, rfl⟩
      rw [← hS] at hs1 HDE ⊢
      clear hd hr hS
      by_cases hr0 : r = 0
      · subst hr0
        have HX := hid (show subF (lynC k) k n d = S - (d : Int) * lynC k d by rw [HDE.out, if_pos HRE.out.symm])
        rw [HX.out] at hs2
        have HC := hid (HIH.out d hlt)
        obtain ⟨C, hC⟩ : ∃ C, C = lynC k d := ⟨_, rfl⟩
        rw [← hC] at HX HC hl1 hs2
        have hm0 : 0 ≤ (d : Int) * C := Int.mul_nonneg (by omega) hl1.1
        have hm1 : (d : Int) * C ≤ 2176782336 := by omega
        have hs3 := hs2.1
        have hs4 := hs2.2
        have HD1 := hid hd1
        have hd13 : d < 13 := by omega
        clear hC hs2 hl1
        go_wp2_with (first | (go_at_call 56; (refine (HC.out _ HD1.out hd13).mono ?_); (rintro e w' ⟨rfl, rfl⟩)) | fail)
        go_round
        case rel => exact ⟨d, d + 1, by go_num, rfl, by omega, by rw [HX.out]⟩
        case measure => simp [intOf]; omega
      · have HX := hid (show subF (lynC k) k n d = S by rw [HDE.out, if_neg (by rw [← HRE.out]; exact hr0)])
        have u4 : ((r : Int) == 0) = false := beq_eq_false_iff_ne.2 (by omega)
        clear hr0
        go_wp2_with fail
        go_round
        case rel => exact ⟨d, d + 1, by go_num, rfl, by omega, by rw [HX.out]⟩
        case measure => simp [intOf]; omega
    · obtain rfl : d = n := by omega
      have HJ := hid (show j = d - 1 by omega)
      have hs1 := HST.out j (by omega)
      have HE := hid (show lynC k d = subF (lynC k) k d j / (d : Int) by rw [HEQ.out, ← HJ.out])
      have hlc := lyn_tab k hk d hn
      rw [HE.out] at hlc
      obtain ⟨S, hS⟩ : ∃ S, S = subF (lynC k) k d j := ⟨_, rfl⟩
      rw [← hS] at hs1 HE hlc ⊢
      have hs2 := hs1.1
      have hs3 := hs1.2
      have hs4 := hlc.1
      have hs5 := hlc.2
      clear hd hS hs1 hlc
      go_wp2_with fail
      go_ret
      exact ⟨ret_int (by rw [HE.out]), rfl⟩
set_option maxHeartbeats 1000000 in
theorem countLyndon_any (k : Nat) (hk : k < 7) (n : Nat) : ∀ (w : World), 1 ≤ n → n < 13 →
    Calls Try.prog 57 #[.int .i64 (n : Int), .int .i64 (k : Int)] w fun x w' => x = .returned (.int .i64 (lynC k n)) ∧ Below w.heap.size w w' := by
  induction n using Nat.strongRecOn with
  | ind n ih =>
  intro w h1 hn
  have HIH := hid ih
  have HEQ := hid (lyn_eq k hk n hn)
  have HST := hid (subD_tab k hk n hn)
  have HSE := hid (subD_eq k hk n hn)
  have HDT := hid (div_tab n hn)
  have hdl := div_len n hn
  have u0 : ((n : Int) == 0) = false := beq_eq_false_iff_ne.2 (by omega)
  clear ih
  go_enter Try.func57, Try.ntmps57
  go_wp2_with (first
    | (go_at_call 76; (refine (powerOf_any k n _ hk hn).mono ?_); (rintro e w' ⟨rfl, rfl⟩))
    | (go_at_call 75; (refine (divisorsOf_any n _ h1 hn).mono ?_); (rintro e w1 ⟨g1, c1, rfl, ho1, hb1⟩); (have HO1 := hid ho1); (have HB1 := hid hb1); (clear ho1 hb1))
    | fail)
  obtain ⟨_, e1, e2, e3, _, HCL, _⟩ := Own_cells HO1.out
  have HC1 := hid HCL
  clear HCL e1 e2
  go_loopw [5, 7, 14] (fun cv _ iv wr => ∃ i : Nat, iv = .int .i64 (i : Int) ∧ i ≤ (divTo n n).length ∧ cv = .int .i64 (subD k n i) ∧ Below w.heap.size w wr ∧ Below w1.heap.size w1 wr) (fun _ _ iv _ => (divTo n n).length - (intOf iv).toNat)
  case atStart => exact ⟨0, rfl, Nat.zero_le _, rfl, HB1.out, Below.refl _ _⟩
  case round =>
    obtain ⟨i, rfl, hi, rfl, hbel, hbel1⟩ := hrel
    have HB := hid hbel
    have HB2 := hid hbel1
    have hs1 := HST.out i (by omega)
    by_cases hlt : i < (divTo n n).length
    · have hs2 := HST.out (i + 1) (by omega)
      have hdt := HDT.out i hlt
      have hcx : wr.cell? ⟨g1, i, none⟩ = some (.int .i64 ((divTo n n).getD i 0)) := by rw [getD_at hlt]; exact (hbel1.cell (by exact e3)).trans (HC1.out i hlt)
      obtain ⟨d, hd⟩ : ∃ d : Nat, (divTo n n).getD i 0 = (d : Int) := ⟨((divTo n n).getD i 0).toNat, by omega⟩
      have HDE := hid (show subD k n (i + 1) = if (d : Int) < (n : Int) then subD k n i - (d : Int) * lynC k d else subD k n i by
        rw [subD, hd, Int.toNat_natCast])
      rw [hd] at hcx hdt
      have hd1 : 1 ≤ d := by omega
      have hd2 : d ≤ n := by omega
      have q1 : (i : Int) < ((divTo n n).length : Int) := by omega
      obtain ⟨S, hS⟩ : ∃ S, S = subD k n i := ⟨_, rfl⟩
      rw [← hS] at hs1 HDE ⊢
      obtain ⟨ln, hln⟩ : ∃ ln, ln = (divTo n n).length := ⟨_, rfl⟩
      rw [← hln] at hi hlt q1 hdl ⊢
      have HLN := hid hln
      clear hd hS hdt hbel hbel1 hln
      by_cases hdn : d < n
      · have HX := hid (show subD k n (i + 1) = S - (d : Int) * lynC k d by rw [HDE.out, if_pos (by omega)])
        rw [HX.out] at hs2
        have HC := hid (HIH.out d hdn)
        have hl1 := lyn_tab k hk d (by omega)
        obtain ⟨C, hC⟩ : ∃ C, C = lynC k d := ⟨_, rfl⟩
        rw [← hC] at HX HC hl1 hs2
        have hm0 : 0 ≤ (d : Int) * C := Int.mul_nonneg (by omega) hl1.1
        have hm1 : (d : Int) * C ≤ 2176782336 := by omega
        have hs3 := hs2.1
        have hs4 := hs2.2
        have hd13 : d < 13 := by omega
        have HD1 := hid hd1
        clear hC hs2 hl1
        go_wp2_with (first | (go_at_call 57; (refine (HC.out _ HD1.out hd13).mono ?_); (rintro e w2 ⟨rfl, hb2⟩); (have HB3 := hid (Below_chain HB.out hb2)); (have HB4 := hid (Below_chain HB2.out hb2)); (clear hb2)) | fail)
        go_roundw
        case rel => exact ⟨i + 1, by go_num, by omega, by rw [HX.out], HB3.out, HB4.out⟩
        case measure => simp [intOf]; omega
      · have HX := hid (show subD k n (i + 1) = S by rw [HDE.out, if_neg (by omega)])
        have q2 : ¬ (d : Int) < (n : Int) := by omega
        clear hs2
        go_wp2_with fail
        go_roundw
        case rel => exact ⟨i + 1, by go_num, by omega, by rw [HX.out], HB.out, HB2.out⟩
        case measure => simp [intOf]; omega
    · obtain rfl : i = (divTo n n).length := by omega
      have HE := hid (show lynC k n = subD k n (divTo n n).length / (n : Int) by rw [HEQ.out, ← HSE.out])
      have hlc := lyn_tab k hk n hn
      rw [HE.out] at hlc
      obtain ⟨S, hS⟩ : ∃ S, S = subD k n (divTo n n).length := ⟨_, rfl⟩
      rw [← hS] at hs1 HE hlc ⊢
      have hs2 := hs1.1
      have hs3 := hs1.2
      have hs4 := hlc.1
      have hs5 := hlc.2
      clear hS hs1 hlc hbel hbel1
      go_wp2_with fail
      go_ret
      exact ⟨ret_int (by rw [HE.out]), HB.out⟩
end Go.Proofs.Ytjghjlhjeibfoab
