/- Contracts on the counts of necklaces and bracelets: lyNecklaces, countNecklaces, countLyndonUpTo, countMirrored, and the exported functions CountLyndon, CountNecklaces, CountBracelets. Conditions: at most 6 letters, lengths 1 to 12, where not all ints are taken. -/
import Derived.Test.YtjghjlhjeibfoabLc2
namespace Go.Proofs.Ytjghjlhjeibfoab
open Go.RowKit
set_option linter.unusedVariables false
set_option maxRecDepth 4000

set_option maxHeartbeats 1000000 in
theorem lyNecklaces_any (k n : Nat) (w : World) (hk : k < 7) (h1 : 1 ≤ n) (hn : n < 13) :
    Calls Try.prog 52 #[.int .i64 (n : Int), .int .i64 (k : Int)] w fun x w' => x = .returned (.int .i64 (necC k n)) ∧ w = w' := by
  have HST := hid (nec_tab k hk n hn)
  go_enter Try.func52, Try.ntmps52
  go_wp2_with fail
  go_loop [5, 6] (fun cv dv => ∃ j d : Nat, dv = .int .i64 (d : Int) ∧ d = j + 1 ∧ j ≤ n ∧ cv = .int .i64 (necT k n j)) (fun _ dv => n + 1 - (intOf dv).toNat)
  case atStart => exact ⟨0, 1, rfl, rfl, Nat.zero_le _, rfl⟩
  case round =>
    obtain ⟨j, d, rfl, hd, hjn, rfl⟩ := hrel
    by_cases hlt : j < n
    · obtain ⟨r, hr⟩ : ∃ r, r = n % d := ⟨_, rfl⟩
      obtain ⟨u1, u2⟩ := rem_nat hr
      have u3 : ((d : Int) == 0) = false := beq_eq_false_iff_ne.2 (by omega)
      have q1 : (d : Int) ≤ (n : Int) := by omega
      have hrl : r < 13 := by rw [hr]; have := Nat.mod_lt n (show d > 0 by omega); omega
      have HDE := hid (show necT k n d = if n % d = 0 then necT k n j + lynC k d else necT k n j by rw [hd]; rfl)
      have hs1 := HST.out j (by omega)
      have hs2 := HST.out d (by omega)
      have hl1 := lyn_tab k hk d (by omega)
      have hd1 : 1 ≤ d := by omega
      have hd13 : d < 13 := by omega
      have HRE := hid hr
      obtain ⟨S, hS⟩ : ∃ S, S = necT k n j := ⟨_, rfl⟩
      rw [← hS] at hs1 HDE ⊢
      clear hd hr hS
      by_cases hr0 : r = 0
      · subst hr0
        have HX := hid (show necT k n d = S + lynC k d by rw [HDE.out, if_pos HRE.out.symm])
        have HD1 := hid hd1
        obtain ⟨C, hC⟩ : ∃ C, C = lynC k d := ⟨_, rfl⟩
        rw [← hC] at HX hl1
        have HCE := hid hC
        have hl2 := hl1.1
        have hl3 := hl1.2
        clear hC hs2 hl1
        go_wp2_with (first | (go_at_call 56; (refine (lyCount_any k hk d _ HD1.out hd13).mono ?_); (rintro e w' ⟨rfl, rfl⟩); (rw [← HCE.out])) | fail)
        go_round
        case rel => exact ⟨d, d + 1, by go_num, rfl, by omega, by rw [HX.out]⟩
        case measure => simp [intOf]; omega
      · have HX := hid (show necT k n d = S by rw [HDE.out, if_neg (by rw [← HRE.out]; exact hr0)])
        have u4 : ((r : Int) == 0) = false := beq_eq_false_iff_ne.2 (by omega)
        clear hr0 hs2
        go_wp2_with fail
        go_round
        case rel => exact ⟨d, d + 1, by go_num, rfl, by omega, by rw [HX.out]⟩
        case measure => simp [intOf]; omega
    · obtain rfl : j = n := by omega
      have q1 : ¬ (d : Int) ≤ (j : Int) := by omega
      clear hd
      go_wp2_with fail
      go_ret
      exact ⟨rfl, rfl⟩
set_option maxHeartbeats 1000000 in
theorem countNecklaces_any (k n : Nat) (w : World) (hk : k < 7) (h1 : 1 ≤ n) (hn : n < 13) :
    Calls Try.prog 54 #[.int .i64 (n : Int), .int .i64 (k : Int)] w fun x w' => x = .returned (.int .i64 (necC k n)) ∧ Below w.heap.size w w' := by
  have HST := hid (necD_tab k hk n hn)
  have HSE := hid (necD_eq k hk n hn)
  have HDT := hid (div_tab n hn)
  have hdl := div_len n hn
  go_enter Try.func54, Try.ntmps54
  go_wp2_with (first
    | (go_at_call 75; (refine (divisorsOf_any n _ h1 hn).mono ?_); (rintro e w1 ⟨g1, c1, rfl, ho1, hb1⟩); (have HO1 := hid ho1); (have HB1 := hid hb1); (clear ho1 hb1))
    | fail)
  obtain ⟨_, e1, e2, e3, _, HCL, _⟩ := Own_cells HO1.out
  have HC1 := hid HCL
  clear HCL e1 e2
  go_loopw [5, 7, 11] (fun cv _ iv wr => ∃ i : Nat, iv = .int .i64 (i : Int) ∧ i ≤ (divTo n n).length ∧ cv = .int .i64 (necD k n i) ∧ Below w.heap.size w wr ∧ Below w1.heap.size w1 wr) (fun _ _ iv _ => (divTo n n).length - (intOf iv).toNat)
  case atStart => exact ⟨0, rfl, Nat.zero_le _, rfl, HB1.out, Below.refl _ _⟩
  case round =>
    obtain ⟨i, rfl, hi, rfl, hbel, hbel1⟩ := hrel
    have HB := hid hbel
    have HB2 := hid hbel1
    have hs1 := HST.out i (by omega)
    by_cases hlt : i < (divTo n n).length
    · have hs2 := HST.out (i + 1) (by omega)
      have hdt := HDT.out i hlt
      have hcx : wr.cell? ⟨g1, i, none⟩ = some (.int .i64 ((divTo n n).getD i 0)) := by rw [getD_at hlt]; exact (hbel1.cell (by exact e3)).trans (HC1.out i hlt)
      obtain ⟨d, hd⟩ : ∃ d : Nat, (divTo n n).getD i 0 = (d : Int) := ⟨((divTo n n).getD i 0).toNat, by omega⟩
      have HX := hid (show necD k n (i + 1) = necD k n i + lynC k d by rw [necD, hd, Int.toNat_natCast])
      rw [hd] at hcx hdt
      have hd1 : 1 ≤ d := by omega
      have hd13 : d < 13 := by omega
      have q1 : (i : Int) < ((divTo n n).length : Int) := by omega
      obtain ⟨S, hS⟩ : ∃ S, S = necD k n i := ⟨_, rfl⟩
      rw [← hS] at hs1 HX ⊢
      obtain ⟨ln, hln⟩ : ∃ ln, ln = (divTo n n).length := ⟨_, rfl⟩
      rw [← hln] at hi hlt q1 hdl ⊢
      have hl1 := lyn_tab k hk d (by omega)
      obtain ⟨C, hC⟩ : ∃ C, C = lynC k d := ⟨_, rfl⟩
      rw [← hC] at HX hl1
      have HCE := hid hC
      have hl2 := hl1.1
      have hl3 := hl1.2
      have HD1 := hid hd1
      clear hd hS hdt hbel hbel1 hln hC hs2 hl1
      go_wp2_with (first | (go_at_call 57; (refine (countLyndon_any k hk d _ HD1.out hd13).mono ?_); (rintro e w2 ⟨rfl, hb2⟩); (rw [← HCE.out]); (have HB3 := hid (Below_chain HB.out hb2)); (have HB4 := hid (Below_chain HB2.out hb2)); (clear hb2)) | fail)
      go_roundw
      case rel => exact ⟨i + 1, by go_num, by omega, by rw [HX.out], HB3.out, HB4.out⟩
      case measure => simp [intOf]; omega
    · obtain rfl : i = (divTo n n).length := by omega
      clear hbel hbel1
      go_wp2_with fail
      go_ret
      exact ⟨ret_int (by rw [HSE.out]), HB.out⟩
set_option maxHeartbeats 1000000 in
theorem countLyndonUpTo_any (k n : Nat) (w : World) (hk : k < 7) (hn : n < 13) :
    Calls Try.prog 50 #[.int .i64 (n : Int), .int .i64 (k : Int)] w fun x w' => x = .returned (.int .i64 (upT k n)) ∧ Below w.heap.size w w' := by
  have HST := hid (up_tab k hk)
  go_enter Try.func50, Try.ntmps50
  go_wp2_with fail
  go_loopw [5, 6] (fun cv dv wr => ∃ j d : Nat, dv = .int .i64 (d : Int) ∧ d = j + 1 ∧ j ≤ n ∧ cv = .int .i64 (upT k j) ∧ Below w.heap.size w wr) (fun _ dv _ => n + 1 - (intOf dv).toNat)
  case atStart => exact ⟨0, 1, rfl, rfl, Nat.zero_le _, rfl, Below.refl _ _⟩
  case round =>
    obtain ⟨j, d, rfl, hd, hjn, rfl, hbel⟩ := hrel
    have HB := hid hbel
    by_cases hlt : j < n
    · have q1 : (d : Int) ≤ (n : Int) := by omega
      have HX := hid (show upT k d = upT k j + lynC k d by rw [hd]; rfl)
      have hs1 := HST.out j (by omega)
      have hl1 := lyn_tab k hk d (by omega)
      have hd1 : 1 ≤ d := by omega
      have hd13 : d < 13 := by omega
      obtain ⟨S, hS⟩ : ∃ S, S = upT k j := ⟨_, rfl⟩
      rw [← hS] at hs1 HX ⊢
      obtain ⟨C, hC⟩ : ∃ C, C = lynC k d := ⟨_, rfl⟩
      rw [← hC] at HX hl1
      have HCE := hid hC
      have hl2 := hl1.1
      have hl3 := hl1.2
      have HD1 := hid hd1
      clear hd hS hC hl1 hbel
      go_wp2_with (first | (go_at_call 57; (refine (countLyndon_any k hk d _ HD1.out hd13).mono ?_); (rintro e w2 ⟨rfl, hb2⟩); (rw [← HCE.out]); (have HB3 := hid (Below_chain HB.out hb2)); (clear hb2)) | fail)
      go_roundw
      case rel => exact ⟨d, d + 1, by go_num, rfl, by omega, by rw [HX.out], HB3.out⟩
      case measure => simp [intOf]; omega
    · obtain rfl : j = n := by omega
      have q1 : ¬ (d : Int) ≤ (j : Int) := by omega
      clear hd hbel
      go_wp2_with fail
      go_ret
      exact ⟨rfl, HB.out⟩
theorem countMirrored_any (k n : Nat) (w : World) (hk : k < 7) (h1 : 1 ≤ n) (hn : n < 13) :
    Calls Try.prog 59 #[.int .i64 (n : Int), .int .i64 (k : Int)] w fun x w' => x = .returned (.int .i64 (mirC k n)) ∧ w = w' := by
  obtain ⟨a, ha⟩ : ∃ a, a = (n + 1) / 2 := ⟨_, rfl⟩
  obtain ⟨b, hb⟩ : ∃ b, b = n / 2 + 1 := ⟨_, rfl⟩
  have HE := hid (show mirC k n = (pwI k a + pwI k b) / 2 by rw [ha, hb]; rfl)
  have hm := mir_tab k hk n hn
  rw [HE.out] at hm
  have ha13 : a < 13 := by omega
  have hb13 : b < 13 := by omega
  have h3 := pw_tab k hk a ha13
  have h4 := pw_tab k hk b hb13
  have e1 : ((n : Int) + 1) / 2 = (a : Int) := by omega
  have e2 : (n : Int) / 2 + 1 = (b : Int) := by omega
  have h5 := h3.1
  have h6 := h3.2
  have h7 := h4.1
  have h8 := h4.2
  have h9 := hm.1
  have h10 := hm.2
  obtain ⟨A, hA⟩ : ∃ A, A = pwI k a := ⟨_, rfl⟩
  obtain ⟨B, hB⟩ : ∃ B, B = pwI k b := ⟨_, rfl⟩
  rw [← hA] at h5 h6 HE h9 h10
  rw [← hB] at h7 h8 HE h9 h10
  have HA := hid hA
  have HB := hid hB
  clear h3 h4 hm hA hB ha hb
  go_enter Try.func59, Try.ntmps59
  go_wp2_with (first
    | (go_at_call 76; (have HX := HF1); (refine (powerOf_any k b _ hk hb13).mono ?_); (rintro e w' ⟨rfl, rfl⟩); (rw [← HB.out]))
    | (go_at_call 76; (refine (powerOf_any k a _ hk ha13).mono ?_); (rintro e w' ⟨rfl, rfl⟩); (rw [← HA.out]); (have HF1 := hid trivial))
    | fail)
  go_ret
  exact ⟨ret_int (by rw [HE.out]), rfl⟩
end Go.Proofs.Ytjghjlhjeibfoab
