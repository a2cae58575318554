/- Contracts: lastRelated with isLess, nextLyndon, lyNext. Conditions: slices that are not nil and read as lists of 1 to 24 letters less than k, lengths 1 to 12, k in 1..6. -/
import Derived.Test.YtjghjlhjeibfoabLnM
import Derived.Test.YtjghjlhjeibfoabLy6
import Derived.Test.YtjghjlhjeibfoabEnd0
namespace Go.Proofs.Ytjghjlhjeibfoab
open Go.RowKit
set_option linter.unusedVariables false
set_option maxRecDepth 4000

theorem isLess_n_any (a b : Int) (w : World) : Calls Try.prog 71 #[.int .i64 a, .int .i64 b] w fun e w' => e = .returned (.bool (decide (a < b))) ∧ w = w' := by
  by_cases h : a < b
  all_goals
    go_enter Try.func71, Try.ntmps71
    go_wp2
    go_ret
    exact ⟨by simp; omega, rfl⟩
theorem lastRelated_less (v : Value) (xs : List Int) (x : Int) (w : World) (h : Reads w v xs) :
    Calls Try.prog 70 #[v, .int .i64 x, .func (.func 71) #[] #[]] w fun e w' => e = .returned (.int .i64 (lastIx (fun i => decide (xs.getD i 0 < x)) xs.length)) ∧ ∃ q, w' = w.drewN q := by
  obtain ⟨ao, c, rfl, hc1, hm, h⟩ := h.view
  have hc : ∀ (b off : Nat), True := fun _ _ => trivial
  rcases h with h | ⟨b, off, rfl, hb, hc⟩
  · subst h
    go_enter Try.func70, Try.ntmps70
    go_wp2
    refine wp_loop_rounds 1 ?_
    rw [rounds_succ]
    go_wp2
    go_ret
    exact ⟨rfl, 0, rfl⟩
  · obtain ⟨F, hF⟩ : ∃ F : Nat → Bool, F = fun i => decide (xs.getD i 0 < x) := ⟨_, rfl⟩
    have HFE := hid (fun (i : Nat) => show F i = decide (xs.getD i 0 < x) by rw [hF])
    rw [← hF]
    clear hF
    go_enter Try.func70, Try.ntmps70
    go_wp2
    go_loopw [7] (fun i wr => ∃ k : Nat, k ≤ xs.length ∧ i = .int .i64 ((k : Int) - 1) ∧ lastIx F xs.length = lastIx F k ∧ ∃ q, wr = w.drewN q) (fun i _ => (intOf i + 1).toNat)
    case atStart => exact ⟨xs.length, Nat.le_refl _, rfl, rfl, 0, rfl⟩
    case round =>
      obtain ⟨k, hk, rfl, hla, hq⟩ := hrel
      have HL := hid hla
      have HQ := hid hq
      clear hla hq
      cases k with
      | zero =>
        have hd : decide ((0 : Int) ≤ (-1 : Int)) = false := by decide
        rw [show (((0 : Nat) : Int) - 1) = -1 from rfl]
        clear hc
        go_wp2
        go_ret
        exact ⟨ret_int HL.out.symm, HQ.out⟩
      | succ j =>
        rw [show (((j + 1 : Nat) : Int) - 1) = (j : Int) from by omega]
        have hd : decide ((0 : Int) ≤ (j : Int)) = true := by simp
        have hcx : wr.cell? ⟨b, off + j, none⟩ = some (.int .i64 xs[j]) := by
          obtain ⟨q, rfl⟩ := HQ.out
          exact hc j (by omega)
        clear hc
        have q1 : (j : Int) < (xs.length : Int) := by omega
        have q2 : (0 : Int) ≤ (j : Int) := by omega
        by_cases hge : xs[j] < x
        · have hb1 : decide (xs[j] < x) = true := by simpa using hge
          have HF : Hid (F j = true) := by
            show F j = true
            rw [HFE.out, getD_at (show j < xs.length by omega)]; exact hb1
          clear hge
          go_wp2_with (go_at_call 71; refine (isLess_n_any _ _ _).mono ?_; rintro e w' ⟨rfl, rfl⟩)
          go_ret
          exact ⟨ret_int (by rw [HL.out, lastIx_yes HF.out]), HQ.out⟩
        · have hb1 : decide (xs[j] < x) = false := by simpa using hge
          have HF : Hid (F j = false) := by
            show F j = false
            rw [HFE.out, getD_at (show j < xs.length by omega)]; exact hb1
          clear hge
          go_wp2_with (go_at_call 71; refine (isLess_n_any _ _ _).mono ?_; rintro e w' ⟨rfl, rfl⟩)
          go_roundw
          case rel => exact ⟨j, by omega, rfl, by rw [HL.out, lastIx_no HF.out], HQ.out⟩
          case measure => simp [intOf]; try omega
def slLenN : Value → Nat
  | .slice _ n _ => n
  | _ => 0
theorem rem_nat9 {a b r : Nat} (h : r = a % b) : ((a : Int) % (b : Int) = (r : Int)) ∧ (a : Int).tmod (b : Int) = (r : Int) := by
  have h1 : (a : Int) % (b : Int) = (r : Int) := by rw [h]; simp
  exact ⟨h1, by rw [Int.tmod_eq_emod_of_nonneg (by omega)]; exact h1⟩
theorem set_last {o : List Int} {j : Nat} (h : j < o.length) (x : Int) : (o.set j x).take (j + 1) = o.take j ++ [x] := by
  rw [List.take_succ_eq_append_getElem (by simpa using h)]
  simp only [List.take_set, List.getElem_set_self]
  rw [List.set_eq_of_length_le (by simp; omega)]
set_option maxHeartbeats 1000000 in
theorem nextLyndon_any (v : Value) (xs : List Int) (n k : Nat) (w : World) (h : Sits w v xs) (h1 : 1 ≤ xs.length) (hl : xs.length ≤ 24) (hn1 : 1 ≤ n) (hn : n < 13) (hk1 : 1 ≤ k) (hk : k < 7) (hb : belL k xs) :
    Calls Try.prog 48 #[v, .int .i64 (n : Int), .int .i64 (k : Int)] w fun e w' => ∃ u, e = .returned (.tuple #[u, .bool (decide (0 < (nxL xs n k).length))]) ∧ OwnE w' w.heap.size u (nxL xs n k) ∧ Below w.heap.size w w' := by
  have HBA := hid (belL_ar hb h1 0 n)
  have hlast := nx_last (m := (k : Int) - 1) (o := arL xs 0 n) (fun i hi => (HBA.out i hi).2) (arL xs 0 n).length (Nat.le_refl _)
  have HNL := hid (nxOf_len ((k : Int) - 1) (arL xs 0 n))
  have HLE := hid (cutN_le ((k : Int) - 1) (arL xs 0 n) (arL xs 0 n).length)
  obtain ⟨i0, hi, hz0, hz1, hz2⟩ := info_parts Try.info3
  have hnb : n ≤ 1048576 := by omega
  have hlb : xs.length ≤ 1048576 := by omega
  have HAL := hid (arL_len xs 0 n)
  cases e : cutN ((k : Int) - 1) (arL xs 0 n) (arL xs 0 n).length with
  | zero =>
    have HX := hid (show nxL xs n k = [] from nxOf_zero e)
    rw [e] at hlast
    have HLA := hid hlast
    clear hlast e hb
    go_enter Try.func48, Try.ntmps48
    go_wp2_with (first
      | (go_at_call 55; (refine (around_any _ xs 0 n _ h (by omega) hnb h1 hlb).mono ?_); (rintro e w1 ⟨rfl, ho1, hb1⟩); (have HO1 := hid ho1); (have HB1 := hid hb1); (clear ho1 hb1))
      | (go_at_call 70; (refine (lastRelated_less _ (arL xs 0 n) _ _ HO1.out.reads).mono ?_); (rintro e w2 ⟨rfl, q2, rfl⟩); (rw [HLA.out]); (have HB2 := hid (below_drewN HB1.out q2)))
      | fail)
    go_ret2
    exact ⟨_, ret_sb7 (by rw [HX.out]; rfl), by rw [HX.out]; exact (Own.nil _ _).e, HB2.out⟩
  | succ j =>
    have HX := hid (show nxL xs n k = (arL xs 0 n).take j ++ [(arL xs 0 n).getD j 0 + 1] from nxOf_succ e)
    have HXL := hid (show (nxL xs n k).length = j + 1 by have := HNL.out; rw [e] at this; exact this)
    have hjn : j < n := by have := HLE.out; rw [e, HAL.out] at this; omega
    rw [e] at hlast
    have HLA := hid (show lastIx (fun i => decide ((arL xs 0 n).getD i 0 < (k : Int) - 1)) (arL xs 0 n).length = (j : Int) by rw [hlast]; omega)
    have hbj := HBA.out j (by rw [HAL.out]; exact hjn)
    obtain ⟨O, hO⟩ : ∃ O, O = arL xs 0 n := ⟨_, rfl⟩
    rw [← hO] at HX HLA hbj HAL
    have HOE := hid hO
    obtain ⟨x, hx⟩ : ∃ x, x = O.getD j 0 := ⟨_, rfl⟩
    rw [← hx] at HX hbj
    have HXE := hid hx
    have HSL := hid (set_last (o := O) (j := j) (by rw [HAL.out]; exact hjn) (x + 1))
    have p0 : (0 : Int) ≤ (j : Int) := by omega
    have p1 : (j : Int) < (n : Int) := by omega
    have p2 : (j : Int) + 1 ≤ (n : Int) := by omega
    have p3 : (0 : Int) ≤ (j : Int) + 1 := by omega
    obtain ⟨j1, hj1⟩ : ∃ j1, j1 = j + 1 := ⟨_, rfl⟩
    have p4 : (j : Int) + 1 = (j1 : Int) := by omega
    have p5 : (j1 : Int) ≤ (n : Int) := by omega
    have p6 : (0 : Int) ≤ (j1 : Int) := by omega
    have HJ1 := hid hj1
    clear hlast e hb hO hx hj1
    go_enter Try.func48, Try.ntmps48
    go_wp2_with (first
      | (go_at_call 55; (refine (around_any _ xs 0 n _ h (by omega) hnb h1 hlb).mono ?_); (rintro e w1 ⟨rfl, ho1, hb1⟩); (rw [← HOE.out] at ho1); (have HO1 := hid ho1); (have HB1 := hid hb1); (clear ho1 hb1))
      | (go_at_call 70; (refine (lastRelated_less _ O _ _ HO1.out.reads).mono ?_); (rintro e w2 ⟨rfl, hq2⟩); (rw [HLA.out]); (have HB2 := hid (show Below w1.heap.size w1 w2 by obtain ⟨q, rfl⟩ := hq2; exact below_drewN (Below.refl _ _) q)); (have HO2 := hid (HO1.out.below HB2.out)); (clear hq2); (have hcl := (Own_cells HO2.out).2.2.2.2.2.1 j (by rw [HAL.out]; exact hjn)); (rw [← getD_at, ← HXE.out] at hcl); (have hfr := (Own_cells HO2.out).2.2.2.2.2.2 j); (have HS2 := hid (Own.set (by rw [HAL.out]; exact HO2.out) j (x + 1))); (rw [HAL.out] at HS2); (have HSC := hid ((show Own _ w.heap.size (.slice (some ⟨w.heap.size, 0, none⟩) n n) (O.set j (x + 1)) from HS2.out.1).cut (j + 1) (by rw [List.length_set, HAL.out]; omega))); (rw [HSL.out, ← HX.out, ← HJ1.out] at HSC); (have HB3 := hid ((Below_chain HB1.out HB2.out).grown HS2.out.2 (Below_chain HB1.out HB2.out).size (fun q hq => by simp only [Option.some.injEq] at hq; omega))); (have HS3 := hid (Below_chain HB1.out HB2.out).size))
      | (go_at_call 72; (refine (ended_any w.heap.size _ (nxL xs n k) _ HSC.out).mono ?_); (rintro e w4 ⟨u, rfl, ho, _, rfl⟩); (have HO4 := hid ho); (clear ho))
      | fail)
    go_ret2
    exact ⟨_, ret_sb7 (by rw [HXL.out]; simp), HO4.out, HB3.out⟩
theorem Own.nz {w : World} {B : Nat} {v : Value} {xs : List Int} (h : Own w B v xs) (h1 : 1 ≤ xs.length) : ∃ g c, v = .slice (some ⟨g, 0, none⟩) xs.length c ∧ xs.length ≤ c ∧ c ≤ 9223372036854775807 := by
  rcases h.form with ⟨_, e⟩ | ⟨g, cap, rfl, _, _, h3, h4, _⟩
  · rw [e] at h1; simp at h1
  · exact ⟨g, cap, rfl, h3, by unfold maxLen at h4; omega⟩
theorem cutN_eq {m : Int} {o : List Int} {j : Nat} (h : o.getD j 0 = m) : cutN m o (j + 1) = cutN m o j := by rw [cutN, if_pos h]
theorem cutN_stop {m : Int} {o : List Int} {j : Nat} (h : o.getD j 0 ≠ m) : cutN m o (j + 1) = j + 1 := by rw [cutN, if_neg h]
set_option maxHeartbeats 2000000 in
theorem lyNext_any (v : Value) (xs : List Int) (n k : Nat) (w : World) (h : Sits w v xs) (h1 : 1 ≤ xs.length) (hl : xs.length ≤ 24) (hn1 : 1 ≤ n) (hn : n < 13) (hk1 : 1 ≤ k) (hk : k < 7) (hbl : belL k xs) :
    Calls Try.prog 44 #[v, .int .i64 (n : Int), .int .i64 (k : Int)] w fun e w' => ∃ g c, e = .returned (.slice (some ⟨g, 0, none⟩) (nxL xs n k).length c) ∧ Own w' w.heap.size (.slice (some ⟨g, 0, none⟩) (nxL xs n k).length c) (nxL xs n k) ∧ Below w.heap.size w w' := by
  obtain ⟨b, off, c, rfl, hc1, hm, hb, hc⟩ := h
  obtain ⟨i0, hi, hz0, hz1, hz2⟩ := info_parts Try.info3
  have HC := hid hc
  have HBA := hid (belL_ar hbl h1 0 n)
  have HAL := hid (arL_len xs 0 n)
  clear hc hbl
  go_enter Try.func44, Try.ntmps44
  go_wp2_with fail
  go_loopw [7] (fun vp wr => ∃ (j cc : Nat) (ao : Option Addr), vp = .slice ao j cc ∧ j ≤ n ∧ Own wr w.heap.size (.slice ao j cc) (arL xs 0 j) ∧ Below w.heap.size w wr) (fun s _ => n - slLenN s)
  case atStart => exact ⟨0, 0, none, rfl, Nat.zero_le _, Own.nil _ _, Below.refl _ _⟩
  case round =>
    obtain ⟨j, cc, ao, rfl, hj, hown, hbel⟩ := hrel
    have HO := hid hown
    have HB := hid hbel
    by_cases hlt : j < n
    · obtain ⟨q, hq⟩ : ∃ q, q = j % xs.length := ⟨_, rfl⟩
      have hq1 : q < xs.length := by rw [hq]; exact Nat.mod_lt _ (by omega)
      obtain ⟨x, hx⟩ : ∃ x, x = xs[q] := ⟨_, rfl⟩
      have hcx : wr.cell? ⟨b, off + q, none⟩ = some (.int .i64 x) := by rw [hx]; exact (hbel.cell (by exact hb)).trans (HC.out q hq1)
      obtain ⟨u1, u2⟩ := rem_nat9 hq
      have u3 : ((xs.length : Int) == 0) = false := beq_eq_false_iff_ne.2 (by omega)
      have u4 : (0 : Int) ≤ (q : Int) := by omega
      have u5 : (q : Int) < (xs.length : Int) := by omega
      have u6 : IntKind.i64.wrap (q : Int) = (q : Int) := IntWalk.i64_in _ (by omega)
      have HD := hid (show arL xs 0 (j + 1) = arL xs 0 j ++ [x] by rw [arL_succ, Nat.zero_add, ← hq, getD_at hq1, hx])
      have hjb : j ≤ 1048576 := by omega
      have q1 : (j : Int) < (n : Int) := by omega
      clear hown hbel hq hx
      go_wp2_with (first
        | (at_builtin; (refine wpList_push _ rfl _ _ 22 rfl w.heap.size i0 Try.underlying22 hi hz0 hz1 hz2 ao j cc (arL xs 0 j) rfl HO.out x wr.heap.size rfl rfl hjb HB.out.size ?_); (intro g5 c5 w5 hp5); (have HO5 := hid (show Own w5 w.heap.size (.slice (some ⟨g5, 0, none⟩) (j + 1) c5) (arL xs 0 (j + 1)) by rw [HD.out]; exact hp5.own)); (have HB5 := hid (hp5.below w rfl HB.out)); (clear hp5))
        | fail)
      go_roundw
      case rel => exact ⟨j + 1, c5, _, rfl, by omega, HO5.out, HB5.out⟩
      case measure => simp only [slLenN]; omega
    · obtain rfl : j = n := by omega
      obtain ⟨g, c9, e9, hcc1, hcc2⟩ := hown.nz (by rw [HAL.out]; exact hn1)
      simp only [Value.slice.injEq] at e9
      obtain ⟨rfl, hle9, rfl⟩ := e9
      clear hle9
      have q1 : ¬ (j : Int) < (j : Int) := by omega
      obtain ⟨O, hO⟩ : ∃ O, O = arL xs 0 j := ⟨_, rfl⟩
      rw [← hO] at HO HBA HAL
      have HX := hid (show nxL xs j k = nxOf ((k : Int) - 1) O by rw [hO]; rfl)
      have HCO := hid (Own_cells HO.out)
      obtain ⟨m, hm9⟩ : ∃ m, m = (k : Int) - 1 := ⟨_, rfl⟩
      rw [← hm9] at HX
      have hjc : j ≤ cc := by rw [arL_len] at hcc1; exact hcc1
      have hm1 : 0 ≤ m := by omega
      have hm2 : m ≤ 5 := by omega
      have HBM := hid (fun i hi => show 0 ≤ O.getD i 0 ∧ O.getD i 0 ≤ m by rw [hm9]; exact HBA.out i hi)
      obtain ⟨wo, hwo⟩ : ∃ wo : World, wo = wr := ⟨_, rfl⟩
      have HKM := hid (show m = (k : Int) - 1 from hm9)
      have HOL := hid (show O.length = j from HAL.out)
      have HNX := hid (show nxL xs j k = nxOf m O from HX.out)
      clear hown hbel hO hm9 hcc1 hj hlt
      go_wp2_with fail
      subst hwo
      go_loop [7] (fun vp => ∃ i : Nat, vp = .slice (some ⟨g, 0, none⟩) i cc ∧ i ≤ j ∧ cutN m O O.length = cutN m O i) (fun s => slLenN s)
      case atStart => exact ⟨j, rfl, Nat.le_refl _, by rw [HOL.out]⟩
      case round =>
        obtain ⟨i, rfl, hij, hcut⟩ := hrel
        have HCU := hid hcut
        clear hcut
        cases i with
        | zero =>
          have HZ := hid (show nxL xs j k = [] by rw [HNX.out]; exact nxOf_zero HCU.out)
          go_wp2_with fail
          go_ret
          exact ⟨g, cc, by rw [HZ.out]; rfl, by rw [HZ.out]; have h9 := HO.out.cut 0 (Nat.zero_le _); rw [List.take_zero] at h9; exact h9, HB.out⟩
        | succ i =>
          have hcl := HCO.out.2.2.2.2.2.1 i (by rw [HOL.out]; omega)
          have hfr := HCO.out.2.2.2.2.2.2 i
          rw [← getD_at] at hcl
          have hbm := HBM.out i (by rw [HOL.out]; omega)
          have HCE := hid (fun e => cutN_eq (m := m) (o := O) (j := i) e)
          have HCS := hid (fun e => cutN_stop (m := m) (o := O) (j := i) e)
          have HST := hid (fun x => set_last (o := O) (j := i) (by rw [HOL.out]; omega) x)
          have HNS := hid (fun h => show nxL xs j k = O.take i ++ [O.getD i 0 + 1] by rw [HNX.out]; exact nxOf_succ h)
          have HSE := hid (fun x => Own.set (w := wo) (base := w.heap.size) (g := g) (cap := cc) (xs := O) (by rw [HOL.out]; exact HO.out) i x)
          obtain ⟨x, hx⟩ : ∃ x, x = O.getD i 0 := ⟨_, rfl⟩
          rw [← hx] at hcl hbm HCE HCS HNS
          obtain ⟨i1, hi1⟩ : ∃ i1, i1 = i + 1 := ⟨_, rfl⟩
          rw [← hi1] at HCU HCE HCS HNS HST hij ⊢
          have p0 : (0 : Int) < (i1 : Int) := by omega
          have p1 : (i1 : Int) - 1 = (i : Int) := by omega
          have p2 : (0 : Int) ≤ (i : Int) := by omega
          have p3 : (i : Int) < (i1 : Int) := by omega
          have p4 : (i : Int) ≤ (cc : Int) := by omega
          have hi1c : i1 ≤ 13 := by omega
          have HI1 := hid hi1
          have HIJ := hid hij
          clear hx hi1
          by_cases he : x = m
          · have hbb : (x == (k : Int) - 1) = true := by rw [he, HKM.out]; simp
            have HN2 := hid (HCU.out.trans (HCE.out he))
            clear he
            go_wp2_with fail
            go_round
            case rel => exact ⟨i, rfl, by have := HIJ.out; have := HI1.out; omega, HN2.out⟩
            case measure => simp only [slLenN]; have := HI1.out; omega
          · have hbb : (x == (k : Int) - 1) = false := by rw [← HKM.out]; exact beq_eq_false_iff_ne.2 he
            have HN2 := hid (HNS.out (HCU.out.trans (HCS.out he)))
            have HL2 := hid (show (nxL xs j k).length = i1 by rw [HN2.out, HI1.out]; have := HIJ.out; rw [HI1.out] at this; simp [HOL.out]; omega)
            have HS2 := hid (HSE.out (x + 1))
            have HS3 := hid (show Own (wo.setCell ⟨g, i, none⟩ (.int .i64 (x + 1))) w.heap.size (.slice (some ⟨g, 0, none⟩) i1 cc) (nxL xs j k) by
              have h9 := HS2.out.1.cut i1 (by rw [List.length_set, HOL.out]; exact HIJ.out)
              rw [HST.out, ← HN2.out] at h9
              exact h9)
            have HB3 := hid (HB.out.grown HS2.out.2 HB.out.size (fun q hq => by have := HCO.out.2.2.2.2.1; simp only [Option.some.injEq] at hq; omega))
            clear he
            go_wp2_with fail
            go_ret
            exact ⟨g, cc, by rw [HL2.out]; rfl, by rw [HL2.out]; exact HS3.out, HB3.out⟩
end Go.Proofs.Ytjghjlhjeibfoab
