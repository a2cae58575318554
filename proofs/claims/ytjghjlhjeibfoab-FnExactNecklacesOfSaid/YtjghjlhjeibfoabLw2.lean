/- Contracts: allLyndonUpTo, lyList, both LyndonUpTo. Conditions: ints in their range. -/
import Derived.Test.YtjghjlhjeibfoabLw1
import Derived.Test.YtjghjlhjeibfoabKind
namespace Go.Proofs.Ytjghjlhjeibfoab
open Go.RowKit
set_option linter.unusedVariables false
set_option maxRecDepth 4000

theorem own_one (W : World) (x : Int) : Own (W.alloc (.cells #[.int .i64 x] 3)) W.heap.size (.slice (some ⟨W.heap.size, 0, none⟩) 1 1) [x] := by
  refine Own.of_rowIs (xs := [x]) (World.rowIs_alloc W #[.int .i64 x] 3 (fun t => .int .i64 ([x].getD t 0)) (fun t ht => ?_)) rfl (by unfold maxLen; omega)
  match t, ht with
  | 0, _ => rfl
  | t + 1, h => exact absurd h (by simp)
def luB (n k : Int) : Bool := kindB n k && decide (upT k.toNat n.toNat ≤ 1100)
def luRes (n k : Int) : List (List Int) := if luB n k = true then wdTo n.toNat k.toNat (upT k.toNat n.toNat).toNat else []
theorem luRes_yes {n k : Int} (h : luB n k = true) : luRes n k = wdTo n.toNat k.toNat (upT k.toNat n.toNat).toNat := by unfold luRes; rw [if_pos h]
theorem luRes_no {n k : Int} (h : luB n k = false) : luRes n k = [] := by unfold luRes; rw [if_neg (by rw [h]; simp)]
theorem bound_LyndonUpTo (n k : Int) : preLen (luRes n k) (luRes n k).length ≤ 100000 := by
  cases h : luB n k with
  | false => rw [luRes_no h]; exact Nat.zero_le _
  | true =>
    rw [luRes_yes h, wdTo_len]
    simp only [luB, Bool.and_eq_true, decide_eq_true_eq] at h
    obtain ⟨a, b, rfl, rfl, h1, h2, h3, h4⟩ := kindB_nat h.1
    rw [Int.toNat_natCast, Int.toNat_natCast] at h ⊢
    obtain ⟨C, hC, hC2, hW⟩ := up_few h1 h2 h3 h4 h.2
    have e : (upT b a).toNat = C := by omega
    rw [e]
    have := preLen_le (L := wdTo a b C) (c := 12) (fun l hl => by
      obtain ⟨j, hj, rfl⟩ := wdTo_mem C l hl
      have := (hW.word h1 h2 h3 h4 hj).2.1
      omega) C
    omega
set_option maxHeartbeats 1000000 in
theorem allLyndonUpTo_any (n k C : Nat) (w : World) (hn1 : 1 ≤ n) (hn : n < 13) (hk1 : 1 ≤ k) (hk : k < 7) (hWC : WdC n k C) (hCu : (C : Int) = upT k n) (hC0 : 0 < C) (hC : C ≤ 1400) :
    Calls Try.prog 51 #[.int .i64 (n : Int), .int .i64 (k : Int)] w fun e w' => ∃ aA c0, e = .returned (.slice aA C c0) ∧ GrL w' w.heap.size w'.heap.size (.slice aA C c0) (wdTo n k C) ∧ Below w.heap.size w w' := by
  obtain ⟨wb, hwb⟩ : ∃ wb, wb = (w.alloc (.cells #[.int .i64 (n : Int)] 3)).alloc (.cells #[.int .i64 (k : Int)] 3) := ⟨_, rfl⟩
  have HSZ := hid (show wb.heap.size = w.heap.size + 2 by rw [hwb]; simp)
  have HCN := hid (show wb.cell? ⟨w.heap.size, 0, none⟩ = some (.int .i64 (n : Int)) by rw [hwb, World.cell?_alloc_past _ _ _ (by simp)]; simp)
  have HCK := hid (show wb.cell? ⟨w.heap.size + 1, 0, none⟩ = some (.int .i64 (k : Int)) by
    rw [hwb]
    simp)
  have HBW := hid (show Below w.heap.size w wb by rw [hwb]; exact ((Below.refl _ _).alloc (Nat.le_refl _) _).alloc (by simp) _)
  have HO0 := hid (show Own (wb.alloc (.cells #[.int .i64 0] 3)) (w.heap.size + 1 + 1) (.slice (some ⟨w.heap.size + 1 + 1, 0, none⟩) 1 1) [0] by
    have h9 := own_one wb 0
    rw [HSZ.out] at h9
    exact h9)
  have HB1 := hid (show Below w.heap.size w (wb.alloc (.cells #[.int .i64 0] 3)) from HBW.out.alloc HBW.out.size _)
  have HCN1 := hid (show (wb.alloc (.cells #[.int .i64 0] 3)).cell? ⟨w.heap.size, 0, none⟩ = some (.int .i64 (n : Int)) by rw [World.cell?_alloc_past _ _ _ (by rw [HSZ.out]; show w.heap.size < w.heap.size + 2; omega)]; exact HCN.out)
  have HCK1 := hid (show (wb.alloc (.cells #[.int .i64 0] 3)).cell? ⟨w.heap.size + 1, 0, none⟩ = some (.int .i64 (k : Int)) by rw [World.cell?_alloc_past _ _ _ (by rw [HSZ.out]; show w.heap.size + 1 < w.heap.size + 2; omega)]; exact HCK.out)
  have HS1 := hid (show (wb.alloc (.cells #[.int .i64 0] 3)).heap.size = w.heap.size + 3 by simp [HSZ.out])
  have HWB := hid hwb
  have HCU := hid hCu
  have HWC := hid hWC
  clear hwb hCu hWC
  go_enter Try.func51, Try.ntmps51
  go_wp2_with (first
    | (go_at_call 50; (rw [← HWB.out]); (refine (countLyndonUpTo_any k n _ hk hn).mono ?_); (rintro e w2 ⟨rfl, hb2⟩); (rw [← HCU.out]); (have HN2 := hid ((hb2.cell (p := ⟨w.heap.size, 0, none⟩) (by rw [HS1.out]; show w.heap.size < w.heap.size + 3; omega)).trans HCN1.out)); (have HK2 := hid ((hb2.cell (p := ⟨w.heap.size + 1, 0, none⟩) (by rw [HS1.out]; show w.heap.size + 1 < w.heap.size + 3; omega)).trans HCK1.out)); (have HO2 := hid (HO0.out.below hb2)); (have HB2 := hid (Below_chain HB1.out hb2)); (have HZ2 := hid (show w.heap.size + 1 + 1 ≤ w2.heap.size by have := hb2.size; rw [HS1.out] at this; omega)); (clear hb2))
    | (go_at_call 74; (refine (listFrom_w n k C hn1 hn hk1 hk HWC.out hC0 hC (w.heap.size + 1 + 1) ⟨w.heap.size, 0, none⟩ ⟨w.heap.size + 1, 0, none⟩ (w.heap.size + 1 + 1) _ HN2.out HK2.out (by show w.heap.size < w.heap.size + 1 + 1; omega) (by show w.heap.size + 1 < w.heap.size + 1 + 1; omega) HZ2.out HO2.out).mono ?_); (rintro e w3 ⟨aA, c0, rfl, hg3, hb3⟩); (have HG3 := hid hg3); (have HB3 := hid (HB2.out.trans (hb3.mono (by omega)))); (clear hg3 hb3))
    | fail)
  go_ret
  exact ⟨_, _, rfl, HG3.out.base (by omega), HB3.out⟩
set_option maxHeartbeats 1000000 in
theorem lyList_any (n k : Nat) (w : World) (hn1 : 1 ≤ n) (hn : n < 13) (hk1 : 1 ≤ k) (hk : k < 7) :
    Calls Try.prog 49 #[.int .i64 (n : Int), .int .i64 (k : Int)] w fun e w' => ∃ aA c0 K, e = .returned (.slice aA K c0) ∧ Lists w' w.heap.size (.slice aA K c0) (wdTo n k K) ∧ K ≤ 1101 ∧ (∀ j, j < K → wdL n k j ≠ []) ∧ (K ≤ 1100 → wdL n k K = []) ∧ Below w.heap.size w w' := by
  obtain ⟨j0, hj, hy0, hy1, hy2⟩ := info_parts Try.infoL
  have HO0 := hid (own_one w 0)
  have HB0 := hid ((Below.refl w.heap.size w).alloc (Nat.le_refl _) (.cells #[.int .i64 0] 3))
  go_enter Try.func49, Try.ntmps49
  go_wp2_with fail
  go_loopw [5, 6] (fun lv vv wr => ∃ (i c0 m c : Nat) (aA ao : Option Addr), lv = .slice aA i c0 ∧ vv = .slice ao m c ∧ m = (wdL n k i).length ∧ i ≤ 1101 ∧ Own wr w.heap.size (.slice ao m c) (wdL n k i) ∧ Lists wr w.heap.size (.slice aA i c0) (wdTo n k i) ∧ (∀ j, j < i → wdL n k j ≠ []) ∧ Below w.heap.size w wr) (fun lv _ _ => 1102 - slLenN lv)
  case atStart => exact ⟨0, 0, 1, 1, none, _, rfl, rfl, rfl, Nat.zero_le _, HO0.out, Lists.nil _ _, fun j hj => by omega, HB0.out⟩
  case round =>
    obtain ⟨i, c0, m, c, aA, ao, rfl, rfl, hm, hi, hown, hli, hno, hbel⟩ := hrel
    have HO := hid hown
    have HL := hid hli
    have HNO := hid hno
    have HB := hid hbel
    have HM := hid hm
    clear hown hli hno hbel
    by_cases hm0 : 0 < m
    · have q1 : (0 : Int) < (m : Int) := by omega
      have hne : wdL n k i ≠ [] := by intro e; rw [e] at hm; simp at hm; omega
      have HN2 := hid (show ∀ j, j < i + 1 → wdL n k j ≠ [] from fun j hj => by
        by_cases e : j = i
        · rw [e]; exact hne
        · exact HNO.out j (by omega))
      by_cases hi2 : i ≤ 1100
      · have q2 : (i : Int) ≤ 1100 := by omega
        have hw := wd_words hn1 hn hk1 hk i (fun j hj => HN2.out j (by omega))
        have HTS := hid (show wdTo n k i ++ [wdL n k i] = wdTo n k (i + 1) from rfl)
        have HX := hid (show nxL (wdL n k i) n k = wdL n k (i + 1) from rfl)
        obtain ⟨W, hW⟩ : ∃ W, W = wdL n k i := ⟨_, rfl⟩
        rw [← hW] at HO hw HTS HX
        have hw1 := hw.1
        have hw2 := hw.2.1
        have HBE := hid hw.2.2
        have hSE := hid (fun (W' : World) (h : Own W' w.heap.size (.slice ao m c) W) => OwnE.sitsN h.e hw1)
        clear hm hW hw hne
        go_wp2_with (first
          | (at_builtin; (refine wpList_pushL2 _ rfl _ _ 32 rfl w.heap.size j0 Try.underlying32 hj hy0 hy1 hy2 aA i c0 (wdTo n k i) rfl HL.out (.slice ao m c) W HO.out wr.heap.size rfl rfl (by omega) HB.out.size ?_); (intro g4 c4 w4 hl4 hu4 hb4); (rw [HTS.out] at hl4); (have HL4 := hid hl4); (have HU4 := hid hu4); (have HB4 := hid (hb4 w rfl HB.out)); (clear hl4 hu4 hb4))
          | (go_at_call 44; (refine (lyNext_any _ W n k _ (hSE.out _ HU4.out) hw1 (by omega) hn1 hn hk1 hk HBE.out).mono ?_); (rintro e w5 ⟨g5, c5, rfl, ho5, hb5⟩); (rw [HX.out] at ho5 ⊢); (have HO5 := hid (ho5.mono HB4.out.size)); (have HL5 := hid (HL4.out.below hb5)); (have HB5 := hid (Below_chain HB4.out hb5)); (clear ho5 hb5))
          | fail)
        go_roundw
        case rel => exact ⟨i + 1, c4, _, c5, some ⟨g4, 0, none⟩, some ⟨g5, 0, none⟩, rfl, rfl, rfl, by omega, HO5.out, HL5.out, HN2.out, HB5.out⟩
        case measure => simp only [slLenN]; omega
      · have q2 : ¬ (i : Int) ≤ 1100 := by omega
        clear hm hne
        go_wp2_with fail
        go_ret
        exact ⟨_, _, i, rfl, HL.out, hi, HNO.out, fun h => absurd h hi2, HB.out⟩
    · have hz : m = 0 := by omega
      have HE := hid (show wdL n k i = [] from List.eq_nil_of_length_eq_zero (by omega))
      subst hz
      clear hm
      go_wp2_with fail
      go_ret
      exact ⟨_, _, i, rfl, HL.out, hi, HNO.out, fun _ => HE.out, HB.out⟩
end Go.Proofs.Ytjghjlhjeibfoab
